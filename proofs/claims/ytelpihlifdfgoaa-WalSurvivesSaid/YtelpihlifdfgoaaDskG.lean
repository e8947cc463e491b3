/-
  What the building of a row, of a block and of a slice of one row comes to. Nothing here is a statement of the document.
-/
import Derived.Test.YtelpihlifdfgoaaWalK
import Derived.Stop.RegionWithIn
import Derived.Test.YtelpihlifdfgoaaDskC
namespace Go.Proofs.Ytelpihlifdfgoaa
open Go.RowKit Go.Shelf
set_option linter.unusedVariables false

/-! ### bytes that end with noughts -/
def pad48 (l : List Nat) : List Nat := l ++ List.replicate (48 - l.length) 0
theorem pad48_len {l : List Nat} (h : l.length ≤ 48) : (pad48 l).length = 48 := by simp [pad48]; omega
theorem pad48_bys {l : List Nat} (h : Bys l) : Bys (pad48 l) := h.append (fun n hn => by have := List.eq_of_mem_replicate hn; omega)

/-- The bytes of a frame's part. -/
def cutL (l : List Nat) (k : Nat) : List Nat := (l.drop (48 * k)).take 48
theorem cutL_len (l : List Nat) (k : Nat) : (cutL l k).length = min 48 (l.length - 48 * k) := by simp [cutL]
def partAt (t n : Nat) (l : List Nat) (k : Nat) : Pt := ⟨t, n, secN l.length - 1 - k, (cutL l k).length, pad48 (cutL l k)⟩
theorem secN_le (n : Nat) : secN n ≤ 834 := by by_cases h : 40000 < n <;> by_cases h0 : n = 0 <;> simp [secN, h, h0] <;> omega
theorem partAt_ok {t n : Nat} {l : List Nat} (ht : t ≤ 4294967295) (hn : n ≤ 4294967295) (hB : Bys l) (k : Nat) : (partAt t n l k).Ok := by
  have h1 := secN_le l.length
  have h2 := cutL_len l k
  exact ⟨ht, hn, by simp only [partAt]; omega, by simp only [partAt]; omega, pad48_len (by omega), pad48_bys ((hB.drop _).take _)⟩

def encP (t n : Nat) (l : List Nat) (k : Nat) : Value × Value := (.int .i64 (k : Int), .agg (partAt t n l k).cs)

/-- A frame's own cells. -/
def fcs (t n : Nat) (a : Option Addr) (len cap : Nat) : Array Value := #[.int .u32 (t : Int), .int .u32 (n : Int), .slice a len cap]

def z48 : List Nat := List.replicate 48 0
theorem z48_len : z48.length = 48 := rfl
def Pt.zero : Pt := ⟨0, 0, 0, 0, z48⟩
theorem z_part : (Try.prog.info? 126).map (fun i => (i.zero, i.size)) = some (some (.agg Pt.zero.cs), 52) := by kernel_rfl
theorem zero_set (t n bh : Nat) : ((Pt.zero.cs.setIfInBounds 0 (.int .u32 (t : Int))).setIfInBounds 1 (.int .u32 (n : Int))).setIfInBounds 2 (.int .u16 (bh : Int)) = (Pt.mk t n bh 0 z48).cs := by
  unfold Pt.cs Pt.zero
  simp only
  generalize (z48.map byc).toArray = X
  rw [← Array.toList_inj]
  simp
theorem build_part (t n bh : Nat) (w : World) : (Instr.build 126 #[(0, .int .u32 (t : Int)), (1, .int .u32 (n : Int)), (2, .int .u16 (bh : Int))]).run Try.prog w = .ok (.agg (Pt.mk t n bh 0 z48).cs) w := by
  have hz := (zero_of_info z_part).1 w
  have hu := run_underlying (P := Try.prog) Try.underlying126 w
  have h52 : Pt.zero.cs.size = 52 := rfl
  rw [← zero_set]
  generalize Pt.zero.cs = zs at *
  unfold Instr.build
  simp only [Sem.run_bind, hz, hu, Result.andThen_ok]
  go_simp

theorem elem_u8 : Try.prog.elem 29 = 5 := by simp [Program.elem, Try.underlying29]
/-- s[k:] of bytes. -/
def cutSem (x lo : Value) : Sem Value := Instr.sliceAt 29 x (some lo) none none
theorem cut_rule (x lo : Value) : Instr.sliceAt 29 x (some lo) none none = cutSem x lo := rfl
theorem cut_run {w : World} {a : Option Addr} {len cap : Nat} {l : List Nat} (hl : l.length = len) (hc : len ≤ cap) (hL : Lies w a l) (k : Nat) (hk : k ≤ len) :
    ∃ a', (∀ w2, (cutSem (.slice a len cap) (.int .i64 (k : Int))).run Try.prog w2 = .ok (.slice a' (len - k) (cap - k)) w2) ∧ Lies w a' (l.drop k) := by
  refine ⟨if cap = k then a else a.map (·.add k), fun w2 => ?_, ?_⟩
  · unfold cutSem
    have hu : Try.prog.underlying 29 = some (.slice (Try.prog.elem 29)) := by rw [elem_u8]; exact Try.underlying29
    rw [run_sliceAt_slice w2 29 _ _ _ _ hu, run_slice_l w2 29 a len cap hu .i64 (k : Int) (by omega) (by omega)]
    rw [elem_u8]
    go_simp
    trace_state
  · rcases Nat.eq_or_lt_of_le hk with e | h
    · left; rw [List.drop_eq_nil_iff]; omega
    · rw [if_neg (by omega)]
      rcases hL with rfl | ⟨b, off, rfl, hb, hc2⟩
      · simp at hl; omega
      · refine .inr ⟨b, off + k, by simp [Addr.add], hb, fun i hi => ?_⟩
        rw [Nat.add_assoc, hc2 (k + i) (by simp at hi; omega)]
        simp [List.getD_eq_getElem?_getD]

/-! ### the copy into a part -/
set_option maxHeartbeats 1000000 in
theorem part_copy {w : World} {t n bh g : Nat} {a : Option Addr} {len cap : Nat} {m0 : List Nat} (hl : m0.length = len) (hb : Blk w g 126 (Pt.mk t n bh 0 z48).cs) (hL : Lies w a m0) :
    ∃ W', (wcopySem 3 #[.slice (some ⟨g, 4, none⟩) 48 48, .slice a len cap]).run Try.prog w = .ok (goInt (m0.take 48).length) W' ∧ Blk W' g 126 (Pt.mk t n bh 0 (pad48 (m0.take 48))).cs ∧ Kept [g] w W' := by
  rcases Nat.eq_zero_or_pos len with h0 | h0
  · have e : m0 = [] := List.eq_nil_of_length_eq_zero (by omega)
    subst e
    refine ⟨w, copy_run0 (by omega), ?_, Kept.refl _ _⟩
    exact hb
  · obtain ⟨ad, rfl, hsrc⟩ := (hL.ahead 48).cells (by simp; omega)
    have h48 : (m0.take 48).length = min 48 len := by simp [hl]
    have := run_copy_row (P := Try.prog) w 29 29 3 5 g 4 48 48 ad len cap (Pt.mk t n bh 0 z48).cs 126 ((m0.take 48).map byc) Try.underlying29 Try.size5 hb (by rw [List.length_map, h48, Nat.min_comm]) hsrc (by rw [Pt.size (by rfl), List.length_map, h48]; omega) (byc_one _)
    refine ⟨_, by rw [wcopySem, this, List.length_map], ?_, (Kept.refl _ _).setRow (.inl (by simp)) _⟩
    have e : ((Pt.mk t n bh 0 z48).cs.toList.take 4 ++ (m0.take 48).map byc ++ (Pt.mk t n bh 0 z48).cs.toList.drop (4 + ((m0.take 48).map byc).length)).toArray = (Pt.mk t n bh 0 (pad48 (m0.take 48))).cs := by
      have hz : (z48.map byc) = List.replicate 48 (byc 0) := by simp [z48, List.map_replicate]
      have hd : (Pt.mk t n bh 0 z48).cs.toList = [.int .u32 (t : Int), .int .u32 (n : Int), .int .u16 (bh : Int), .int .u16 0] ++ List.replicate 48 (byc 0) := by rw [← hz]; simp [Pt.cs]
      have hd2 : (Pt.mk t n bh 0 (pad48 (m0.take 48))).cs.toList = [.int .u32 (t : Int), .int .u32 (n : Int), .int .u16 (bh : Int), .int .u16 0] ++ ((m0.take 48).map byc ++ List.replicate (48 - min 48 len) (byc 0)) := by simp [Pt.cs, pad48, h48, List.map_replicate, hl]
      rw [← Array.toList_inj, hd2, hd]
      simp only [List.length_map, h48]
      obtain ⟨A, hA⟩ : ∃ A, [Value.int IntKind.u32 (t : Int), .int .u32 (n : Int), .int .u16 (bh : Int), .int .u16 0] = A := ⟨_, rfl⟩
      have hA4 : A.length = 4 := by rw [← hA]; rfl
      rw [hA, List.take_append_of_le_length (by omega), List.take_of_length_le (by omega), List.drop_append, List.drop_eq_nil_of_le (by omega), hA4, show 4 + min 48 len - 4 = min 48 len from by omega, List.drop_replicate, List.append_assoc, List.nil_append]
    have hr := hb.row ((Pt.mk t n bh 0 z48).cs.toList.take 4 ++ (m0.take 48).map byc ++ (Pt.mk t n bh 0 z48).cs.toList.drop (4 + ((m0.take 48).map byc).length)).toArray
    rw [e] at hr
    exact (by rw [← List.length_map (f := byc)] ; rw [e]; exact hr)

theorem s_part1 {p : Pt} (h : p.l.length = 48) : (Try.prog.info? 126).map (·.size) = some p.cs.size := s_part h
theorem secN_pos {n : Nat} (h : n ≤ 40000) : 1 ≤ secN n ∧ (0 < n → 48 * (secN n - 1) < n ∧ n ≤ 48 * secN n) := by
  unfold secN
  rw [if_neg (by omega)]
  by_cases h0 : n = 0
  · rw [if_pos h0]; omega
  · rw [if_neg h0]; omega

theorem grown_of_below {w w' : World} (h : Below w.heap.size w w') : w.grownBy w' none := ⟨h.os, h.tape, h.output, h.size, fun k hk _ => h.block k hk⟩

def buildPt (parts : Array (Nat × Value)) : Sem Value := Instr.build 126 parts
theorem build_rule_pt (parts : Array (Nat × Value)) : Instr.build 126 parts = buildPt parts := rfl
theorem buildPt_run (t n bh : Nat) (w : World) : (buildPt #[(0, .int .u32 (t : Int)), (1, .int .u32 (n : Int)), (2, .int .u16 (bh : Int))]).run Try.prog w = .ok (.agg (Pt.mk t n bh 0 z48).cs) w := build_part t n bh w

attribute [local go_sem ↓] load_part_rule store_part_rule wcopy_rule cut_rule build_rule_pt

theorem cell_block_lt {W W' : World} {b : Nat} (h : W'.heap[b]? = W.heap[b]?) (hb : b < W.heap.size) : b < W'.heap.size := by
  rw [Array.getElem?_eq_getElem hb] at h
  exact (Array.getElem?_eq_some_iff.1 h).1

set_option maxRecDepth 100000 in
set_option maxHeartbeats 1000000 in
theorem parts_tells {w : World} {S : List Nat} {fb t n : Nat} {a : Option Addr} {len cap : Nat} {l : List Nat} (hl : l.length = len) (hlm : len ≤ 40000) (hc : len ≤ cap) (hB : Bys l) (ht : t ≤ 4294967295) (hn : n ≤ 4294967295)
    (hb : Blk w fb 105 (fcs t n a len cap)) (hL : Lies w a l) (hfS : fb ∉ S) (haS : ∀ x, a = some x → x.block ∉ S ∧ ∃ o, w.heap[x.block]? = some o ∧ notRow o = true) :
    Tells 80 #[.pointer (some ⟨fb, 0, none⟩)] S (secN len) (encP t n l) w := by
  intro lo J Jx W hWk hlw hlo hJ hJx hY h0
  have hfl : fb ≠ lo := by have := hb.lt; omega
  have haS2 : ∀ x, a = some x → x.block ∉ lo :: S ∧ ∃ o, W.heap[x.block]? = some o ∧ notRow o = true := fun x hx => by
    obtain ⟨h1, o, h2, h3⟩ := haS x hx
    refine ⟨?_, o, hWk.same _ _ h1 h2 h3, h3⟩
    have := (Array.getElem?_eq_some_iff.1 h2).1
    simp only [List.mem_cons, not_or]
    exact ⟨by omega, h1⟩
  replace hL : Lies W a l := by
    rcases hL with h9 | ⟨b, off, rfl, hb9, hc9⟩
    · exact .inl h9
    · obtain ⟨h1, o, h2, h3⟩ := haS _ rfl
      have hs9 : W.heap[b]? = w.heap[b]? := (hWk.same _ _ h1 h2 h3).trans h2.symm
      refine .inr ⟨b, off, rfl, (cell_block_lt hs9 hb9), fun i hi => ?_⟩
      rw [← hc9 i hi]
      simp only [World.cell?, hs9]
  replace hb := hWk.blk hb hfS (by decide)
  clear hlw haS hWk
  have hn8 : (1 : Nat) ≤ 8 := by omega
  have HL := Lib.hid hl
  have hs834 := secN_le len
  have HS := Lib.hid (secN_pos hlm)
  have hcs := (sectors_any (len : Int))
  rw [secI_nat] at hcs
  generalize hN : secN len = N at *
  have HN := Lib.hid hN
  clear hl hN
  have c2 : W.cell? ⟨fb, 2, none⟩ = some (.slice a len cap) := hb.cell 2
  refine callsIn_of_wp Try.func80 rfl trivial ?_ rfl
  simp only [Try.ntmps80, List.size_toArray, List.length_cons, List.length_nil, Nat.reduceAdd, Nat.reduceSub, Array.replicate_succ, Array.replicate_zero, List.push_toArray, List.append_toArray, List.nil_append, List.cons_append]
  gi_wp2
  refine ⟨trivial, ?_⟩
  refine (callsIn_wide.2 (hcs _)).mono ?_
  rintro e w' ⟨rfl, rfl⟩
  gi_wp2
  gi_loopw [11] (fun i wr => ∃ k : Nat, k ≤ N ∧ i = .int .i64 k ∧ J k wr ∧ Blk wr fb 105 (fcs t n a len cap) ∧ Lies wr a l ∧ (∀ x, a = some x → x.block ∉ lo :: S ∧ ∃ o, wr.heap[x.block]? = some o ∧ notRow o = true) ∧ 0 ≤ wr.heap.size) (fun i _ => N - (intOf i).toNat)
  case atStart => exact ⟨0, Nat.zero_le _, rfl, h0, hb, hL, haS2, Nat.zero_le _⟩
  case round =>
    obtain ⟨k, hk, rfl, hJs, hbw, hLw, haw, hsz⟩ := hrel
    by_cases hlt : k < N
    · have c0 : wr.cell? ⟨fb, 0, none⟩ = some (.int .u32 (t : Int)) := hbw.cell 0
      have c1 : wr.cell? ⟨fb, 1, none⟩ = some (.int .u32 (n : Int)) := hbw.cell 1
      have hbu := buildPt_run t n (N - 1 - k)
      have hcv : ((N : Int) - 1 - (k : Int)) = ((N - 1 - k : Nat) : Int) := by omega
      obtain ⟨W1, hW1⟩ : ∃ W1, wr.alloc (.cells (Pt.mk t n (N - 1 - k) 0 z48).cs 126) = W1 := ⟨_, rfl⟩
      have hzs : Pt.zero.cs.size = (Pt.mk t n (N - 1 - k) 0 z48).cs.size := by rw [Pt.size rfl, Pt.size rfl]
      have HZ := Lib.hid hzs
      clear hzs
      generalize hps : (Pt.mk t n (N - 1 - k) 0 z48).cs = ps at *
      have HPS := Lib.hid hps
      clear hps
      have hps1 : ps.all (·.oneCell') = true := by rw [← HPS.out]; exact Pt.one _
      have hps2 : (Try.prog.info? 126).map (·.size) = some ps.size := by rw [← HPS.out]; exact s_part rfl
      have HP2 := Lib.hid (And.intro hps1 hps2)
      clear hps1 hps2
      gi_wp2_with (first | (with_reducible refine wpListIn_alloc_z rfl 126 rfl Pt.zero.cs 52 z_part ?_) | (with_reducible refine wpListIn_store_new rfl 126 (.tmp 5) (.tmp 23) rfl ps Pt.zero.cs _ rfl rfl HZ.out HP2.out.2 HP2.out.1 ?_; rw [hW1]))
      have bw1 : Blk W1 wr.heap.size 126 (Pt.mk t n (N - 1 - k) 0 z48).cs := by rw [← hW1, HPS.out]; exact Blk.new _ _ _
      have hk1 : Kept [] wr W1 := by rw [← hW1]; exact (Kept.refl _ _).alloc _
      have bf1 : Blk W1 fb 105 (fcs t n a len cap) := hbw.kept hk1 (by simp)
      have hL1 : Lies W1 a l := by rw [← hW1]; exact hLw.alloc _
      have hk48 : k * 48 ≤ len := by
        rcases Nat.eq_zero_or_pos len with h9 | h9
        · have := HS.out.1
          have hN1 : N = 1 := by have := HN.out; rw [h9] at this; rw [← this]; rfl
          omega
        · have := (HS.out.2 h9).1; omega
      obtain ⟨a', hcut, hLc⟩ := cut_run HL.out hc hL1 (k * 48) hk48
      rw [show ((k * 48 : Nat) : Int) = (k : Int) * 48 from by omega] at hcut
      obtain ⟨W2, hcp, bw2, hk2⟩ := part_copy (w := W1.drew) (cap := cap - k * 48) (len := len - k * 48) (by rw [List.length_drop, HL.out]) bw1.drew (show Lies W1.drew a' (l.drop (k * 48)) from hLc)
      have hM : ((l.drop (k * 48)).take 48).length ≤ 48 := by rw [List.length_take]; omega
      obtain ⟨m, hm⟩ : ∃ m, (l.drop (k * 48)).take 48 = m := ⟨_, rfl⟩
      rw [hm] at hcp bw2 hM
      have hpt : partAt t n l k = Pt.mk t n (N - 1 - k) m.length (pad48 m) := by unfold partAt cutL; rw [HL.out, HN.out, Nat.mul_comm 48 k, hm]
      have c23 : W1.drew.cell? ⟨fb, 2, none⟩ = some (.slice a len cap) := bf1.cell 2
      have d3 : W2.cell? ⟨wr.heap.size, 3, none⟩ = some (.int .u16 0) := (bw2.cell 3).trans (Pt.c3 _)
      have d3f : W2.frozen? ⟨wr.heap.size, 3, none⟩ = false := bw2.free 3
      obtain ⟨W3, hW3⟩ : ∃ W3, W2.setCell ⟨wr.heap.size, 3, none⟩ (.int .u16 (m.length : Int)) = W3 := ⟨_, rfl⟩
      have bw3 : Blk W3 wr.heap.size 126 (partAt t n l k).cs := by
        rw [← hW3, hpt]
        have h9 := bw2.set 3 (.int .u16 (m.length : Int))
        have e9 : (Pt.mk t n (N - 1 - k) 0 (pad48 m)).cs.setIfInBounds 3 (.int .u16 (m.length : Int)) = (Pt.mk t n (N - 1 - k) m.length (pad48 m)).cs := by
          unfold Pt.cs
          simp only
          generalize ((pad48 m).map byc).toArray = X
          rw [← Array.toList_inj]
          simp
        rw [e9] at h9
        exact h9
      have hk3 : Kept [wr.heap.size] W1 W3 := by rw [← hW3]; exact (hk2.of_drew).setCell (.inl (by simp)) _
      have hk13 : Kept [] wr W3 := hk1.trans2 hk3 (by simp)
      have bf3 := bf1.kept hk3 (by have := hbw.lt; simp; omega)
      have hb13 : Below wr.heap.size wr W3 := hk13.below (by simp) (Nat.le_refl _)
      have hL3 : Lies W3 a l := hLw.kept hb13
      have haS3 : ∀ x, a = some x → x.block ∉ lo :: S ∧ ∃ o, W3.heap[x.block]? = some o ∧ notRow o = true := fun x hx => by
        obtain ⟨h1, o, h2, h3⟩ := haw x hx
        exact ⟨h1, o, (hb13.block _ (Array.getElem?_eq_some_iff.1 h2).1).trans h2, h3⟩
      have hJ3 : J k W3 := hJ _ _ _ none hJs (grown_of_below hb13) (fun r h => by cases h)
      have LP := lpart bw3 (pad48_len (by have := cutL_len l k; omega))
      obtain ⟨fn, tmps, assign, body, hy, hR⟩ := hY k W3 hlt hJ3
      unfold encP at hy
      have H3 := Lib.hid (And.intro bf3 hL3)
      clear bf3 hL3 hb13 hk13 hk3 bw3 hpt bw2 hk2 hLc hL1 bf1 hk1 bw1 hbw hLw hJ3 hJs c0 c1 c2 hbu hcv hb hL
      generalize hpc : (partAt t n l k).cs = pc at *
      have HPC := Lib.hid hpc
      clear hpc
      clear hm
      generalize hml : m.length = ml at *
      clear hml
      have hwr : IntKind.i64.wrap ((k : Int) * 48) = (k : Int) * 48 := by
        have h1 : (k : Int) * 48 < 9223372036854775808 := by omega
        have h2 : 0 ≤ (k : Int) * 48 := by omega
        generalize (k : Int) * 48 = z at *
        unfold IntKind.wrap
        simp [IntKind.bits, IntKind.signed]
        omega
      have hwm : IntKind.u16.wrap (ml : Int) = (ml : Int) := by
        unfold IntKind.wrap
        simp [IntKind.bits, IntKind.signed]
        omega
      gi_region
      clear hcut hcp hwr hwm hW1 hW3 c23 d3 d3f
      gi_wp2
      refine hR.mono ?_
      rintro e W4 ⟨hk4, ⟨rfl, hJ4⟩ | ⟨rfl, hJx4⟩⟩
      · have hb4 : Blk W4 fb 105 (fcs t n a len cap) := hk4.blk H3.out.1 (by simp only [List.mem_cons, not_or]; exact ⟨hfl, hfS⟩) (by decide)
        have hL4 : Lies W4 a l := by
          rcases H3.out.2 with h9 | ⟨b, off, rfl, hb9, hc9⟩
          · exact .inl h9
          · obtain ⟨h1, o, h2, h3⟩ := haS3 _ rfl
            have hs9 : W4.heap[b]? = W3.heap[b]? := (hk4.same _ _ h1 h2 h3).trans h2.symm
            refine .inr ⟨b, off, rfl, (cell_block_lt hs9 hb9), fun i hi => ?_⟩
            rw [← hc9 i hi]
            simp only [World.cell?, hs9]
        have haS4 : ∀ x, a = some x → x.block ∉ lo :: S ∧ ∃ o, W4.heap[x.block]? = some o ∧ notRow o = true := fun x hx => by
          obtain ⟨h1, o, h2, h3⟩ := haS3 x hx
          exact ⟨h1, o, hk4.same _ _ h1 h2 h3, h3⟩
        gi_wp2
        go_roundw
        case rel => exact ⟨k + 1, by omega, by go_num, hJ4, hb4, hL4, haS4, Nat.zero_le _⟩
        case measure => simp [intOf]; omega
      · gi_wp2
        refine bodyPost_ret (results_none rfl _ _ _) rfl ?_
        exact ⟨⟨_, rfl⟩, .inr ⟨k, by omega, hJx4⟩⟩
    · obtain rfl : k = N := by omega
      gi_wp2
      go_end0
      exact ⟨⟨_, rfl⟩, .inl hJs⟩
end Go.Proofs.Ytelpihlifdfgoaa
namespace Go.Proofs.Ytelpihlifdfgoaa
open Go.RowKit Go.Shelf
set_option linter.unusedVariables false

def rgs (first size : Nat) : Array Value := #[.int .i64 (first : Int), .int .i64 (size : Int)]
def fillE (first : Nat) (b : Bk) (k : Nat) : Value × Value := (.int .i64 ((first + k : Nat) : Int), .agg b.cs)

attribute [local go_sem ↓] load_blk_rule store_blk_rule

set_option maxRecDepth 100000 in
set_option maxHeartbeats 1000000 in
theorem filled_tells {w : World} {rb bb first size : Nat} {b : Bk} {S : List Nat} (hr : Blk w rb 64 (rgs first size)) (hb : Blk w bb 81 b.cs) (hrS : rb ∉ S) (hbS : bb ∉ S) (hm : first + size ≤ 9223372036854775807) :
    Tells 63 #[.pointer (some ⟨rb, 0, none⟩), .pointer (some ⟨bb, 0, none⟩)] S size (fillE first b) w := by
  intro l J Jx W hW hlw hl hJ hJx hY h0
  have hr1 := hW.blk hr hrS (by decide)
  have hb1 := hW.blk hb hbS (by decide)
  have hrl : rb ≠ l := by have := hr.lt; omega
  have hbl : bb ≠ l := by have := hb.lt; omega
  have hn8 : (1 : Nat) ≤ 8 := by omega
  have c1 : W.cell? ⟨rb, 1, none⟩ = some (.int .i64 (size : Int)) := hr1.cell 1
  refine callsIn_of_wp Try.func63 rfl trivial ?_ rfl
  simp only [Try.ntmps63, List.size_toArray, List.length_cons, List.length_nil, Nat.reduceAdd, Nat.reduceSub, Array.replicate_succ, Array.replicate_zero, List.push_toArray, List.append_toArray, List.nil_append, List.cons_append]
  gi_wp2
  gi_loopw [7] (fun i wr => ∃ k : Nat, k ≤ size ∧ i = .int .i64 k ∧ J k wr ∧ Blk wr rb 64 (rgs first size) ∧ Blk wr bb 81 b.cs ∧ 0 ≤ wr.heap.size) (fun i _ => size - (intOf i).toNat)
  case atStart => exact ⟨0, Nat.zero_le _, rfl, h0, hr1, hb1, Nat.zero_le _⟩
  case round =>
    obtain ⟨k, hk, rfl, hJs, hr2, hb2, hsz⟩ := hrel
    by_cases hlt : k < size
    · have d0 : wr.cell? ⟨rb, 0, none⟩ = some (.int .i64 (first : Int)) := hr2.cell 0
      have LB := wlblk hb2
      obtain ⟨fn, tmps, assign, body, hy, hR⟩ := hY k wr hlt hJs
      unfold fillE at hy
      rw [show ((first + k : Nat) : Int) = (first : Int) + (k : Int) from by omega] at hy
      have H2 := Lib.hid (And.intro hr2 hb2)
      clear hr2 hb2 hJs
      generalize b.cs = cs at *
      gi_wp2
      refine hR.mono ?_
      rintro e W3 ⟨hkb, ⟨rfl, hJ3⟩ | ⟨rfl, hJx3⟩⟩
      · have hr3 : Blk W3 rb 64 (rgs first size) := hkb.blk H2.out.1 (by simp [hrl, hrS]) (by decide)
        have hb3 : Blk W3 bb 81 cs := hkb.blk H2.out.2 (by simp [hbl, hbS]) (by decide)
        gi_wp2
        go_roundw
        case rel => exact ⟨k + 1, by omega, by go_num, hJ3, hr3, hb3, Nat.zero_le _⟩
        case measure => simp [intOf]; omega
      · gi_wp2
        refine bodyPost_ret (results_none rfl _ _ _) rfl ?_
        exact ⟨⟨_, rfl⟩, .inr ⟨k, by omega, hJx3⟩⟩
    · obtain rfl : k = size := by omega
      gi_wp2
      go_end0
      exact ⟨⟨_, rfl⟩, .inl hJs⟩

theorem RoundIn.wide {m m' l' l : Nat} {P : Program} {f : FuncId} {tmps : Array Value} {assign body : Code} {w : World} {R : Ending → World → Prop} (h : RoundIn Fence.wide m P l f tmps assign body w R) : RoundIn (Fence.wide.inRound l') m' P l f tmps assign body w R :=
  ⟨trivial, fun c cs _ => h.2 c cs (fun d hd => by cases hd)⟩

set_option maxHeartbeats 400000 in
theorem parts_any (t n : Nat) (a : Option Addr) (len cap : Nat) (w : World) : Calls Try.prog 65 #[.agg (fcs t n a len cap)] w fun e w' =>
    e = .returned (.func (.func 80) #[] #[.pointer (some ⟨w.heap.size, 0, none⟩)]) ∧ Blk w' w.heap.size 105 (fcs t n a len cap) ∧ Below w.heap.size w w' ∧ w'.heap.size = w.heap.size + 1 := by
  have hmf : ∀ (fn : Fn) (first cap : Array Value) (w : World), (Instr.makeFunc fn first cap).run Try.prog w = .ok (.func fn first cap) w := fun _ _ _ _ => rfl
  have hb := Blk.new w 105 (fcs t n a len cap)
  have hk : Below w.heap.size w (w.alloc (.cells (fcs t n a len cap) 105)) := (Below.refl _ _).alloc (Nat.le_refl _) _
  have HB := Lib.hid (And.intro hb hk)
  clear hb hk
  generalize fcs t n a len cap = cs at *
  go_enter Try.func65, Try.ntmps65
  go_wp2
  go_ret
  exact ⟨rfl, HB.out.1, HB.out.2, by simp⟩

def rowE (first t n : Nat) (l : List Nat) (k : Nat) : Value × Value := (.int .i64 ((first + k : Nat) : Int), .agg (partAt t n l k).blk.cs)
theorem s_frame (t n : Nat) (a : Option Addr) (len cap : Nat) : (Try.prog.info? 105).map (·.size) = some (fcs t n a len cap).size := by kernel_rfl
theorem load_frame_rule (v : Value) : Instr.loadAt 105 v = loadSem 105 v := rfl
theorem lframe {w : World} {g t n : Nat} {a : Option Addr} {len cap : Nat} (h : Blk w g 105 (fcs t n a len cap)) : (loadSem 105 (.pointer (some ⟨g, 0, none⟩))).run Try.prog w = .ok (.agg (fcs t n a len cap)) w :=
  loadRes_of h (fun j _ => by rw [Nat.zero_add]) _ Try.underlying105 rfl (s_frame _ _ _ _ _)

theorem two_ways (S : List Nat) (W : World) (A B : World → Prop) : ∀ (e : Ending) (W' : World), KB S W W' ∧ ((e = .returned (.bool true) ∧ A W') ∨ (e = .returned (.bool false) ∧ B W')) → KB S W W' ∧ ∃ b, e = .returned (.bool b) ∧ (b = true → A W') ∧ (b = false → B W') := by
  rintro e W' ⟨h, ⟨rfl, ha⟩ | ⟨rfl, hb⟩⟩
  · exact ⟨h, true, rfl, fun _ => ha, (fun h => by cases h)⟩
  · exact ⟨h, false, rfl, (fun h => by cases h), fun _ => hb⟩

end Go.Proofs.Ytelpihlifdfgoaa
namespace Go.Proofs.Ytelpihlifdfgoaa
open Go.RowKit Go.Shelf
set_option linter.unusedVariables false

def cntF (l : Array Bool) : Nat := l.toList.countP (fun b => !b)

theorem anyIn_inv {F : Fence} {n : Nat} {P : Program} {ops : Array Oper} {Q : Exit → Act → World → Prop} (Inv : Array Bool → Act → World → Prop)
    (hz : ∀ l a w, Inv l a w → cntF l = 0 → Region.ready .any ops l = [])
    (hstep : ∀ l a w i, Inv l a w → i ∈ Region.ready .any ops l → cntF (l.setIfInBounds i true) < cntF l ∧ wpOpIn F n P ops Q i (Inv (l.setIfInBounds i true)) a w)
    (hend : ∀ l a w, Inv l a w → Region.ready .any ops l = [] → Q .normal a w) :
    ∀ (fuel : Nat) (l : Array Bool) (a : Act) (w : World), cntF l ≤ fuel → Inv l a w → wpAnyIn F n P .any ops Q fuel l a w := by
  intro fuel
  induction fuel with
  | zero => exact fun l a w hc hi => ⟨hz l a w hi (by omega), hend l a w hi (hz l a w hi (by omega))⟩
  | succ fuel ih =>
    intro l a w hc hi
    refine ⟨fun h => hend l a w hi h, fun i hm => ?_⟩
    obtain ⟨h1, h2⟩ := hstep l a w i hi hm
    exact wpOpIn_mono (fun a' w' h => ih _ a' w' (by omega) h) h2

attribute [local go_sem] Oper.semAt_some
attribute [local go_sem ↓] load_part_rule store_part_rule load_frame_rule

set_option maxRecDepth 100000 in
set_option maxHeartbeats 1000000 in
theorem rows_tells {w : World} {S : List Nat} {fb ib first t n : Nat} {a : Option Addr} {len cap : Nat} {l : List Nat} (hl : l.length = len) (hlm : len ≤ 40000) (hc : len ≤ cap) (hB : Bys l) (ht : t ≤ 4294967295) (hn : n ≤ 4294967295)
    (hb : Blk w fb 105 (fcs t n a len cap)) (hi : Blk w ib 3 #[.int .i64 (first : Int)]) (hL : Lies w a l) (hfS : fb ∉ S) (hiS : ib ∉ S) (haS : ∀ x, a = some x → x.block ∉ S ∧ ∃ o, w.heap[x.block]? = some o ∧ notRow o = true) (hS : ∀ k ∈ S, k < w.heap.size) (hm : first + 834 ≤ 9223372036854775807) :
    Tells 64 #[.pointer (some ⟨fb, 0, none⟩), .pointer (some ⟨ib, 0, none⟩)] S (secN len) (rowE first t n l) w := by
  intro lo J Jx W hWk hlw hlo hJ hJx hY h0
  have hfl : fb ≠ lo := by have := hb.lt; omega
  have hil : ib ≠ lo := by have := hi.lt; omega
  have hWs := hWk.size
  have hb1 := hWk.blk hb hfS (by decide)
  have hi1 := hWk.blk hi hiS (by decide)
  have haS2 : ∀ x, a = some x → x.block ∉ lo :: S ∧ ∃ o, W.heap[x.block]? = some o ∧ notRow o = true := fun x hx => by
    obtain ⟨h1, o, h2, h3⟩ := haS x hx
    refine ⟨?_, o, hWk.same _ _ h1 h2 h3, h3⟩
    have := (Array.getElem?_eq_some_iff.1 h2).1
    simp only [List.mem_cons, not_or]
    exact ⟨by omega, h1⟩
  have hL1 : Lies W a l := by
    rcases hL with h9 | ⟨b, off, rfl, hb9, hc9⟩
    · exact .inl h9
    · obtain ⟨h1, o, h2, h3⟩ := haS _ rfl
      have hs9 : W.heap[b]? = w.heap[b]? := (hWk.same _ _ h1 h2 h3).trans h2.symm
      refine .inr ⟨b, off, rfl, (cell_block_lt hs9 hb9), fun i hi => ?_⟩
      rw [← hc9 i hi]
      simp only [World.cell?, hs9]
  have hsS : ∀ k ∈ lo :: S, k < W.heap.size := by
    intro k hk
    rcases List.mem_cons.1 hk with rfl | hk
    · exact hlo
    · have := hS k hk; omega
  have hs834 := secN_le len
  generalize hN : secN len = N at *
  have HN := Lib.hid hN
  clear hN
  -- the box of yield
  obtain ⟨W1, hW1⟩ : ∃ W1, W.alloc (.cells #[.func (.yield lo) #[] #[]] 118) = W1 := ⟨_, rfl⟩
  have bq : Blk W1 W.heap.size 118 #[.func (.yield lo) #[] #[]] := by rw [← hW1]; exact Blk.new _ _ _
  have hk1 : Below W.heap.size W W1 := by rw [← hW1]; exact (Below.refl _ _).alloc (Nat.le_refl _) _
  have hs1 : W1.heap.size = W.heap.size + 1 := by rw [← hW1]; simp
  have bf1 := hb1.kept (Kept.of_below [] hk1) (by simp)
  have LF := lframe bf1
  have hcall := parts_any t n a len cap W1
  have H1 := Lib.hid (And.intro bq (And.intro hk1 (And.intro hs1 (And.intro hb1 (And.intro hi1 (And.intro hL1 haS2))))))
  clear bq hk1 hs1 hb1 hi1 hL1 haS2 bf1 hL haS hb hi
  generalize hcs : fcs t n a len cap = cs at *
  have HCS := Lib.hid hcs
  clear hcs
  refine callsIn_wide.2 (calls_of_wp_marks Try.func64 rfl ?_)
  simp only [Try.ntmps64, List.size_toArray, List.length_cons, List.length_nil, Nat.reduceAdd, Nat.reduceSub, Array.replicate_succ, Array.replicate_zero, List.push_toArray, List.append_toArray, List.nil_append, List.cons_append]
  go_wp2_with fail
  refine hcall.mono ?_
  rintro e W2 ⟨rfl, bp, hk2, hs2⟩
  clear hcall LF
  go_wp2_with fail
  have hW2b : Below W.heap.size W W2 := H1.out.2.1.trans (hk2.mono H1.out.2.1.size)
  have hq2 : W2.heap.size = W.heap.size + 2 := by rw [hs2, H1.out.2.2.1]
  have bq2 : Blk W2 W.heap.size 118 #[.func (.yield lo) #[] #[]] := H1.out.1.kept (Kept.of_below [] hk2) (by simp)
  have bi2 : Blk W2 ib 3 #[.int .i64 (first : Int)] := H1.out.2.2.2.2.1.kept (Kept.of_below [] hW2b) (by simp)
  have hJ2 : J 0 W2 := hJ _ _ _ none h0 (grown_of_below hW2b) (fun r h => by cases h)
  have hqS : W.heap.size ∉ lo :: S := fun hm => by have := hsS _ hm; omega
  have hibS : ib ∉ lo :: S := by simp only [List.mem_cons, not_or]; exact ⟨hil, hiS⟩
  have hseq : Tells 80 #[.pointer (some ⟨W1.heap.size, 0, none⟩)] (lo :: S) N (encP t n l) W2 := by
    rw [← HN.out]
    refine parts_tells hl hlm hc hB ht hn (by rw [HCS.out]; exact bp) (H1.out.2.2.2.2.2.1.kept hW2b) (fun hm => by have := hsS _ hm; have := H1.out.2.2.1; omega) (fun x hx => ?_)
    obtain ⟨h1, o, h2, h3⟩ := H1.out.2.2.2.2.2.2 x hx
    exact ⟨h1, o, (hW2b.block _ (Array.getElem?_eq_some_iff.1 h2).1).trans h2, h3⟩
  refine wp_range_row (S := lo :: S) (N := N) (enc := encP t n l) none rfl (enters_of Try.func80 (by kernel_rfl) rfl) hseq (fun k hk => by have := hsS k hk; omega)
    (fun k X => J k X ∧ Blk X W.heap.size 118 #[.func (.yield lo) #[] #[]] ∧ Blk X ib 3 #[.int .i64 (first : Int)])
    (fun k X => Jx k X) (OwnFrom.and (own_mono hJ (by omega)) (OwnFrom.and (own_blk _ _ _ _) (own_blk _ _ _ _))) (own_mono hJx (by omega)) ⟨hJ2, bq2, bi2⟩
    (fun k a' X => ∃ Bx, Blk X Bx 126 (partAt t n l k).cs ∧ a' = { tmps := #[.func (.yield lo) #[] #[], .pointer (some ⟨fb, 0, none⟩), .pointer (some ⟨ib, 0, none⟩), .pointer (some ⟨W.heap.size, 0, none⟩), .int .i64 (k : Int), .pointer (some ⟨Bx, 0, none⟩), .agg cs, .func (.func 80) #[] #[.pointer (some ⟨W1.heap.size, 0, none⟩)], .int .i64 (k : Int), .agg (partAt t n l k).cs, undef, undef, undef, undef, undef, undef, undef, undef], defers := [] })
    ?hAx ?assign ?body ?done ?stop
  case hAx => exact fun k a' s X Y row hs hg hr => by obtain ⟨Bx, e1, e2⟩ := hs; exact ⟨Bx, own_blk (β := Unit) _ _ _ (fun _ => (partAt t n l k).cs) () X Y row e1 hg hr, e2⟩
  case assign =>
    intro k X K hk hX hI hK
    have hok : (partAt t n l k).l.length = 48 := (partAt_ok ht hn hB k).len
    have hz : Pt.zero.cs.size = (partAt t n l k).cs.size := by rw [Pt.size rfl, Pt.size hok]
    have HZ := Lib.hid hz
    clear hz
    show Code.wpIn _ _ _ _ _ { tmps := #[.func (.yield lo) #[] #[], .pointer (some ⟨fb, 0, none⟩), .pointer (some ⟨ib, 0, none⟩), .pointer (some ⟨W.heap.size, 0, none⟩), undef, undef, .agg cs, .func (.func 80) #[] #[.pointer (some ⟨W1.heap.size, 0, none⟩)], .int .i64 (k : Int), .agg (partAt t n l k).cs, undef, undef, undef, undef, undef, undef, undef, undef], defers := [] } _
    gi_wp2_with (first | (with_reducible refine wpListIn_alloc_z rfl 126 rfl Pt.zero.cs 52 z_part ?_) | (with_reducible refine wpListIn_store_new rfl 126 (.tmp 5) (.tmp 9) rfl (partAt t n l k).cs Pt.zero.cs _ rfl rfl HZ.out (s_part hok) (Pt.one _) ?_))
    have hB1 : Below X.heap.size X (X.alloc (.cells (partAt t n l k).cs 126)) := (Below.refl _ _).alloc (Nat.le_refl _) _
    exact hK _ _ (KB.below hB1) ⟨hJ _ _ _ none hI.1 (grown_of_below hB1) (fun r h => by cases h), hI.2.1.alloc _, hI.2.2.alloc _⟩ ⟨_, Blk.new _ _ _, rfl⟩
  case body =>
    rintro k a' X ⟨hJk, bq, bi⟩ ⟨Bx, bx, rfl⟩ hk hX
    have hpok := partAt_ok ht hn hB k
    have cq : X.cell? ⟨W.heap.size, 0, none⟩ = some (.func (.yield lo) #[] #[]) := bq.cell 0
    have ci : X.cell? ⟨ib, 0, none⟩ = some (.int .i64 (first : Int)) := bi.cell 0
    have cqf : ∀ w', Below X.heap.size X w' → w'.cell? ⟨W.heap.size, 0, none⟩ = some (.func (.yield lo) #[] #[]) := fun w' hb => (hb.cell (p := ⟨W.heap.size, 0, none⟩) (by exact bq.lt)).trans cq
    have cif : ∀ w', Below X.heap.size X w' → w'.cell? ⟨ib, 0, none⟩ = some (.int .i64 (first : Int)) := fun w' hb => (hb.cell (p := ⟨ib, 0, none⟩) (by exact bi.lt)).trans ci
    have lpf : ∀ w', Below X.heap.size X w' → (loadSem 126 (.pointer (some ⟨Bx, 0, none⟩))).run Try.prog w' = .ok (.agg (partAt t n l k).cs) w' := fun w' hb => lpart (bx.kept (Kept.of_below [] hb) (by simp)) hpok.len
    have blf := pblock_any (partAt t n l k) hpok
    have hyf : ∀ X5, Below X.heap.size X X5 → YieldAt Fence.wide 8 Try.prog lo #[.int .i64 ((first : Int) + (k : Int)), .agg (partAt t n l k).blk.cs] X5 fun e W' => KB (lo :: S) X5 W' ∧ ∃ b, e = .returned (.bool b) ∧ (b = true → J (k + 1) W') ∧ (b = false → Jx k W') := fun X5 hb => by
      have h9 := hY k X5 hk (hJ _ _ _ none hJk (grown_of_below hb) (fun r h => by cases h))
      unfold rowE at h9
      rw [show ((first + k : Nat) : Int) = (first : Int) + (k : Int) from by omega] at h9
      exact YieldAt.mono h9 (two_ways _ _ _ _)
    have hwr : IntKind.i64.wrap ((first : Int) + (k : Int)) = (first : Int) + (k : Int) := by rw [IntKind.wrap_i64]; omega
    have hbr : Below X.heap.size X X.drew := (Below.refl _ _).drew
    have hkX : ∀ X5 X6, Below X.heap.size X X5 → KB (lo :: S) X5 X6 → KB (lo :: S) X X6 ∧ Blk X6 W.heap.size 118 #[.func (.yield lo) #[] #[]] ∧ Blk X6 ib 3 #[.int .i64 (first : Int)] := fun X5 X6 hb hkb =>
      ⟨(KB.below hb).trans hkb, hkb.blk (bq.kept (Kept.of_below [] hb) (by simp)) hqS (by decide), hkb.blk (bi.kept (Kept.of_below [] hb) (by simp)) hibS (by decide)⟩
    have HF := Lib.hid (And.intro cqf (And.intro cif (And.intro lpf (And.intro blf (And.intro hyf hkX)))))
    clear cqf cif lpf blf hyf hkX cq ci bq bi bx hpok hX hJk hseq bq2 bi2 hJ2 hW2b h0 hWk hlw bp hk2 hs2 hW1 hsS hfl hil hWs H1 HCS hq2 hY hJ hqS hibS hJx hlo hS hfS hiS hl hlm hc hB ht hn hk
    generalize (partAt t n l k).blk.cs = bc at *
    generalize (partAt t n l k).cs = pc at *
    gi_wp2_with fail
    refine wpIn_region_any (by kernel_rfl) ?_
    refine anyIn_inv (fun ls a w => ∃ b0 b1 b2 b3 b4 b5 b6 b7 : Bool, ∃ x10 x11 x12 x13 x14 x15 x16 x17 : Value, ls = #[b0, b1, b2, b3, b4, b5, b6, b7] ∧
      a = { tmps := #[.func (.yield lo) #[] #[], .pointer (some ⟨fb, 0, none⟩), .pointer (some ⟨ib, 0, none⟩), .pointer (some ⟨W.heap.size, 0, none⟩), .int .i64 (k : Int), .pointer (some ⟨Bx, 0, none⟩), .agg cs, .func (.func 80) #[] #[.pointer (some ⟨W1.heap.size, 0, none⟩)], .int .i64 (k : Int), .agg pc, x10, x11, x12, x13, x14, x15, x16, x17], defers := [] } ∧
      (b0 = true → x10 = .func (.yield lo) #[] #[]) ∧ (b1 = true → x11 = .int .i64 (first : Int)) ∧ (b2 = true → x12 = .int .i64 (k : Int)) ∧ (b3 = true → (b1 = true ∧ b2 = true) ∧ x13 = .int .i64 ((first : Int) + (k : Int))) ∧ (b4 = true → x14 = .agg pc) ∧ (b5 = true → b4 = true ∧ x15 = .agg bc) ∧
      (b6 = false → Below X.heap.size X w) ∧ (b6 = true → (b0 = true ∧ b1 = true ∧ b2 = true ∧ b3 = true ∧ b4 = true ∧ b5 = true) ∧ ∃ X5 b, Below X.heap.size X X5 ∧ KB (lo :: S) X5 w ∧ x16 = .bool b ∧ ((b = true → J (k + 1) w) ∧ (b = false → Jx k w)) ∧ (b7 = true → x17 = .bool (!b))) ∧ (b7 = true → b6 = true)) ?_ ?_ ?_ _ _ _ _ (by decide +kernel) ?_
    · rintro ls a w ⟨b0, b1, b2, b3, b4, b5, b6, b7, x10, x11, x12, x13, x14, x15, x16, x17, rfl, -⟩
      revert b0 b1 b2 b3 b4 b5 b6 b7
      decide +kernel
    · rintro ls a w i ⟨b0, b1, b2, b3, b4, b5, b6, b7, x10, x11, x12, x13, x14, x15, x16, x17, rfl, rfl, h0, h1, h2, h3, h4, h5, h6f, h6, h7⟩ hi
      obtain ⟨hi8, hcnt, e0, e1, e2, e3, e4, e5, e6, e7⟩ : (i < 8 ∧ cntF (#[b0, b1, b2, b3, b4, b5, b6, b7].setIfInBounds i true) < cntF #[b0, b1, b2, b3, b4, b5, b6, b7] ∧ (i = 0 → b0 = false) ∧ (i = 1 → b1 = false) ∧ (i = 2 → b2 = false) ∧ (i = 3 → b1 = true ∧ b2 = true ∧ b3 = false) ∧ (i = 4 → b4 = false) ∧ (i = 5 → b4 = true ∧ b5 = false) ∧ (i = 6 → (b0 = true ∧ b3 = true ∧ b5 = true) ∧ b6 = false) ∧ (i = 7 → b6 = true ∧ b7 = false)) := by
        clear h0 h1 h2 h3 h4 h5 h6f h6 h7
        refine of_decide_eq_true (List.all_eq_true.1 (?_ : List.all _ (fun x => decide (x < 8 ∧ cntF (#[b0, b1, b2, b3, b4, b5, b6, b7].setIfInBounds x true) < cntF #[b0, b1, b2, b3, b4, b5, b6, b7] ∧ (x = 0 → b0 = false) ∧ (x = 1 → b1 = false) ∧ (x = 2 → b2 = false) ∧ (x = 3 → b1 = true ∧ b2 = true ∧ b3 = false) ∧ (x = 4 → b4 = false) ∧ (x = 5 → b4 = true ∧ b5 = false) ∧ (x = 6 → (b0 = true ∧ b3 = true ∧ b5 = true) ∧ b6 = false) ∧ (x = 7 → b6 = true ∧ b7 = false))) = true) i hi)
        clear hi
        revert b0 b1 b2 b3 b4 b5 b6 b7
        decide +kernel
      refine ⟨hcnt, ?_⟩
      have h6b : b6 = true → ¬ (b0 = false ∨ b1 = false ∨ b2 = false ∨ b3 = false ∨ b4 = false ∨ b5 = false) := fun e => by
        obtain ⟨⟨u0, u1, u2, u3, u4, u5⟩, _⟩ := h6 e
        simp [u0, u1, u2, u3, u4, u5]
      clear hcnt hi
      have HH := Lib.hid (And.intro h0 (And.intro h1 (And.intro h2 (And.intro h3 (And.intro h4 (And.intro h5 (And.intro h6f (And.intro h6 h7))))))))
      have H6b := Lib.hid h6b
      obtain ⟨g0, g1, g2, g3, g4, g5, g6f, g6, g7⟩ := HH.out
      clear h0 h1 h2 h3 h4 h5 h6f h6 h7 h6b
      rcases i with _ | _ | _ | _ | _ | _ | _ | _ | i
      · have hb6 : b6 = false := by cases hb : b6 with | false => rfl | true => exact absurd (.inl (e0 rfl)) (H6b.out hb)
        have hb := g6f hb6
        have c9 := HF.out.1 w hb
        clear e0 e1 e2 e3 e4 e5 e6 e7 g0 g1 g2 g3 g4 g5 g6f g6 g7
        refine wpOpIn_step rfl (fun K' hK' => ?_)
        go_simp
        refine hK' _ _ ⟨true, b1, b2, b3, b4, b5, b6, b7, _, x11, x12, x13, x14, x15, x16, x17, rfl, rfl, fun _ => rfl, HH.out.2.1, HH.out.2.2.1, HH.out.2.2.2.1, HH.out.2.2.2.2.1, HH.out.2.2.2.2.2.1, HH.out.2.2.2.2.2.2.1, (fun h => (by rw [hb6] at h; cases h)), HH.out.2.2.2.2.2.2.2.2⟩
      · have hb6 : b6 = false := by cases hb : b6 with | false => rfl | true => exact absurd (.inr (.inl (e1 rfl))) (H6b.out hb)
        have hb := g6f hb6
        have c9 := HF.out.2.1 w hb
        clear e0 e1 e2 e3 e4 e5 e6 e7 g0 g1 g2 g3 g4 g5 g6f g6 g7
        refine wpOpIn_step rfl (fun K' hK' => ?_)
        go_simp
        refine hK' _ _ ⟨b0, true, b2, b3, b4, b5, b6, b7, x10, _, x12, x13, x14, x15, x16, x17, rfl, rfl, HH.out.1, fun _ => rfl, HH.out.2.2.1, fun h => ⟨⟨rfl, (HH.out.2.2.2.1 h).1.2⟩, (HH.out.2.2.2.1 h).2⟩, HH.out.2.2.2.2.1, HH.out.2.2.2.2.2.1, HH.out.2.2.2.2.2.2.1, (fun h => (by rw [hb6] at h; cases h)), HH.out.2.2.2.2.2.2.2.2⟩
      · have hb6 : b6 = false := by cases hb : b6 with | false => rfl | true => exact absurd (.inr (.inr (.inl (e2 rfl)))) (H6b.out hb)
        have hb := g6f hb6
        clear e0 e1 e2 e3 e4 e5 e6 e7 g0 g1 g2 g3 g4 g5 g6f g6 g7
        refine wpOpIn_step rfl (fun K' hK' => ?_)
        go_simp
        refine hK' _ _ ⟨b0, b1, true, b3, b4, b5, b6, b7, x10, x11, _, x13, x14, x15, x16, x17, rfl, rfl, HH.out.1, HH.out.2.1, fun _ => rfl, fun h => ⟨⟨(HH.out.2.2.2.1 h).1.1, rfl⟩, (HH.out.2.2.2.1 h).2⟩, HH.out.2.2.2.2.1, HH.out.2.2.2.2.2.1, HH.out.2.2.2.2.2.2.1, (fun h => (by rw [hb6] at h; cases h)), HH.out.2.2.2.2.2.2.2.2⟩
      · have hb6 : b6 = false := by cases hb : b6 with | false => rfl | true => exact absurd (.inr (.inr (.inr (.inl (e3 rfl).2.2)))) (H6b.out hb)
        have hb := g6f hb6
        obtain ⟨u1, u2, u3⟩ := e3 rfl
        obtain rfl := g1 u1
        obtain rfl := g2 u2
        clear e0 e1 e2 e3 e4 e5 e6 e7 g0 g1 g2 g3 g4 g5 g6f g6 g7
        refine wpOpIn_step rfl (fun K' hK' => ?_)
        go_simp
        refine hK' _ _ ⟨b0, b1, b2, true, b4, b5, b6, b7, x10, _, _, _, x14, x15, x16, x17, rfl, rfl, HH.out.1, HH.out.2.1, HH.out.2.2.1, fun _ => ⟨⟨u1, u2⟩, rfl⟩, HH.out.2.2.2.2.1, HH.out.2.2.2.2.2.1, HH.out.2.2.2.2.2.2.1, (fun h => (by rw [hb6] at h; cases h)), HH.out.2.2.2.2.2.2.2.2⟩
      · have hb6 : b6 = false := by cases hb : b6 with | false => rfl | true => exact absurd (.inr (.inr (.inr (.inr (.inl (e4 rfl)))))) (H6b.out hb)
        have hb := g6f hb6
        have c9 := HF.out.2.2.1 w hb
        clear e0 e1 e2 e3 e4 e5 e6 e7 g0 g1 g2 g3 g4 g5 g6f g6 g7
        refine wpOpIn_step rfl (fun K' hK' => ?_)
        go_simp
        refine hK' _ _ ⟨b0, b1, b2, b3, true, b5, b6, b7, x10, x11, x12, x13, _, x15, x16, x17, rfl, rfl, HH.out.1, HH.out.2.1, HH.out.2.2.1, HH.out.2.2.2.1, fun _ => rfl, fun h => ⟨rfl, (HH.out.2.2.2.2.2.1 h).2⟩, HH.out.2.2.2.2.2.2.1, (fun h => (by rw [hb6] at h; cases h)), HH.out.2.2.2.2.2.2.2.2⟩
      · have hb6 : b6 = false := by cases hb : b6 with | false => rfl | true => exact absurd (.inr (.inr (.inr (.inr (.inr (e5 rfl).2))))) (H6b.out hb)
        have hb := g6f hb6
        obtain ⟨u4, u5⟩ := e5 rfl
        obtain rfl := g4 u4
        have c9 := HF.out.2.2.2.1 w
        clear e0 e1 e2 e3 e4 e5 e6 e7 g0 g1 g2 g3 g4 g5 g6f g6 g7
        refine wpOpIn_step rfl (fun K' hK' => ?_)
        go_simp
        refine ⟨trivial, ?_⟩
        refine (CallsIn.inRound _ (callsIn_wide.2 c9)).mono ?_
        rintro e w5 ⟨rfl, hb5⟩
        refine hK' _ _ ⟨b0, b1, b2, b3, b4, true, b6, b7, x10, x11, x12, x13, _, _, x16, x17, rfl, rfl, HH.out.1, HH.out.2.1, HH.out.2.2.1, HH.out.2.2.2.1, HH.out.2.2.2.2.1, fun _ => ⟨u4, rfl⟩, fun _ => hb.trans (hb5.mono hb.size), (fun h => (by rw [hb6] at h; cases h)), HH.out.2.2.2.2.2.2.2.2⟩
      · obtain ⟨⟨u0, u3, u5⟩, hb6⟩ := e6 rfl
        have hb := g6f hb6
        obtain rfl := g0 u0
        obtain ⟨⟨u1, u2⟩, rfl⟩ := g3 u3
        obtain ⟨u4, rfl⟩ := g5 u5
        obtain ⟨yfn, ytm, yas, ybo, hy, hR⟩ := HF.out.2.2.2.2.1 w hb
        clear e0 e1 e2 e3 e4 e5 e6 e7 g0 g1 g2 g3 g4 g5 g6f g6 g7
        refine wpOpIn_step rfl (fun K' hK' => ?_)
        go_simp
        refine (RoundIn.wide hR).mono ?_
        rintro e w6 ⟨hkb6, yb, rfl, hyb⟩
        refine hK' _ _ ⟨b0, b1, b2, b3, b4, b5, true, b7, _, x11, x12, _, x14, _, _, x17, rfl, rfl, HH.out.1, HH.out.2.1, HH.out.2.2.1, HH.out.2.2.2.1, HH.out.2.2.2.2.1, HH.out.2.2.2.2.2.1, (fun h => by cases h), fun _ => ⟨⟨u0, u1, u2, u3, u4, u5⟩, w, yb, hb, hkb6, rfl, hyb, fun h => by rw [HH.out.2.2.2.2.2.2.2.2 h] at hb6; cases hb6⟩, fun _ => rfl⟩
      · obtain ⟨u6, u7⟩ := e7 rfl
        obtain ⟨uu, X5, yb, hb, hkb, rfl, hJb, h17⟩ := g6 u6
        clear e0 e1 e2 e3 e4 e5 e6 e7 g0 g1 g2 g3 g4 g5 g6f g6 g7 h17
        refine wpOpIn_step rfl (fun K' hK' => ?_)
        go_simp
        refine hK' _ _ ⟨b0, b1, b2, b3, b4, b5, b6, true, x10, x11, x12, x13, x14, x15, _, _, rfl, rfl, HH.out.1, HH.out.2.1, HH.out.2.2.1, HH.out.2.2.2.1, HH.out.2.2.2.2.1, HH.out.2.2.2.2.2.1, (fun h => by rw [u6] at h; cases h), fun _ => ⟨uu, X5, yb, hb, hkb, rfl, hJb, fun _ => rfl⟩, fun _ => u6⟩
      · omega
    · rintro ls a w ⟨b0, b1, b2, b3, b4, b5, b6, b7, x10, x11, x12, x13, x14, x15, x16, x17, rfl, rfl, h0, h1, h2, h3, h4, h5, h6f, h6, h7⟩ hi
      obtain ⟨hb6, hb7⟩ : b6 = true ∧ b7 = true := by
        clear h0 h1 h2 h3 h4 h5 h6f h6 h7
        revert b0 b1 b2 b3 b4 b5 b6 b7
        decide +kernel
      obtain ⟨⟨u0, u1, u2, u3, u4, u5⟩, X5, b, hb, hkb, rfl, hJb, h17⟩ := h6 hb6
      obtain rfl := h17 hb7
      obtain ⟨hk1, hk2, hk3⟩ := HF.out.2.2.2.2.2 X5 w hb hkb
      clear h0 h1 h2 h3 h4 h5 h6f h6 h7 hi
      cases b
      · gi_wp2
        all_goals rfl
      · gi_wp2
    · exact ⟨false, false, false, false, false, false, false, false, _, _, _, _, _, _, _, _, rfl, rfl, (fun h => by cases h), (fun h => by cases h), (fun h => by cases h), (fun h => by cases h), (fun h => by cases h), (fun h => by cases h), fun _ => hbr, (fun h => by cases h), (fun h => by cases h)⟩
  case done =>
    rintro X ⟨hJn, _, _⟩ hd
    have hlt := (Array.getElem?_eq_some_iff.1 hd).1
    exact marks_end hd (results_none rfl _ _ _) ⟨⟨_, rfl⟩, .inl (hJ.putObj _ hJn (by omega) hd rfl)⟩
  case stop =>
    rintro k X hk hJk hd
    exact marks_ret hd (results_none rfl _ _ _) ⟨⟨_, rfl⟩, .inr ⟨k, hk, hJx.putObj _ hJk (by omega) hd rfl⟩⟩
end Go.Proofs.Ytelpihlifdfgoaa
namespace Go.Proofs.Ytelpihlifdfgoaa
open Go.RowKit
set_option linter.unusedVariables false

theorem fold_get (off : Nat) : ∀ (l : List Value) (k : Nat) (cs : Array Value), off + k + l.length ≤ cs.size →
    ((l.zipIdx k).foldl (fun cs (x : Value × Nat) => cs.setIfInBounds (off + x.2) x.1) cs).size = cs.size ∧
    ∀ i, ((l.zipIdx k).foldl (fun cs (x : Value × Nat) => cs.setIfInBounds (off + x.2) x.1) cs)[i]? = if off + k ≤ i ∧ i < off + k + l.length then l[i - (off + k)]? else cs[i]? := by
  intro l
  induction l with
  | nil => intro k cs h; exact ⟨rfl, fun i => by rw [if_neg (by simp only [List.length_nil]; omega)]; rfl⟩
  | cons v l ih =>
    intro k cs h
    simp only [List.length_cons] at h
    obtain ⟨h1, h2⟩ := ih (k + 1) (cs.setIfInBounds (off + k) v) (by simp; omega)
    simp only [List.zipIdx_cons, List.foldl_cons]
    refine ⟨h1.trans (by simp), fun i => ?_⟩
    rw [h2 i]
    simp only [List.length_cons]
    by_cases hi : off + (k + 1) ≤ i ∧ i < off + (k + 1) + l.length
    · rw [if_pos hi, if_pos (by omega), show i - (off + k) = (i - (off + (k + 1))) + 1 from by omega, List.getElem?_cons_succ]
    · rw [if_neg hi]
      by_cases he : i = off + k
      · subst he
        have hlt : off + k < cs.size := by omega
        rw [if_pos (by omega), Nat.sub_self]
        simp [hlt]
      · rw [if_neg (by omega), Array.getElem?_setIfInBounds_ne (by omega)]
theorem fold_over (off : Nat) (vs cs : Array Value) (h : off + vs.size ≤ cs.size) : vs.zipIdx.foldl (fun cs (x : Value × Nat) => cs.setIfInBounds (off + x.2) x.1) cs = over cs off vs := by
  have e : vs.zipIdx.foldl (fun cs (x : Value × Nat) => cs.setIfInBounds (off + x.2) x.1) cs = (vs.toList.zipIdx 0).foldl (fun cs (x : Value × Nat) => cs.setIfInBounds (off + x.2) x.1) cs := by
    rw [← Array.foldl_toList, Array.toList_zipIdx]
  obtain ⟨h1, h2⟩ := fold_get off vs.toList 0 cs (by simpa using h)
  rw [e]
  apply Array.ext_getElem?
  intro i
  rw [h2 i, over_get h]
  simp only [Nat.add_zero, Array.length_toList, Array.getElem?_toList]
  by_cases h3 : i < off
  · rw [if_neg (by omega), if_pos h3]
  · rw [if_neg h3]
    by_cases h4 : i < off + vs.size
    · rw [if_pos (by omega), if_pos h4]
    · rw [if_neg (by omega), if_neg h4]

theorem over_row (s : Int) (b : Bk) : over (over Rw.zero.cs 0 #[.int .i64 s]) 1 b.cs = #[.int .i64 s] ++ b.cs := by
  have hz : Rw.zero.cs.size = 65 := Rw.size _
  have hb : b.cs.size = 64 := b.size
  have h1 : (over Rw.zero.cs 0 #[.int .i64 s]).size = 65 := by rw [size_over (by simp [hz])]; exact hz
  apply Array.ext_getElem?
  intro i
  rw [over_get (by omega), over_get (by simp [hz])]
  by_cases h0 : i < 1
  · obtain rfl : i = 0 := by omega
    rw [if_pos (by omega), if_neg (by omega), if_pos (by simp), Array.getElem?_append_left (by simp)]
  · rw [if_neg h0, Array.getElem?_append_right (by simp; omega)]
    by_cases h2 : i < 1 + b.cs.size
    · rw [if_pos h2]; simp
    · rw [if_neg h2, if_neg (by omega), if_neg (by simp; omega), Array.getElem?_eq_none (by omega), Array.getElem?_eq_none (by simp; omega)]

theorem build_row (s : Int) (b : Bk) (w : World) : (Instr.build 83 #[(0, .int .i64 s), (1, .agg b.cs)]).run Try.prog w = .ok (.agg (#[.int .i64 s] ++ b.cs)) w := by
  have hz := (zero_of_info z_row).1 w
  have hu := run_underlying (P := Try.prog) Try.underlying83 w
  unfold Instr.build
  simp only [Sem.run_bind, hz, hu, Result.andThen_ok]
  go_simp
  have h1 : ¬ Rw.zero.cs = #[] := fun e => by have := congrArg Array.size e; rw [Rw.size] at this; simp at this
  have h2 : b.cs.size = 64 := b.size
  have h3 : Rw.zero.cs.size = 65 := Rw.size _
  have h4 : over (over Rw.zero.cs 0 #[.int .i64 s]) 1 b.cs = #[.int .i64 s] ++ b.cs := over_row s b
  have h5 : over Rw.zero.cs 0 #[Value.int .i64 s] = Rw.zero.cs.setIfInBounds 0 (.int .i64 s) := by
    apply Array.ext_getElem?
    intro i
    rw [over_get (by simp [h3])]
    by_cases h0 : i < 1
    · obtain rfl : i = 0 := by omega
      rw [if_neg (by omega), if_pos (by simp)]
      simp [h3]
    · rw [if_neg (by omega), if_neg (by simp; omega), Array.getElem?_setIfInBounds_ne (by omega)]
  have h6 := fold_over 1 b.cs (Rw.zero.cs.setIfInBounds 0 (.int .i64 s)) (by simp [h2, h3])
  have h7 : b.cs.zipIdx.size = b.cs.size := by simp
  rw [h7] at h6
  have h8 : ∀ (A : Option (Array Value)), (if (decide ¬ (Value.agg b.cs).cells.size = 64) = true ∨ Rw.zero.cs.size < 1 + b.cs.size then none else A) = A := fun A => if_neg (by
    rintro (h | h)
    · have : (Value.agg b.cs).cells.size = 64 := h2
      simp [this] at h
    · omega)
  rw [if_neg h1]
  erw [h8]
  rw [h6, ← h5, h4]
  rfl

theorem wpList_build_row {ops : Array Oper} {rest : List Oper} {op : Oper} {a : Act} {w : World} {Q : Exit → Act → World → Prop} (hgd : op.guard = none) (x y : Operand) (ho : op.op = .build 83 #[(0, x), (1, y)]) (r : Rw)
    (hx : a.eval x = .int .i64 (r.s : Int)) (hy : a.eval y = .agg r.b.cs) (hK : wpList Try.prog ops Q rest (a.put op.dst (.agg r.cs)) w) : wpList Try.prog ops Q (op :: rest) a w := by
  refine wpList_plain hgd fun K hK' => ?_
  have hrun := build_row (r.s : Int) r.b w
  unfold Oper.wp
  simp only [execOp, ho, List.map_toArray, List.map_cons, List.map_nil, hx, hy, Sem.run_bind, hrun, Result.andThen_ok]
  exact hK' _ _ hK

/-! ### A slice of one row -/
def buildSem (n : Nat) (parts : Array (Nat × Value)) : Sem Value := Instr.buildSlice 73 n parts
theorem build_rule (n : Nat) (parts : Array (Nat × Value)) : Instr.buildSlice 73 n parts = buildSem n parts := rfl
theorem buildSem_run (r : Rw) (w : World) : (buildSem 1 #[(0, .agg r.cs)]).run Try.prog w = .ok (.slice (some ⟨w.heap.size, 0, none⟩) 1 1) (w.alloc (.cells r.cs 83)) := by
  have hz := (zero_of_info z_row).1 w
  have hu := run_underlying (P := Try.prog) Try.underlying73 w
  have h2 : r.cs.size = 65 := r.size
  have h3 : Rw.zero.cs.size = 65 := Rw.size _
  unfold buildSem Instr.buildSlice
  simp only [Sem.run_bind, hu, Result.andThen_ok]
  have h6 : ∀ C : Array Value, C.size = 65 → Array.foldl (fun cs (x : Value × Nat) => cs.setIfInBounds x.snd x.fst) C r.cs.zipIdx 0 65 = r.cs := by
    intro C hC
    have := fold_over 0 r.cs C (by omega)
    simp only [Nat.zero_add] at this
    rw [over_all (by omega)] at this
    have h7 : r.cs.zipIdx.size = 65 := by simp [h2]
    rw [h7] at this
    exact this
  go_simp

/-! ### Appending one row -/
def appSem (ty : TypeId) (args : Array Value) : Sem Value := Builtin.append_ #[73, 73] ty args
theorem app_rule (ty : TypeId) (args : Array Value) : Builtin.append_ #[73, 73] ty args = appSem ty args := rfl
theorem appSem_run {w : World} {B : Nat} {bv : Value} {R : List Rw} {q : Nat} {r : Rw} (ty : TypeId) (h : w.ownsRow B 83 65 bv R.length (rcs R)) (h8 : R.length ≤ 8) (hq : Blk w q 83 r.cs) (hB : B ≤ w.heap.size) :
    ∃ g cap w', (appSem ty #[bv, .slice (some ⟨q, 0, none⟩) 1 1]).run Try.prog w = .ok (.slice (some ⟨g, 0, none⟩) (R.length + 1) cap) w' ∧
      w'.ownsRow B 83 65 (.slice (some ⟨g, 0, none⟩) (R.length + 1) cap) (R.length + 1) (rcs (R ++ [r])) ∧ w.grownBy w' bv.ownBlock ∧ (bv.ownBlock = some g ∨ w.heap.size ≤ g) := by
  obtain ⟨i0, hi, hz0, hz1, hz2⟩ := info_parts (show (Try.prog.info? 83).map (fun i => (i.zero, i.size, i.bytes)) = some (some (.agg Rw.zero.cs), 65, 72) by kernel_rfl)
  have hone : ∀ u ∈ r.cs.toList, u.oneCell' = true := fun u hu => Array.all_eq_true_iff_forall_mem.1 r.one u (by simpa using hu)
  have hsrc : ∀ j u, r.cs.toList[j]? = some u → w.cell? ((⟨q, 0, none⟩ : Addr).add j) = some u := fun j u hj => by rw [Addr.add_lit, Nat.zero_add, hq.cell]; simpa using hj
  have hnl : r.cs.toList.length = 1 * 65 := by have := r.size; simp [this]
  have e1 : rcs R ++ r.cs.toList = rcs (R ++ [r]) := by rw [rcs_append, rcs_one_row]
  have hrun := fun (B' : Nat) (h' : w.ownsRow B' 83 65 bv R.length (rcs R)) (hB' : B' ≤ w.heap.size) => run_append_own (P := Try.prog) w B' 73 ty 83 i0 (.agg Rw.zero.cs) 65 72 Try.underlying73 hi hz0 hz1 hz2 (Rw.size _) (by decide) bv R.length (rcs R) h' ⟨q, 0, none⟩ 1 1 r.cs.toList hnl hsrc hone (by unfold maxLen; omega) (by omega) hB'
  rcases h.2 with ⟨rfl, h0⟩ | ⟨g, cap, cur, rfl, hbg, hg, hnc, hcm, hcs, htake⟩
  · have hR : R = [] := List.eq_nil_of_length_eq_zero h0
    subst hR
    obtain ⟨v', w', hr, h1, h2, _⟩ := hrun w.heap.size (World.ownsRow_nil _ _ _ _) (Nat.le_refl _)
    rw [e1] at h1
    obtain ⟨g, cap, rfl⟩ := ownsRow_succ h1
    have hge := (h1.lt g rfl).1
    refine ⟨g, cap, w', hr, ⟨h1.1, ?_⟩, h2, .inr hge⟩
    rcases h1.2 with ⟨h9, _⟩ | ⟨g', cap', cur', h9, hb, rest⟩
    · simp at h9
    · exact .inr ⟨g', cap', cur', h9, Nat.le_trans hB hb, rest⟩
  · by_cases hroom : R.length + 1 ≤ cap
    · obtain ⟨w', hr, h1, h2⟩ := run_append_fits (P := Try.prog) w B 73 ty 83 i0 65 Try.underlying73 hi hz1 g R.length cap (rcs R) h ⟨q, 0, none⟩ 1 1 r.cs.toList hnl hsrc hone hroom
      rw [e1] at h1
      exact ⟨g, cap, w', hr, h1, h2, .inl rfl⟩
    · obtain ⟨v', w', hr, h1, h2, _⟩ := hrun B h hB
      have hr2 := run_append_grow (P := Try.prog) w 73 ty 83 i0 (.agg Rw.zero.cs) Try.underlying73 hi hz0 ⟨g, 0, none⟩ R.length cap (rcs R) (by rw [hz1]; exact h.1) (h.cells (g := g) rfl) ⟨q, 0, none⟩ 1 1 r.cs.toList (by rw [hz1]; exact hnl) hsrc (by omega) (by omega) (by rw [hz2]; exact growslice_fits (by omega) (by omega))
      have e2 := hr.symm.trans hr2
      injection e2 with e3 e4
      subst e3
      rw [e1] at h1
      exact ⟨_, _, w', hr, h1, h2, .inr (Nat.le_refl _)⟩
end Go.Proofs.Ytelpihlifdfgoaa
