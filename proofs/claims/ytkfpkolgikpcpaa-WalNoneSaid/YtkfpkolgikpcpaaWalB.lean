/-
  A frame's parts, one behind the other: the contract of parts. Nothing here is a statement of the document.
-/
import Derived.Test.YtkfpkolgikpcpaaWalK
namespace Go.Proofs.Ytkfpkolgikpcpaa
open Go.RowKit Go.Shelf
set_option linter.unusedVariables false

/-! ### bytes that end with noughts -/
def pad48 (l : List Nat) : List Nat := l ++ List.replicate (48 - l.length) 0
theorem pad48_len {l : List Nat} (h : l.length ≤ 48) : (pad48 l).length = 48 := by simp [pad48]; omega
theorem pad48_bys {l : List Nat} (h : Bys l) : Bys (pad48 l) := h.append (fun n hn => by have := List.eq_of_mem_replicate hn; omega)

/-- The bytes of a frame's part. -/
def cutL (l : List Nat) (k : Nat) : List Nat := (l.drop (48 * k)).take 48
theorem cutL_len (l : List Nat) (k : Nat) : (cutL l k).length = min 48 (l.length - 48 * k) := by simp [cutL]
def partAt (t n : Nat) (l : List Nat) (k : Nat) : Pt := ⟨t, n, secN l.length - 1 - k, (cutL l k).length, pad48 (cutL l k)⟩
theorem secN_le (n : Nat) : secN n ≤ 834 := by by_cases h : 40000 < n <;> by_cases h0 : n = 0 <;> simp [secN, h, h0] <;> omega
theorem partAt_ok {t n : Nat} {l : List Nat} (ht : t ≤ 4294967295) (hn : n ≤ 4294967295) (hB : Bys l) (k : Nat) : (partAt t n l k).Ok := by
  have h1 := secN_le l.length
  have h2 := cutL_len l k
  exact ⟨ht, hn, by simp only [partAt]; omega, by simp only [partAt]; omega, pad48_len (by omega), pad48_bys ((hB.drop _).take _)⟩

def encP (t n : Nat) (l : List Nat) (k : Nat) : Value × Value := (.int .i64 (k : Int), .agg (partAt t n l k).cs)

/-- A frame's own cells. -/
def fcs (t n : Nat) (a : Option Addr) (len cap : Nat) : Array Value := #[.int .u32 (t : Int), .int .u32 (n : Int), .slice a len cap]

def z48 : List Nat := List.replicate 48 0
theorem z48_len : z48.length = 48 := rfl
def Pt.zero : Pt := ⟨0, 0, 0, 0, z48⟩
theorem z_part : (Try.prog.info? 120).map (fun i => (i.zero, i.size)) = some (some (.agg Pt.zero.cs), 52) := by kernel_rfl
theorem zero_set (t n bh : Nat) : ((Pt.zero.cs.setIfInBounds 0 (.int .u32 (t : Int))).setIfInBounds 1 (.int .u32 (n : Int))).setIfInBounds 2 (.int .u16 (bh : Int)) = (Pt.mk t n bh 0 z48).cs := by
  unfold Pt.cs Pt.zero
  simp only
  generalize (z48.map byc).toArray = X
  rw [← Array.toList_inj]
  simp
theorem build_part (t n bh : Nat) (w : World) : (Instr.build 120 #[(0, .int .u32 (t : Int)), (1, .int .u32 (n : Int)), (2, .int .u16 (bh : Int))]).run Try.prog w = .ok (.agg (Pt.mk t n bh 0 z48).cs) w := by
  have hz := (zero_of_info z_part).1 w
  have hu := run_underlying (P := Try.prog) Try.underlying120 w
  have h52 : Pt.zero.cs.size = 52 := rfl
  rw [← zero_set]
  generalize Pt.zero.cs = zs at *
  unfold Instr.build
  simp only [Sem.run_bind, hz, hu, Result.andThen_ok]
  go_simp

theorem elem_u8 : Try.prog.elem 22 = 5 := by simp [Program.elem, Try.underlying22]
/-- s[k:] of bytes. -/
def cutSem (x lo : Value) : Sem Value := Instr.sliceAt 22 x (some lo) none none
theorem cut_rule (x lo : Value) : Instr.sliceAt 22 x (some lo) none none = cutSem x lo := rfl
theorem cut_run {w : World} {a : Option Addr} {len cap : Nat} {l : List Nat} (hl : l.length = len) (hc : len ≤ cap) (hL : Lies w a l) (k : Nat) (hk : k ≤ len) :
    ∃ a', (∀ w2, (cutSem (.slice a len cap) (.int .i64 (k : Int))).run Try.prog w2 = .ok (.slice a' (len - k) (cap - k)) w2) ∧ Lies w a' (l.drop k) := by
  refine ⟨if cap = k then a else a.map (·.add k), fun w2 => ?_, ?_⟩
  · unfold cutSem
    have hu : Try.prog.underlying 22 = some (.slice (Try.prog.elem 22)) := by rw [elem_u8]; exact Try.underlying22
    rw [run_sliceAt_slice w2 22 _ _ _ _ hu, run_slice_l w2 22 a len cap hu .i64 (k : Int) (by omega) (by omega)]
    rw [elem_u8]
    go_simp
    trace_state
  · rcases Nat.eq_or_lt_of_le hk with e | h
    · left; rw [List.drop_eq_nil_iff]; omega
    · rw [if_neg (by omega)]
      rcases hL with rfl | ⟨b, off, rfl, hb, hc2⟩
      · simp at hl; omega
      · refine .inr ⟨b, off + k, by simp [Addr.add], hb, fun i hi => ?_⟩
        rw [Nat.add_assoc, hc2 (k + i) (by simp at hi; omega)]
        simp [List.getD_eq_getElem?_getD]

/-! ### the copy into a part -/
set_option maxHeartbeats 1000000 in
theorem part_copy {w : World} {t n bh g : Nat} {a : Option Addr} {len cap : Nat} {m0 : List Nat} (hl : m0.length = len) (hb : Blk w g 120 (Pt.mk t n bh 0 z48).cs) (hL : Lies w a m0) :
    ∃ W', (wcopySem 3 #[.slice (some ⟨g, 4, none⟩) 48 48, .slice a len cap]).run Try.prog w = .ok (goInt (m0.take 48).length) W' ∧ Blk W' g 120 (Pt.mk t n bh 0 (pad48 (m0.take 48))).cs ∧ Kept [g] w W' := by
  rcases Nat.eq_zero_or_pos len with h0 | h0
  · have e : m0 = [] := List.eq_nil_of_length_eq_zero (by omega)
    subst e
    refine ⟨w, copy_run0 (by omega), ?_, Kept.refl _ _⟩
    exact hb
  · obtain ⟨ad, rfl, hsrc⟩ := (hL.ahead 48).cells (by simp; omega)
    have h48 : (m0.take 48).length = min 48 len := by simp [hl]
    have := run_copy_row (P := Try.prog) w 22 22 3 5 g 4 48 48 ad len cap (Pt.mk t n bh 0 z48).cs 120 ((m0.take 48).map byc) Try.underlying22 Try.size5 hb (by rw [List.length_map, h48, Nat.min_comm]) hsrc (by rw [Pt.size (by rfl), List.length_map, h48]; omega) (byc_one _)
    refine ⟨_, by rw [wcopySem, this, List.length_map], ?_, (Kept.refl _ _).setRow (.inl (by simp)) _⟩
    have e : ((Pt.mk t n bh 0 z48).cs.toList.take 4 ++ (m0.take 48).map byc ++ (Pt.mk t n bh 0 z48).cs.toList.drop (4 + ((m0.take 48).map byc).length)).toArray = (Pt.mk t n bh 0 (pad48 (m0.take 48))).cs := by
      have hz : (z48.map byc) = List.replicate 48 (byc 0) := by simp [z48, List.map_replicate]
      have hd : (Pt.mk t n bh 0 z48).cs.toList = [.int .u32 (t : Int), .int .u32 (n : Int), .int .u16 (bh : Int), .int .u16 0] ++ List.replicate 48 (byc 0) := by rw [← hz]; simp [Pt.cs]
      have hd2 : (Pt.mk t n bh 0 (pad48 (m0.take 48))).cs.toList = [.int .u32 (t : Int), .int .u32 (n : Int), .int .u16 (bh : Int), .int .u16 0] ++ ((m0.take 48).map byc ++ List.replicate (48 - min 48 len) (byc 0)) := by simp [Pt.cs, pad48, h48, List.map_replicate, hl]
      rw [← Array.toList_inj, hd2, hd]
      simp only [List.length_map, h48]
      obtain ⟨A, hA⟩ : ∃ A, [Value.int IntKind.u32 (t : Int), .int .u32 (n : Int), .int .u16 (bh : Int), .int .u16 0] = A := ⟨_, rfl⟩
      have hA4 : A.length = 4 := by rw [← hA]; rfl
      rw [hA, List.take_append_of_le_length (by omega), List.take_of_length_le (by omega), List.drop_append, List.drop_eq_nil_of_le (by omega), hA4, show 4 + min 48 len - 4 = min 48 len from by omega, List.drop_replicate, List.append_assoc, List.nil_append]
    have hr := hb.row ((Pt.mk t n bh 0 z48).cs.toList.take 4 ++ (m0.take 48).map byc ++ (Pt.mk t n bh 0 z48).cs.toList.drop (4 + ((m0.take 48).map byc).length)).toArray
    rw [e] at hr
    exact (by rw [← List.length_map (f := byc)] ; rw [e]; exact hr)

theorem s_part1 {p : Pt} (h : p.l.length = 48) : (Try.prog.info? 120).map (·.size) = some p.cs.size := s_part h
theorem secN_pos {n : Nat} (h : n ≤ 40000) : 1 ≤ secN n ∧ (0 < n → 48 * (secN n - 1) < n ∧ n ≤ 48 * secN n) := by
  unfold secN
  rw [if_neg (by omega)]
  by_cases h0 : n = 0
  · rw [if_pos h0]; omega
  · rw [if_neg h0]; omega

theorem grown_of_below {w w' : World} (h : Below w.heap.size w w') : w.grownBy w' none := ⟨h.os, h.tape, h.output, h.size, fun k hk _ => h.block k hk⟩

def buildPt (parts : Array (Nat × Value)) : Sem Value := Instr.build 120 parts
theorem build_rule_pt (parts : Array (Nat × Value)) : Instr.build 120 parts = buildPt parts := rfl
theorem buildPt_run (t n bh : Nat) (w : World) : (buildPt #[(0, .int .u32 (t : Int)), (1, .int .u32 (n : Int)), (2, .int .u16 (bh : Int))]).run Try.prog w = .ok (.agg (Pt.mk t n bh 0 z48).cs) w := build_part t n bh w

attribute [local go_sem ↓] load_part_rule store_part_rule wcopy_rule cut_rule build_rule_pt

theorem cell_block_lt {W W' : World} {b : Nat} (h : W'.heap[b]? = W.heap[b]?) (hb : b < W.heap.size) : b < W'.heap.size := by
  rw [Array.getElem?_eq_getElem hb] at h
  exact (Array.getElem?_eq_some_iff.1 h).1

set_option maxRecDepth 100000 in
set_option maxHeartbeats 1000000 in
theorem parts_tells {w : World} {S : List Nat} {fb t n : Nat} {a : Option Addr} {len cap : Nat} {l : List Nat} (hl : l.length = len) (hlm : len ≤ 40000) (hc : len ≤ cap) (hB : Bys l) (ht : t ≤ 4294967295) (hn : n ≤ 4294967295)
    (hb : Blk w fb 79 (fcs t n a len cap)) (hL : Lies w a l) (hfS : fb ∉ S) (haS : ∀ x, a = some x → x.block ∉ S ∧ ∃ o, w.heap[x.block]? = some o ∧ notRow o = true) :
    Tells 77 #[.pointer (some ⟨fb, 0, none⟩)] S (secN len) (encP t n l) w := by
  intro lo J Jx W hWk hlw hlo hJ hJx hY h0
  have hfl : fb ≠ lo := by have := hb.lt; omega
  have haS2 : ∀ x, a = some x → x.block ∉ lo :: S ∧ ∃ o, W.heap[x.block]? = some o ∧ notRow o = true := fun x hx => by
    obtain ⟨h1, o, h2, h3⟩ := haS x hx
    refine ⟨?_, o, hWk.same _ _ h1 h2 h3, h3⟩
    have := (Array.getElem?_eq_some_iff.1 h2).1
    simp only [List.mem_cons, not_or]
    exact ⟨by omega, h1⟩
  replace hL : Lies W a l := by
    rcases hL with h9 | ⟨b, off, rfl, hb9, hc9⟩
    · exact .inl h9
    · obtain ⟨h1, o, h2, h3⟩ := haS _ rfl
      have hs9 : W.heap[b]? = w.heap[b]? := (hWk.same _ _ h1 h2 h3).trans h2.symm
      refine .inr ⟨b, off, rfl, (cell_block_lt hs9 hb9), fun i hi => ?_⟩
      rw [← hc9 i hi]
      simp only [World.cell?, hs9]
  replace hb := hWk.blk hb hfS (by decide)
  clear hlw haS hWk
  have hn8 : (1 : Nat) ≤ 8 := by omega
  have HL := Lib.hid hl
  have hs834 := secN_le len
  have HS := Lib.hid (secN_pos hlm)
  have hcs := (sectors_any (len : Int))
  rw [secI_nat] at hcs
  generalize hN : secN len = N at *
  have HN := Lib.hid hN
  clear hl hN
  have c2 : W.cell? ⟨fb, 2, none⟩ = some (.slice a len cap) := hb.cell 2
  refine callsIn_of_wp Try.func77 rfl trivial ?_ rfl
  simp only [Try.ntmps77, List.size_toArray, List.length_cons, List.length_nil, Nat.reduceAdd, Nat.reduceSub, Array.replicate_succ, Array.replicate_zero, List.push_toArray, List.append_toArray, List.nil_append, List.cons_append]
  gi_wp2
  refine ⟨trivial, ?_⟩
  refine (callsIn_wide.2 (hcs _)).mono ?_
  rintro e w' ⟨rfl, rfl⟩
  gi_wp2
  gi_loopw [11] (fun i wr => ∃ k : Nat, k ≤ N ∧ i = .int .i64 k ∧ J k wr ∧ Blk wr fb 79 (fcs t n a len cap) ∧ Lies wr a l ∧ (∀ x, a = some x → x.block ∉ lo :: S ∧ ∃ o, wr.heap[x.block]? = some o ∧ notRow o = true) ∧ 0 ≤ wr.heap.size) (fun i _ => N - (intOf i).toNat)
  case atStart => exact ⟨0, Nat.zero_le _, rfl, h0, hb, hL, haS2, Nat.zero_le _⟩
  case round =>
    obtain ⟨k, hk, rfl, hJs, hbw, hLw, haw, hsz⟩ := hrel
    by_cases hlt : k < N
    · have c0 : wr.cell? ⟨fb, 0, none⟩ = some (.int .u32 (t : Int)) := hbw.cell 0
      have c1 : wr.cell? ⟨fb, 1, none⟩ = some (.int .u32 (n : Int)) := hbw.cell 1
      have hbu := buildPt_run t n (N - 1 - k)
      have hcv : ((N : Int) - 1 - (k : Int)) = ((N - 1 - k : Nat) : Int) := by omega
      obtain ⟨W1, hW1⟩ : ∃ W1, wr.alloc (.cells (Pt.mk t n (N - 1 - k) 0 z48).cs 120) = W1 := ⟨_, rfl⟩
      have hzs : Pt.zero.cs.size = (Pt.mk t n (N - 1 - k) 0 z48).cs.size := by rw [Pt.size rfl, Pt.size rfl]
      have HZ := Lib.hid hzs
      clear hzs
      generalize hps : (Pt.mk t n (N - 1 - k) 0 z48).cs = ps at *
      have HPS := Lib.hid hps
      clear hps
      have hps1 : ps.all (·.oneCell') = true := by rw [← HPS.out]; exact Pt.one _
      have hps2 : (Try.prog.info? 120).map (·.size) = some ps.size := by rw [← HPS.out]; exact s_part rfl
      have HP2 := Lib.hid (And.intro hps1 hps2)
      clear hps1 hps2
      gi_wp2_with (first | (with_reducible refine wpListIn_alloc_z rfl 120 rfl Pt.zero.cs 52 z_part ?_) | (with_reducible refine wpListIn_store_new rfl 120 (.tmp 5) (.tmp 23) rfl ps Pt.zero.cs _ rfl rfl HZ.out HP2.out.2 HP2.out.1 ?_; rw [hW1]))
      have bw1 : Blk W1 wr.heap.size 120 (Pt.mk t n (N - 1 - k) 0 z48).cs := by rw [← hW1, HPS.out]; exact Blk.new _ _ _
      have hk1 : Kept [] wr W1 := by rw [← hW1]; exact (Kept.refl _ _).alloc _
      have bf1 : Blk W1 fb 79 (fcs t n a len cap) := hbw.kept hk1 (by simp)
      have hL1 : Lies W1 a l := by rw [← hW1]; exact hLw.alloc _
      have hk48 : k * 48 ≤ len := by
        rcases Nat.eq_zero_or_pos len with h9 | h9
        · have := HS.out.1
          have hN1 : N = 1 := by have := HN.out; rw [h9] at this; rw [← this]; rfl
          omega
        · have := (HS.out.2 h9).1; omega
      obtain ⟨a', hcut, hLc⟩ := cut_run HL.out hc hL1 (k * 48) hk48
      rw [show ((k * 48 : Nat) : Int) = (k : Int) * 48 from by omega] at hcut
      obtain ⟨W2, hcp, bw2, hk2⟩ := part_copy (w := W1.drew) (cap := cap - k * 48) (len := len - k * 48) (by rw [List.length_drop, HL.out]) bw1.drew (show Lies W1.drew a' (l.drop (k * 48)) from hLc)
      have hM : ((l.drop (k * 48)).take 48).length ≤ 48 := by rw [List.length_take]; omega
      obtain ⟨m, hm⟩ : ∃ m, (l.drop (k * 48)).take 48 = m := ⟨_, rfl⟩
      rw [hm] at hcp bw2 hM
      have hpt : partAt t n l k = Pt.mk t n (N - 1 - k) m.length (pad48 m) := by unfold partAt cutL; rw [HL.out, HN.out, Nat.mul_comm 48 k, hm]
      have c23 : W1.drew.cell? ⟨fb, 2, none⟩ = some (.slice a len cap) := bf1.cell 2
      have d3 : W2.cell? ⟨wr.heap.size, 3, none⟩ = some (.int .u16 0) := (bw2.cell 3).trans (Pt.c3 _)
      have d3f : W2.frozen? ⟨wr.heap.size, 3, none⟩ = false := bw2.free 3
      obtain ⟨W3, hW3⟩ : ∃ W3, W2.setCell ⟨wr.heap.size, 3, none⟩ (.int .u16 (m.length : Int)) = W3 := ⟨_, rfl⟩
      have bw3 : Blk W3 wr.heap.size 120 (partAt t n l k).cs := by
        rw [← hW3, hpt]
        have h9 := bw2.set 3 (.int .u16 (m.length : Int))
        have e9 : (Pt.mk t n (N - 1 - k) 0 (pad48 m)).cs.setIfInBounds 3 (.int .u16 (m.length : Int)) = (Pt.mk t n (N - 1 - k) m.length (pad48 m)).cs := by
          unfold Pt.cs
          simp only
          generalize ((pad48 m).map byc).toArray = X
          rw [← Array.toList_inj]
          simp
        rw [e9] at h9
        exact h9
      have hk3 : Kept [wr.heap.size] W1 W3 := by rw [← hW3]; exact (hk2.of_drew).setCell (.inl (by simp)) _
      have hk13 : Kept [] wr W3 := hk1.trans2 hk3 (by simp)
      have bf3 := bf1.kept hk3 (by have := hbw.lt; simp; omega)
      have hb13 : Below wr.heap.size wr W3 := hk13.below (by simp) (Nat.le_refl _)
      have hL3 : Lies W3 a l := hLw.kept hb13
      have haS3 : ∀ x, a = some x → x.block ∉ lo :: S ∧ ∃ o, W3.heap[x.block]? = some o ∧ notRow o = true := fun x hx => by
        obtain ⟨h1, o, h2, h3⟩ := haw x hx
        exact ⟨h1, o, (hb13.block _ (Array.getElem?_eq_some_iff.1 h2).1).trans h2, h3⟩
      have hJ3 : J k W3 := hJ _ _ _ none hJs (grown_of_below hb13) (fun r h => by cases h)
      have LP := lpart bw3 (pad48_len (by have := cutL_len l k; omega))
      obtain ⟨fn, tmps, assign, body, hy, hR⟩ := hY k W3 hlt hJ3
      unfold encP at hy
      have H3 := Lib.hid (And.intro bf3 hL3)
      clear bf3 hL3 hb13 hk13 hk3 bw3 hpt bw2 hk2 hLc hL1 bf1 hk1 bw1 hbw hLw hJ3 hJs c0 c1 c2 hbu hcv hb hL
      generalize hpc : (partAt t n l k).cs = pc at *
      have HPC := Lib.hid hpc
      clear hpc
      clear hm
      generalize hml : m.length = ml at *
      clear hml
      have hwr : IntKind.i64.wrap ((k : Int) * 48) = (k : Int) * 48 := by
        have h1 : (k : Int) * 48 < 9223372036854775808 := by omega
        have h2 : 0 ≤ (k : Int) * 48 := by omega
        generalize (k : Int) * 48 = z at *
        unfold IntKind.wrap
        simp [IntKind.bits, IntKind.signed]
        omega
      have hwm : IntKind.u16.wrap (ml : Int) = (ml : Int) := by
        unfold IntKind.wrap
        simp [IntKind.bits, IntKind.signed]
        omega
      gi_region
      clear hcut hcp hwr hwm hW1 hW3 c23 d3 d3f
      gi_wp2
      refine hR.mono ?_
      rintro e W4 ⟨hk4, ⟨rfl, hJ4⟩ | ⟨rfl, hJx4⟩⟩
      · have hb4 : Blk W4 fb 79 (fcs t n a len cap) := hk4.blk H3.out.1 (by simp only [List.mem_cons, not_or]; exact ⟨hfl, hfS⟩) (by decide)
        have hL4 : Lies W4 a l := by
          rcases H3.out.2 with h9 | ⟨b, off, rfl, hb9, hc9⟩
          · exact .inl h9
          · obtain ⟨h1, o, h2, h3⟩ := haS3 _ rfl
            have hs9 : W4.heap[b]? = W3.heap[b]? := (hk4.same _ _ h1 h2 h3).trans h2.symm
            refine .inr ⟨b, off, rfl, (cell_block_lt hs9 hb9), fun i hi => ?_⟩
            rw [← hc9 i hi]
            simp only [World.cell?, hs9]
        have haS4 : ∀ x, a = some x → x.block ∉ lo :: S ∧ ∃ o, W4.heap[x.block]? = some o ∧ notRow o = true := fun x hx => by
          obtain ⟨h1, o, h2, h3⟩ := haS3 x hx
          exact ⟨h1, o, hk4.same _ _ h1 h2 h3, h3⟩
        gi_wp2
        go_roundw
        case rel => exact ⟨k + 1, by omega, by go_num, hJ4, hb4, hL4, haS4, Nat.zero_le _⟩
        case measure => simp [intOf]; omega
      · gi_wp2
        refine bodyPost_ret (results_none rfl _ _ _) rfl ?_
        exact ⟨⟨_, rfl⟩, .inr ⟨k, by omega, hJx4⟩⟩
    · obtain rfl : k = N := by omega
      gi_wp2
      go_end0
      exact ⟨⟨_, rfl⟩, .inl hJs⟩
end Go.Proofs.Ytkfpkolgikpcpaa
