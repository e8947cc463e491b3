/-
  What a deed does to a disk (the law's own does, of a disk that lives), as a function of what the disk holds. Nothing here is a statement of the document.
-/
import Derived.Test.YtaikgngigaohmaaDoorDskS
namespace Go.Proofs.YtaikgngigaohmaaDoor
open Go.RowKit Go.Shelf
set_option linter.unusedVariables false

def doesM (D : Dk) (x : Deed) (ks : List Bool) : Dk × Bk × Int :=
  if x.k = 5 then ((readM D x.sector).1, (readM D x.sector).2.1, (readM D x.sector).2.2)
  else if x.k = 6 then ((syncM D).1, Bk.zero, (syncM D).2)
  else if x.k = 7 then ((armM D x.num).1, Bk.zero, (armM D x.num).2)
  else if x.k = 8 then ((flawedM D x.num).1, Bk.zero, (flawedM D x.num).2)
  else if x.k = 9 then (crashM D (ks.take 30), Bk.zero, 0)
  else ((writeM D x.sector (Bk.fill x.fill)).1, Bk.zero, (writeM D x.sector (Bk.fill x.fill)).2)

theorem Dsk.setRow_far {W : World} {B p pb g : Nat} {bv : Value} {D : Dk} (h : Dsk W B p pb bv D) (hg : g ∉ fp p pb bv) (cs : Array Value) : Dsk (W.setRow g cs) B p pb bv D :=
  h.apart (S := [g]) ((Kept.refl _ _).setRow (.inl (by simp)) cs) (by simpa using hg)
theorem Goes.setRow_new {w W : World} {p pb g : Nat} {bv bv' : Value} (G : Goes w W p pb bv bv') (hg : w.heap.size ≤ g) (cs : Array Value) : Goes w (W.setRow g cs) p pb bv bv' := ⟨G.kept.setRow (.inr hg) cs, G.new⟩
theorem Goes.of_below {w W : World} (p pb : Nat) (bv : Value) (hb : Below w.heap.size w W) : Goes w W p pb bv bv := ⟨Kept.of_below _ hb, fun k h => .inl h⟩
/-- What stands when a deed has been done: the block beside the disk is there, and may be written. -/
theorem does_end {w W2 W3 : World} {B p pb g : Nat} {bv bv' : Value} {D D' : Dk} {C : Array Value} (hD : Dsk w B p pb bv D) (hb2 : Below w.heap.size w W2) (hg : w.heap.size ≤ g) (b2 : Blk W2 g 31 C) (hD3 : Dsk W3 B p pb bv' D') (hG : Goes W2 W3 p pb bv bv') :
    Blk W3 g 31 C ∧ ∀ cs, Blk (W3.setRow g cs) g 31 cs ∧ Dsk (W3.setRow g cs) B p pb bv' D' ∧ Goes w (W3.setRow g cs) p pb bv bv' := by
  have n1 : g ∉ fp p pb bv := hD.beside hg
  have b3 := b2.kept hG.kept n1
  have n2 : g ∉ fp p pb bv' := by
    intro hm
    simp only [fp, List.mem_cons, Option.mem_toList] at hm n1
    rcases hm with h9 | h9 | h9
    · exact n1 (.inl h9)
    · exact n1 (.inr (.inl h9))
    · rcases hG.new g h9 with h8 | h8
      · exact n1 (.inr (.inr h8))
      · have := b2.lt; omega
  exact ⟨b3, fun cs => ⟨b3.row cs, hD3.setRow_far n2 cs, ((Goes.of_below p pb bv hb2).trans hG).setRow_new hg cs⟩⟩

/-- A row of the call's own, of truths, is a row of truths that lies beside a disk. -/
theorem bools_of_own {w w' : World} {B p pb : Nat} {bv v : Value} {D : Dk} {ks : List Bool} (h : w'.ownsRow w.heap.size 4 1 v ks.length (ks.map Value.bool)) (hD : Dsk w B p pb bv D) :
    ∃ a c, v = .slice a ks.length c ∧ Bools w' a ks ∧ ∀ b off, a = some ⟨b, off, none⟩ → b ∉ fp p pb bv := by
  rcases h.2 with ⟨rfl, h0⟩ | ⟨g, cap, cur, rfl, hB, hg, hc, hm, hsz, ht⟩
  · exact ⟨none, 0, by rw [h0], .inl (List.length_eq_zero_iff.1 h0), by intro b off h9; cases h9⟩
  · refine ⟨_, _, rfl, .inr ⟨g, 0, rfl, (Array.getElem?_eq_some_iff.1 hg).1, fun i hi => ?_⟩, ?_⟩
    · have hb : Blk w' g 4 cur := hg
      rw [Nat.zero_add, hb.cell]
      have h9 : (cur.toList.take (ks.length * 1))[i]? = (ks.map Value.bool)[i]? := by rw [ht]
      rw [List.getElem?_take, if_pos (by omega), List.getElem?_map, List.getElem?_eq_getElem hi] at h9
      rw [List.getD_eq_getElem?_getD, List.getElem?_eq_getElem hi, ← Array.getElem?_toList, h9]
      rfl
    · intro b off h9
      injection h9 with h9
      injection h9 with h9 _ _
      subst h9
      exact hD.beside hB

set_option maxRecDepth 100000 in
set_option maxHeartbeats 2000000 in
theorem does_any {w : World} {B p pb : Nat} {bv : Value} {D : Dk} (hD : Dsk w B p pb bv D) (hB : B ≤ w.heap.size) (x : Deed) (ks : List Bool) (h : Truths w x.ad ks) (hl : ks.length = x.len) (hc : x.len ≤ x.cap) (hm : x.cap ≤ maxLen) (hn : x.num ≤ 9223372036854775807) :
    Calls Tryd.prog 10 #[.pointer (some ⟨p, 0, none⟩), .agg x.cs] w fun e w' => e = .returned (.tuple #[.agg (doesM D x ks).2.1.cs, .int .i64 (doesM D x ks).2.2]) ∧ ∃ bv', Dsk w' B p pb bv' (doesM D x ks).1 ∧ Goes w w' p pb bv bv' := by
  have hkind := fun W => kind_any x W
  have d5 : x.k = 5 → doesM D x ks = ((readM D x.sector).1, (readM D x.sector).2.1, (readM D x.sector).2.2) := fun h => by simp [doesM, h]
  have d6 : x.k = 6 → doesM D x ks = ((syncM D).1, Bk.zero, (syncM D).2) := fun h => by simp [doesM, h]
  have d7 : x.k = 7 → doesM D x ks = ((armM D x.num).1, Bk.zero, (armM D x.num).2) := fun h => by simp [doesM, h]
  have d8 : x.k = 8 → doesM D x ks = ((flawedM D x.num).1, Bk.zero, (flawedM D x.num).2) := fun h => by simp [doesM, h]
  have d9 : x.k = 9 → doesM D x ks = (crashM D (ks.take 30), Bk.zero, 0) := fun h => by simp [doesM, h]
  have d0 : x.k ≠ 5 → x.k ≠ 6 → x.k ≠ 7 → x.k ≠ 8 → x.k ≠ 9 → doesM D x ks = ((writeM D x.sector (Bk.fill x.fill)).1, Bk.zero, (writeM D x.sector (Bk.fill x.fill)).2) := fun h5 h6 h7 h8 h9 => by simp [doesM, h5, h6, h7, h8, h9]
  obtain ⟨W1, hW1⟩ : ∃ W1, (w.alloc (.cells x.cs 37)).alloc (.cells Bk.zero.cs 31) = W1 := ⟨_, rfl⟩
  have hb1 : Below w.heap.size w W1 := by rw [← hW1]; exact ((Below.refl _ _).alloc (Nat.le_refl _) _).alloc (by simp) _
  have b1 : Blk W1 w.heap.size 37 x.cs := by rw [← hW1]; exact (Blk.new w _ _).alloc _
  have b2 : Blk W1 (w.heap.size + 1) 31 Bk.zero.cs := by
    rw [← hW1]
    have := Blk.new (w.alloc (.cells x.cs 37)) 31 Bk.zero.cs
    rwa [World.size_alloc] at this
  generalize doesM D x ks = R at *
  obtain ⟨k, s, n, f, a, len, cap⟩ := x
  simp only [Deed.cs] at *
  have c0 := b1.cell 0
  have c1 := b1.cell 1
  have c2 := b1.cell 2
  have c3 := b1.cell 3
  have c4 := b1.cell 4
  simp only [List.getElem?_toArray, List.getElem?_cons_zero, List.getElem?_cons_succ] at c0 c1 c2 c3 c4
  have hk1 := hkind W1
  have H := Lib.hid (And.intro h (And.intro hb1 (And.intro b1 b2)))
  have HL := Lib.hid (And.intro hl (And.intro hc (And.intro hm hn)))
  have hD1 := hD.later hb1
  have HD := Lib.hid hD
  have HD1 := Lib.hid hD1
  have HBB := Lib.hid hB
  clear hkind h hb1 b1 b2 hl hc hm hn hD hD1 hB
  go_enter Tryd.func10, Tryd.ntmps10
  go_wp2_with (with_reducible refine wpList_alloc_z rfl 31 rfl Bk.zero.cs 64 z_blk ?_)
  clear hW1
  refine hk1.mono ?_
  rintro e W2 ⟨rfl, hb2⟩
  have hb : Below w.heap.size w W2 := H.out.2.1.trans (hb2.mono H.out.2.1.size)
  have b1 := H.out.2.2.1.kept (Kept.of_below [] hb2) (by simp)
  have b2 := H.out.2.2.2.kept (Kept.of_below [] hb2) (by simp)
  replace c0 := b1.cell 0
  replace c1 := b1.cell 1
  replace c2 := b1.cell 2
  replace c3 := b1.cell 3
  replace c4 := b1.cell 4
  simp only [List.getElem?_toArray, List.getElem?_cons_zero, List.getElem?_cons_succ] at c0 c1 c2 c3 c4
  have hD2 := HD1.out.later hb2
  have H2 := Lib.hid (And.intro (H.out.1.below hb) (And.intro hb (And.intro b2 (And.intro hD2 (And.intro b1 (Nat.le_trans HBB.out hb.size))))))
  generalize hm : Deed.k ⟨k, s, n, f, a, len, cap⟩ = m at d5 d6 d7 d8 d9 d0
  have G5 := Lib.hid d5
  have G6 := Lib.hid d6
  have G7 := Lib.hid d7
  have G8 := Lib.hid d8
  have G9 := Lib.hid d9
  have G0 := Lib.hid d0
  clear hk1 hb2 hm H d5 d6 d7 d8 d9 d0 hb b1 b2 hD2 HD1
  have HZ := Lib.hid zero_store
  have h00 : ∀ j, j < Bk.zero.cs.size → Bk.zero.cs[0 + j]? = Bk.zero.cs[j]? := fun j _ => by rw [Nat.zero_add]
  have H0 := Lib.hid h00
  have hfit : 0 + Bk.zero.cs.size ≤ Bk.zero.cs.size := by omega
  have HF := Lib.hid hfit
  clear h00 hfit
  go_wp2_with fail
  · have em : m = 5 := by
      have h9 : ((m : Int) == 5) = true := by assumption
      have h8 : (m : Int) = 5 := by simpa using h9
      omega
    have hr := G5.out em
    have HR := Lib.hid hr
    clear hr em
    refine (read_any H2.out.2.2.2.1 s).mono ?_
    rintro e W3 ⟨rfl, hD3, hG3⟩
    have hE := does_end HD.out H2.out.2.1 (Nat.le_succ _) H2.out.2.2.1 hD3 hG3
    have b3 := hE.1
    obtain ⟨rb, hrb⟩ : ∃ rb, (readM D s).2.1 = rb := ⟨_, rfl⟩
    rw [hrb] at HR ⊢
    clear hrb
    have hE4 := hE.2 rb.cs
    obtain ⟨W4, hW4⟩ : ∃ W4, W3.setRow (w.heap.size + 1) rb.cs = W4 := ⟨_, rfl⟩
    rw [hW4] at hE4
    have b4 := hE4.1
    have n4 : w.heap.size + 1 ∉ fp p pb bv := HD.out.beside (Nat.le_succ _)
    have HE := Lib.hid (And.intro (b4.row rb.cs) (And.intro (hE4.2.1.setRow_far n4 rb.cs) (hE4.2.2.setRow_new (Nat.le_succ _) rb.cs)))
    have hs : 0 + rb.cs.size ≤ Bk.zero.cs.size := by rw [Bk.size, Bk.size]; omega
    have HS := Lib.hid hs
    have hs2 : 0 + rb.cs.size ≤ rb.cs.size := by omega
    have HS2 := Lib.hid hs2
    have ho := over_all (C := Bk.zero.cs) (vs := rb.cs) (by rw [Bk.size, Bk.size])
    have HO := Lib.hid ho
    have ho2 := over_all (C := rb.cs) (vs := rb.cs) rfl
    have HO2 := Lib.hid ho2
    have h01 : ∀ j, j < rb.cs.size → rb.cs[0 + j]? = rb.cs[j]? := fun j _ => by rw [Nat.zero_add]
    have H01 := Lib.hid h01
    clear hE hE4 hD3 hG3 hs hs2 ho ho2 h01 n4
    go_wp2_with (first | (with_reducible refine wpList_store_blk rfl 31 (.tmp 4) (.tmp 22) rfl (w.heap.size + 1) 0 rb.cs Bk.zero.cs _ rfl rfl b3 HS.out (s_blk rb) rb.one ?_; rw [HO.out, hW4]) | (with_reducible refine wpList_load_blk rfl 31 (.tmp 4) rfl (w.heap.size + 1) 0 rfl rb.cs rb.cs _ b4 H01.out _ Tryd.underlying31 rfl (s_blk rb) ?_) | (with_reducible refine wpList_store_blk rfl 31 (.tmp 4) (.tmp 46) rfl (w.heap.size + 1) 0 rb.cs rb.cs _ rfl rfl b4 HS2.out (s_blk rb) rb.one ?_; rw [HO2.out]))
    refine bodyPost_ret (results_blk rfl _ _ (w.heap.size + 1) rb.cs _ rfl HE.out.1 Tryd.underlying31 rfl (s_blk rb)) rfl ?_
    exact ⟨by rw [HR.out]; rfl, _, by rw [HR.out]; exact HE.out.2.1, HE.out.2.2⟩
  · have em : m = 6 := by
      have h9 : ((m : Int) == 6) = true := by assumption
      have h8 : (m : Int) = 6 := by simpa using h9
      omega
    have hr := G6.out em
    have HR := Lib.hid hr
    clear hr em
    refine (sync_any H2.out.2.2.2.1).mono ?_
    rintro e W3 ⟨rfl, bv', hD3, hG3⟩
    have hE := does_end HD.out H2.out.2.1 (Nat.le_succ _) H2.out.2.2.1 hD3 hG3
    have b3 := hE.1
    have HE := Lib.hid (hE.2 Bk.zero.cs)
    clear hE hD3 hG3
    go_wp2_with (first | (with_reducible refine wpList_load_blk rfl 31 (.tmp 4) rfl (w.heap.size + 1) 0 rfl Bk.zero.cs Bk.zero.cs _ b3 H0.out _ Tryd.underlying31 rfl (s_blk Bk.zero) ?_) | (with_reducible refine wpList_store_blk rfl 31 (.tmp 4) (.tmp 46) rfl (w.heap.size + 1) 0 Bk.zero.cs Bk.zero.cs _ rfl rfl b3 HF.out (s_blk Bk.zero) Bk.zero.one ?_; rw [HZ.out]))
    refine bodyPost_ret (results_blk rfl _ _ (w.heap.size + 1) Bk.zero.cs _ rfl HE.out.1 Tryd.underlying31 rfl (s_blk Bk.zero)) rfl ?_
    exact ⟨by rw [HR.out]; rfl, _, by rw [HR.out]; exact HE.out.2.1, HE.out.2.2⟩
  · have em : m = 7 := by
      have h9 : ((m : Int) == 7) = true := by assumption
      have h8 : (m : Int) = 7 := by simpa using h9
      omega
    have hr := G7.out em
    have HR := Lib.hid hr
    clear hr em
    refine (arm_any H2.out.2.2.2.1 n HL.out.2.2.2).mono ?_
    rintro e W3 ⟨rfl, hD3, hG3⟩
    have hE := does_end HD.out H2.out.2.1 (Nat.le_succ _) H2.out.2.2.1 hD3 hG3
    have b3 := hE.1
    have HE := Lib.hid (hE.2 Bk.zero.cs)
    clear hE hD3 hG3
    go_wp2_with (first | (with_reducible refine wpList_load_blk rfl 31 (.tmp 4) rfl (w.heap.size + 1) 0 rfl Bk.zero.cs Bk.zero.cs _ b3 H0.out _ Tryd.underlying31 rfl (s_blk Bk.zero) ?_) | (with_reducible refine wpList_store_blk rfl 31 (.tmp 4) (.tmp 46) rfl (w.heap.size + 1) 0 Bk.zero.cs Bk.zero.cs _ rfl rfl b3 HF.out (s_blk Bk.zero) Bk.zero.one ?_; rw [HZ.out]))
    refine bodyPost_ret (results_blk rfl _ _ (w.heap.size + 1) Bk.zero.cs _ rfl HE.out.1 Tryd.underlying31 rfl (s_blk Bk.zero)) rfl ?_
    exact ⟨by rw [HR.out]; rfl, _, by rw [HR.out]; exact HE.out.2.1, HE.out.2.2⟩
  · have em : m = 8 := by
      have h9 : ((m : Int) == 8) = true := by assumption
      have h8 : (m : Int) = 8 := by simpa using h9
      omega
    have hr := G8.out em
    have HR := Lib.hid hr
    clear hr em
    refine (fail_any H2.out.2.2.2.1 n HL.out.2.2.2).mono ?_
    rintro e W3 ⟨rfl, hD3, hG3⟩
    have hE := does_end HD.out H2.out.2.1 (Nat.le_succ _) H2.out.2.2.1 hD3 hG3
    have b3 := hE.1
    have HE := Lib.hid (hE.2 Bk.zero.cs)
    clear hE hD3 hG3
    go_wp2_with (first | (with_reducible refine wpList_load_blk rfl 31 (.tmp 4) rfl (w.heap.size + 1) 0 rfl Bk.zero.cs Bk.zero.cs _ b3 H0.out _ Tryd.underlying31 rfl (s_blk Bk.zero) ?_) | (with_reducible refine wpList_store_blk rfl 31 (.tmp 4) (.tmp 46) rfl (w.heap.size + 1) 0 Bk.zero.cs Bk.zero.cs _ rfl rfl b3 HF.out (s_blk Bk.zero) Bk.zero.one ?_; rw [HZ.out]))
    refine bodyPost_ret (results_blk rfl _ _ (w.heap.size + 1) Bk.zero.cs _ rfl HE.out.1 Tryd.underlying31 rfl (s_blk Bk.zero)) rfl ?_
    exact ⟨by rw [HR.out]; rfl, _, by rw [HR.out]; exact HE.out.2.1, HE.out.2.2⟩
  · have em : m = 9 := by
      have h9 : ((m : Int) == 9) = true := by assumption
      have h8 : (m : Int) = 9 := by simpa using h9
      omega
    have hr := G9.out em
    have HR := Lib.hid hr
    clear hr em
    refine (keep_any ⟨k, s, n, f, a, len, cap⟩ ks W2 H2.out.1 HL.out.1 HL.out.2.1 HL.out.2.2.1).mono ?_
    rintro e W5 ⟨v, rfl, hown, hb5⟩
    obtain ⟨va, vc, hv, hbo, hfa⟩ := bools_of_own hown H2.out.2.2.2.1
    obtain ⟨nk, hnk⟩ : ∃ nk, (ks.take 30).length = nk := ⟨_, rfl⟩
    have hcr := crash_any (H2.out.2.2.2.1.later hb5) va vc (ks.take 30) hbo hfa (by simp only [List.length_take]; omega)
    rw [hnk] at hv hcr
    subst hv
    clear hnk
    have H5 := Lib.hid hb5
    clear hown hb5 hbo hfa
    go_wp2_with fail
    refine hcr.mono ?_
    rintro e W3 ⟨rfl, hD3, hG4⟩
    have hG3 := (Goes.of_below p pb bv H5.out).trans hG4
    clear hcr hG4
    have hE := does_end HD.out H2.out.2.1 (Nat.le_succ _) H2.out.2.2.1 hD3 hG3
    have b3 := hE.1
    have HE := Lib.hid (hE.2 Bk.zero.cs)
    clear hE hD3 hG3
    go_wp2_with (first | (with_reducible refine wpList_load_blk rfl 31 (.tmp 4) rfl (w.heap.size + 1) 0 rfl Bk.zero.cs Bk.zero.cs _ b3 H0.out _ Tryd.underlying31 rfl (s_blk Bk.zero) ?_) | (with_reducible refine wpList_store_blk rfl 31 (.tmp 4) (.tmp 46) rfl (w.heap.size + 1) 0 Bk.zero.cs Bk.zero.cs _ rfl rfl b3 HF.out (s_blk Bk.zero) Bk.zero.one ?_; rw [HZ.out]))
    refine bodyPost_ret (results_blk rfl _ _ (w.heap.size + 1) Bk.zero.cs _ rfl HE.out.1 Tryd.underlying31 rfl (s_blk Bk.zero)) rfl ?_
    exact ⟨by rw [HR.out]; rfl, _, by rw [HR.out]; exact HE.out.2.1, HE.out.2.2⟩
  · have e5 : m ≠ 5 := by
      have h9 : ((m : Int) == 5) = false := by assumption
      intro h8; subst h8; simp at h9
    have e6 : m ≠ 6 := by
      have h9 : ((m : Int) == 6) = false := by assumption
      intro h8; subst h8; simp at h9
    have e7 : m ≠ 7 := by
      have h9 : ((m : Int) == 7) = false := by assumption
      intro h8; subst h8; simp at h9
    have e8 : m ≠ 8 := by
      have h9 : ((m : Int) == 8) = false := by assumption
      intro h8; subst h8; simp at h9
    have e9 : m ≠ 9 := by
      have h9 : ((m : Int) == 9) = false := by assumption
      intro h8; subst h8; simp at h9
    have hr := G0.out e5 e6 e7 e8 e9
    have HR := Lib.hid hr
    have HN := Lib.hid (HD.out.beside (Nat.le_refl _))
    clear hr e5 e6 e7 e8 e9
    go_region_held3 (fun w' => w'.cell? ⟨w.heap.size, 1, none⟩ = some (.int .i64 s) ∧ w'.cell? ⟨w.heap.size, 3, none⟩ = some (.int .u8 (f : Int))) (first | exact ⟨c1b, c3b⟩ | exact ⟨c1a, c3a⟩ | exact ⟨c1, c3⟩) (first | (go_at_call 18; (with_reducible refine (block_any f _).mono ?_); rintro e w4 ⟨rfl, hb4⟩; have b1a := H2.out.2.2.2.2.1.drew.kept (Kept.of_below [] hb4) (by simp); have c1a : w4.cell? ⟨w.heap.size, 1, none⟩ = some (.int .i64 s) := b1a.cell 1; have c3a : w4.cell? ⟨w.heap.size, 3, none⟩ = some (.int .u8 (f : Int)) := b1a.cell 3; have hD4 := H2.out.2.2.2.1.drew.later hb4) | (go_at_call 17; (with_reducible refine (write_any hD4 ?_ s (Bk.fill f)).mono ?_); (exact Nat.le_trans H2.out.2.2.2.2.2 hb4.size); rintro e W3 ⟨rfl, bv', hD3, hG5⟩; have b1b := b1a.kept hG5.kept HN.out; have c1b : W3.cell? ⟨w.heap.size, 1, none⟩ = some (.int .i64 s) := b1b.cell 1; have c3b : W3.cell? ⟨w.heap.size, 3, none⟩ = some (.int .u8 (f : Int)) := b1b.cell 3))
    have hG3 := (Goes.of_below p pb bv (show Below W2.heap.size W2 w4 from ⟨hb4.os, hb4.tape, hb4.output, hb4.size, hb4.block⟩)).trans hG5
    have hE := does_end HD.out H2.out.2.1 (Nat.le_succ _) H2.out.2.2.1 hD3 hG3
    have b3 := hE.1
    have HE := Lib.hid (hE.2 Bk.zero.cs)
    clear hE hD3 hG3
    clear hb4 hG5 hD4 b1a b1b c1a c3a c1b c3b c0 c1 c2 c3 c4
    go_wp2_with (first | (with_reducible refine wpList_load_blk rfl 31 (.tmp 4) rfl (w.heap.size + 1) 0 rfl Bk.zero.cs Bk.zero.cs _ b3 H0.out _ Tryd.underlying31 rfl (s_blk Bk.zero) ?_) | (with_reducible refine wpList_store_blk rfl 31 (.tmp 4) (.tmp 46) rfl (w.heap.size + 1) 0 Bk.zero.cs Bk.zero.cs _ rfl rfl b3 HF.out (s_blk Bk.zero) Bk.zero.one ?_; rw [HZ.out]))
    refine bodyPost_ret (results_blk rfl _ _ (w.heap.size + 1) Bk.zero.cs _ rfl HE.out.1 Tryd.underlying31 rfl (s_blk Bk.zero)) rfl ?_
    exact ⟨by rw [HR.out]; rfl, _, by rw [HR.out]; exact HE.out.2.1, HE.out.2.2⟩
end Go.Proofs.YtaikgngigaohmaaDoor
