/-
  All of no log, gone through; what the law's told makes of it. Nothing here is a statement of the document.
-/
import Derived.Test.YtelpihlifdfgoaaWalPo
import Derived.Test.YtelpihlifdfgoaaWalR
import Derived.Test.YtelpihlifdfgoaaWalK
import Derived.StillTail
import Derived.Test.YtelpihlifdfgoaaWalT
namespace Go.Proofs.Ytelpihlifdfgoaa
open Go.RowKit Go.Shelf
set_option linter.unusedVariables false
/-- A part of forty-eight bytes. -/
structure Pq where
  p : Pt
  l48 : p.l.length = 48
def Pq.cs (q : Pq) : Array Value := q.p.cs
theorem Pq.size (q : Pq) : q.cs.size = 52 := Pt.size q.l48
theorem Pq.one (q : Pq) : q.cs.all (·.oneCell') = true := q.p.one
def Pq.zero : Pq := ⟨Pt.zero, z48_len⟩
def qcs (l : List Pq) : List Value := l.flatMap fun q => q.cs.toList
theorem qcs_append (l m : List Pq) : qcs (l ++ m) = qcs l ++ qcs m := by simp [qcs]
theorem qcs_one_row (q : Pq) : qcs [q] = q.cs.toList := by simp [qcs]
theorem qcs_length (l : List Pq) : (qcs l).length = l.length * 52 := by
  induction l with
  | nil => rfl
  | cons b l ih => simp only [qcs, List.flatMap_cons, List.length_append, List.length_cons] at ih ⊢; rw [ih]; have := b.size; simp; omega
theorem qcs_get {l : List Pq} {k : Nat} {q : Pq} (h : l[k]? = some q) {j : Nat} (hj : j < 52) : (qcs l)[k * 52 + j]? = q.cs[j]? := flat_get Pq.size l k q h j hj
def pbuildSem (n : Nat) (parts : Array (Nat × Value)) : Sem Value := Instr.buildSlice 145 n parts
theorem pbuild_rule (n : Nat) (parts : Array (Nat × Value)) : Instr.buildSlice 145 n parts = pbuildSem n parts := rfl
theorem pbuildSem_run (r : Pq) (w : World) : (pbuildSem 1 #[(0, .agg r.cs)]).run Try.prog w = .ok (.slice (some ⟨w.heap.size, 0, none⟩) 1 1) (w.alloc (.cells r.cs 126)) := by
  have hz := (zero_of_info z_part).1 w
  have hu := run_underlying (P := Try.prog) Try.underlying145 w
  have h2 : r.cs.size = 52 := r.size
  have h3 : Pq.zero.cs.size = 52 := Pq.size _
  unfold pbuildSem Instr.buildSlice
  simp only [Sem.run_bind, hu, Result.andThen_ok]
  have h6 : ∀ C : Array Value, C.size = 52 → Array.foldl (fun cs (x : Value × Nat) => cs.setIfInBounds x.snd x.fst) C r.cs.zipIdx 0 52 = r.cs := by
    intro C hC
    have := fold_over 0 r.cs C (by omega)
    simp only [Nat.zero_add] at this
    rw [over_all (by omega)] at this
    have h7 : r.cs.zipIdx.size = 52 := by simp [h2]
    rw [h7] at this
    exact this
  go_simp

def pappSem (ty : TypeId) (args : Array Value) : Sem Value := Builtin.append_ #[145, 145] ty args
theorem papp_rule (ty : TypeId) (args : Array Value) : Builtin.append_ #[145, 145] ty args = pappSem ty args := rfl
theorem pappSem_run {w : World} {B : Nat} {bv : Value} {R : List Pq} {q : Nat} {r : Pq} (ty : TypeId) (h : w.ownsRow B 126 52 bv R.length (qcs R)) (h8 : R.length ≤ 1000) (hq : Blk w q 126 r.cs) (hB : B ≤ w.heap.size) :
    ∃ g cap w', (pappSem ty #[bv, .slice (some ⟨q, 0, none⟩) 1 1]).run Try.prog w = .ok (.slice (some ⟨g, 0, none⟩) (R.length + 1) cap) w' ∧
      w'.ownsRow B 126 52 (.slice (some ⟨g, 0, none⟩) (R.length + 1) cap) (R.length + 1) (qcs (R ++ [r])) ∧ w.grownBy w' bv.ownBlock ∧ (bv.ownBlock = some g ∨ w.heap.size ≤ g) := by
  obtain ⟨i0, hi, hz0, hz1, hz2⟩ := info_parts (show (Try.prog.info? 126).map (fun i => (i.zero, i.size, i.bytes)) = some (some (.agg Pq.zero.cs), 52, 60) by kernel_rfl)
  have hone : ∀ u ∈ r.cs.toList, u.oneCell' = true := fun u hu => Array.all_eq_true_iff_forall_mem.1 r.one u (by simpa using hu)
  have hsrc : ∀ j u, r.cs.toList[j]? = some u → w.cell? ((⟨q, 0, none⟩ : Addr).add j) = some u := fun j u hj => by rw [Addr.add_lit, Nat.zero_add, hq.cell]; simpa using hj
  have hnl : r.cs.toList.length = 1 * 52 := by have := r.size; simp [this]
  have e1 : qcs R ++ r.cs.toList = qcs (R ++ [r]) := by rw [qcs_append, qcs_one_row]
  have hrun := fun (B' : Nat) (h' : w.ownsRow B' 126 52 bv R.length (qcs R)) (hB' : B' ≤ w.heap.size) => run_append_own (P := Try.prog) w B' 145 ty 126 i0 (.agg Pq.zero.cs) 52 60 Try.underlying145 hi hz0 hz1 hz2 (Pq.size _) (by decide) bv R.length (qcs R) h' ⟨q, 0, none⟩ 1 1 r.cs.toList hnl hsrc hone (by unfold maxLen; omega) (by omega) hB'
  rcases h.2 with ⟨rfl, h0⟩ | ⟨g, cap, cur, rfl, hbg, hg, hnc, hcm, hcs, htake⟩
  · have hR : R = [] := List.eq_nil_of_length_eq_zero h0
    subst hR
    obtain ⟨v', w', hr, h1, h2, _⟩ := hrun w.heap.size (World.ownsRow_nil _ _ _ _) (Nat.le_refl _)
    rw [e1] at h1
    obtain ⟨g, cap, rfl⟩ := ownsRow_succ h1
    have hge := (h1.lt g rfl).1
    refine ⟨g, cap, w', hr, ⟨h1.1, ?_⟩, h2, .inr hge⟩
    rcases h1.2 with ⟨h9, _⟩ | ⟨g', cap', cur', h9, hb, rest⟩
    · simp at h9
    · exact .inr ⟨g', cap', cur', h9, Nat.le_trans hB hb, rest⟩
  · by_cases hroom : R.length + 1 ≤ cap
    · obtain ⟨w', hr, h1, h2⟩ := run_append_fits (P := Try.prog) w B 145 ty 126 i0 52 Try.underlying145 hi hz1 g R.length cap (qcs R) h ⟨q, 0, none⟩ 1 1 r.cs.toList hnl hsrc hone hroom
      rw [e1] at h1
      exact ⟨g, cap, w', hr, h1, h2, .inl rfl⟩
    · obtain ⟨v', w', hr, h1, h2, _⟩ := hrun B h hB
      have hr2 := run_append_grow (P := Try.prog) w 145 ty 126 i0 (.agg Pq.zero.cs) Try.underlying145 hi hz0 ⟨g, 0, none⟩ R.length cap (qcs R) (by rw [hz1]; exact h.1) (h.cells (g := g) rfl) ⟨q, 0, none⟩ 1 1 r.cs.toList (by rw [hz1]; exact hnl) hsrc (by omega) (by omega) (by rw [hz2]; exact growslice_fits (by omega) (by omega))
      have e2 := hr.symm.trans hr2
      injection e2 with e3 e4
      subst e3
      rw [e1] at h1
      exact ⟨_, _, w', hr, h1, h2, .inr (Nat.le_refl _)⟩
/-- What a sector says. -/
def pqOf (b : Bk) : Pq := ⟨ptOf b.n, by simp [ptOf, b.n_len]⟩
/-- The parts that stand at the first of these sectors. -/
def partsR (L : List Bk) : List Pq := match L with
  | [] => []
  | b :: r => if (pqOf b).p.bh < (b :: r).length ∧ (∀ x ∈ (b :: r).take ((pqOf b).p.bh + 1), okPt x.n = true) then ((b :: r).take ((pqOf b).p.bh + 1)).map pqOf else []
/-- Sectors that lie somewhere. -/
def Secs (w : World) (a : Option Addr) (L : List Bk) : Prop := L = [] ∨ ∃ g o, a = some ⟨g, o, none⟩ ∧ g < w.heap.size ∧ ∀ i b, L[i]? = some b → ∀ j, j < 64 → w.cell? ⟨g, o + i * 64 + j, none⟩ = b.cs[j]?
theorem Secs.later {w w' : World} {a : Option Addr} {L : List Bk} (h : Secs w a L) (k : Below w.heap.size w w') : Secs w' a L := by
  rcases h with h | ⟨g, o, rfl, hg, hc⟩
  · exact .inl h
  · exact .inr ⟨g, o, rfl, Nat.lt_of_lt_of_le hg k.size, fun i b hb j hj => by rw [← hc i b hb j hj]; exact k.cell (p := ⟨g, o + i * 64 + j, none⟩) hg⟩
theorem Secs.drop {w : World} {a : Option Addr} {L : List Bk} (h : Secs w a L) {g o : Nat} (ha : a = some ⟨g, o, none⟩) (k : Nat) : Secs w (some ⟨g, o + k * 64, none⟩) (L.drop k) := by
  rcases h with rfl | ⟨g', o', h1, hg, hc⟩
  · exact .inl (by simp)
  · rw [ha] at h1
    cases h1
    refine .inr ⟨g, o + k * 64, rfl, hg, fun i b hb j hj => ?_⟩
    rw [List.getElem?_drop] at hb
    rw [← hc (k + i) b hb j hj]
    congr 2
    omega
theorem Secs.of_blk {w : World} {g : Nat} {L : List Bk} (h : Blk w g 81 (pcs L).toArray) : Secs w (some ⟨g, 0, none⟩) L := by
  refine .inr ⟨g, 0, rfl, h.lt, fun i b hb j hj => ?_⟩
  rw [Nat.zero_add, h.cell]
  simpa using pcs_get hb hj
theorem lsec {w : World} {g o i : Nat} {b : Bk} (hc : ∀ j, j < 64 → w.cell? ⟨g, o + i * 64 + j, none⟩ = b.cs[j]?) : (loadSem 81 (.pointer (some ⟨g, o + i * 64, none⟩))).run Try.prog w = .ok (.agg b.cs) w := by
  have := run_loadAt_mid (P := Try.prog) w g (o + i * 64) 81 b.cs.toList _ (fun j v hj => by
    have hl : j < 64 := by have := (List.getElem?_eq_some_iff.1 hj).1; simpa [b.size] using this
    rw [hc j hl]; simpa using hj) Try.underlying81 rfl (by simpa using s_blk b)
  rw [Array.toArray_toList] at this
  exact this
theorem owns_later2 {w w' : World} {B : Nat} {e : TypeId} {z : Nat} {v : Value} {n : Nat} {xs : List Value} (h : w.ownsRow B e z v n xs) (k : Below w.heap.size w w') : w'.ownsRow B e z v n xs := by
  rcases h.2 with h9 | ⟨q, cap, cur, e1, e2, e3, e4⟩
  · exact ⟨h.1, .inl h9⟩
  · exact ⟨h.1, .inr ⟨q, cap, cur, e1, e2, (k.block q (Array.getElem?_eq_some_iff.1 e3).1).trans e3, e4⟩⟩
theorem take_next {L : List Bk} {k : Nat} {b : Bk} (hb : L[k]? = some b) : L.take (k + 1) = L.take k ++ [b] := by
  have hl : k < L.length := (List.getElem?_eq_some_iff.1 hb).1
  rw [List.take_add_one, hb]
  rfl
/-- What has been found so far may go on. -/
def GoesOn (L : List Bk) (k : Nat) : Prop := (∀ x ∈ L.take k, okPt x.n = true) ∧ (k = 0 ∨ ∃ b0, L[0]? = some b0 ∧ k ≤ (pqOf b0).p.bh)
theorem partsR_bad {L : List Bk} {k : Nat} {b : Bk} (h : GoesOn L k) (hb : L[k]? = some b) (hn : okPt b.n = false) : partsR L = [] := by
  cases L with
  | nil => rfl
  | cons b0 r =>
    simp only [partsR]
    rw [if_neg]
    rintro ⟨_, h2⟩
    have hk : k ≤ (pqOf b0).p.bh := by
      rcases h.2 with h9 | ⟨b9, h8, h9⟩
      · omega
      · have e : b0 = b9 := by simpa using h8
        rw [e]; exact h9
    have hm : b ∈ (b0 :: r).take ((pqOf b0).p.bh + 1) := by
      refine List.mem_iff_getElem?.2 ⟨k, ?_⟩
      rw [List.getElem?_take, if_pos (by omega), hb]
    rw [h2 b hm] at hn
    cases hn
theorem partsR_end {L : List Bk} (h : GoesOn L L.length) : partsR L = [] := by
  cases L with
  | nil => rfl
  | cons b0 r =>
    simp only [partsR]
    rw [if_neg]
    rintro ⟨h1, _⟩
    rcases h.2 with h9 | ⟨b9, h8, h9⟩
    · simp at h9
    · have e : b0 = b9 := by simpa using h8
      have h10 : (pqOf b0).p.bh = (pqOf b9).p.bh := by rw [e]
      omega
theorem partsR_all {L : List Bk} {k : Nat} {b b0 : Bk} (h : GoesOn L k) (hb : L[k]? = some b) (hy : okPt b.n = true) (h0 : L[0]? = some b0) (hk : k = (pqOf b0).p.bh) : partsR L = (L.take (k + 1)).map pqOf := by
  cases L with
  | nil => simp at hb
  | cons b1 r =>
    have e : b1 = b0 := by simpa using h0
    subst e
    simp only [partsR]
    rw [← hk, if_pos]
    refine ⟨(List.getElem?_eq_some_iff.1 hb).1, fun x hx => ?_⟩
    rw [take_next hb] at hx
    rcases List.mem_append.1 hx with h9 | h9
    · exact h.1 x h9
    · rw [List.mem_singleton.1 h9]; exact hy
theorem GoesOn.next {L : List Bk} {k : Nat} {b b0 : Bk} (h : GoesOn L k) (hb : L[k]? = some b) (hy : okPt b.n = true) (h0 : L[0]? = some b0) (hk : k ≠ (pqOf b0).p.bh) : GoesOn L (k + 1) := by
  refine ⟨fun x hx => ?_, .inr ⟨b0, h0, ?_⟩⟩
  · rw [take_next hb] at hx
    rcases List.mem_append.1 hx with h9 | h9
    · exact h.1 x h9
    · rw [List.mem_singleton.1 h9]; exact hy
  · rcases h.2 with h9 | ⟨b9, h8, h9⟩
    · omega
    · have e : b0 = b9 := by rw [h0] at h8; exact Option.some.inj h8
      rw [← e] at h9
      omega
attribute [local go_sem ↓] load_blk_rule store_blk_rule load_part_rule store_part_rule pbuild_rule papp_rule
set_option maxRecDepth 100000 in
set_option maxHeartbeats 4000000 in
theorem partsat_any {w : World} {a : Option Addr} {L : List Bk} (hL : Secs w a L) (hB : ∀ b ∈ L, b.Byt) (hl : L.length ≤ 1000) (cap : Nat) : Calls Try.prog 89 #[.slice a L.length cap] w fun e w' => ∃ v, e = .returned v ∧ w'.ownsRow w.heap.size 126 52 v (partsR L).length (qcs (partsR L)) ∧ Below w.heap.size w w' := by
  obtain ⟨n, hn⟩ : ∃ n, L.length = n := ⟨_, rfl⟩
  have HL := Lib.hid (And.intro hL (And.intro hB hn))
  rw [hn] at hl ⊢
  clear hL hB hn
  go_enter Try.func89, Try.ntmps89
  go_wp2_with fail
  go_loopw [3, 10] (fun fo i wr => ∃ k : Nat, k ≤ n ∧ i = .int .i64 k ∧ wr.ownsRow w.heap.size 126 52 fo ((L.take k).map pqOf).length (qcs ((L.take k).map pqOf)) ∧ GoesOn L k ∧ Below w.heap.size w wr) (fun _ i _ => n - (intOf i).toNat)
  case atStart => exact ⟨0, Nat.zero_le _, rfl, World.ownsRow_nil _ _ _ _, ⟨by simp, .inl rfl⟩, Below.refl _ _⟩
  case round =>
    obtain ⟨k, hk, rfl, hfo, hgo, hbb⟩ := hrel
    by_cases hlt : k < n
    · have hki : (k : Int) < (n : Int) := by omega
      obtain ⟨b, hb⟩ : ∃ b, L[k]? = some b := ⟨_, List.getElem?_eq_getElem (by have := HL.out.2.2; omega)⟩
      obtain ⟨b0, hb0⟩ : ∃ b0, L[0]? = some b0 := ⟨_, List.getElem?_eq_getElem (by have := HL.out.2.2; omega)⟩
      obtain ⟨g0, o0, rfl, hg0, hc0⟩ : ∃ g o, a = some ⟨g, o, none⟩ ∧ g < wr.heap.size ∧ ∀ i b, L[i]? = some b → ∀ j, j < 64 → wr.cell? ⟨g, o + i * 64 + j, none⟩ = b.cs[j]? := by
        rcases HL.out.1.later hbb with h9 | h9
        · rw [h9] at hb; simp at hb
        · exact h9
      have hld := lsec (hc0 k b hb)
      have hbB : b.Byt := HL.out.2.1 b (List.mem_of_getElem? hb)
      have hpo := fun w' => partof_any b hbB w'
      have hsn := sblk_new wr b
      obtain ⟨W1, hW1⟩ : ∃ W1, wr.alloc (.cells b.cs 81) = W1 := ⟨_, rfl⟩
      have b1 : Blk W1 wr.heap.size 81 b.cs := by rw [← hW1]; exact Blk.new _ _ _
      have hb1 : Below wr.heap.size wr W1 := by rw [← hW1]; exact (Below.refl _ _).alloc (Nat.le_refl _) _
      rw [hW1] at hsn
      have hl1 := wlblk b1
      have HK := Lib.hid (And.intro hfo (And.intro hgo (And.intro hbb (And.intro hb (And.intro hb0 hb1)))))
      obtain ⟨q, hq⟩ : ∃ q, pqOf b = q := ⟨_, rfl⟩
      obtain ⟨PC, hPC⟩ : ∃ PC, (ptOf b.n).cs = PC := ⟨_, rfl⟩
      obtain ⟨ok, hok⟩ : ∃ ok, okPt b.n = ok := ⟨_, rfl⟩
      rw [hPC, hok] at hpo
      have hqc : q.cs = PC := by rw [← hq, ← hPC]; rfl
      have HQ := Lib.hid (And.intro hq (And.intro hqc hok))
      obtain ⟨BC, hBC⟩ : ∃ BC, b.cs = BC := ⟨_, rfl⟩
      rw [hBC] at hld hpo hsn hl1
      clear hfo hgo hbb hb1 hc0 hg0 hb hb0 hq hqc hok hPC hW1 b1 hbB hBC
      go_wp2_with (first | (with_reducible refine wpList_alloc_z rfl 81 rfl Bk.zero.cs 64 z_blk ?_))
      refine (hpo W1).mono ?_
      rintro e W2 ⟨rfl, hb2⟩
      clear hpo
      have hsp : (storeSem 126 (.pointer (some ⟨W2.heap.size, 0, none⟩)) (.agg PC)).run Try.prog (W2.alloc (.cells Pt.zero.cs 126)) = .ok () (W2.alloc (.cells PC 126)) := by
        have := spart_new W2 q.p q.l48
        rw [show q.p.cs = PC from HQ.out.2.1] at this
        exact this
      obtain ⟨W3, hW3⟩ : ∃ W3, W2.alloc (.cells PC 126) = W3 := ⟨_, rfl⟩
      have b3 : Blk W3 W2.heap.size 126 PC := by rw [← hW3]; exact Blk.new _ _ _
      have hb3 : Below wr.heap.size wr W3 := by
        rw [← hW3]
        exact (bel_lat HK.out.2.2.2.2.2 hb2).alloc (bel_lat HK.out.2.2.2.2.2 hb2).size _
      rw [hW3] at hsp
      have hl3 : (loadSem 126 (.pointer (some ⟨W2.heap.size, 0, none⟩))).run Try.prog W3 = .ok (.agg PC) W3 := by
        have e := HQ.out.2.1
        unfold Pq.cs at e
        rw [← e] at b3 ⊢
        exact lpart b3 q.l48
      have HW3 := Lib.hid (And.intro b3 hb3)
      clear b3 hb3 hb2 hW3
      cases ok with
      | false =>
        go_wp2_with (first | (with_reducible refine wpList_alloc_z rfl 126 rfl Pt.zero.cs 52 z_part ?_))
        go_ret
        refine ⟨_, rfl, ?_, HK.out.2.2.1.trans (HW3.out.2.mono HK.out.2.2.1.size)⟩
        rw [partsR_bad HK.out.2.1 HK.out.2.2.2.1 HQ.out.2.2]
        exact World.ownsRow_nil _ _ _ _
      | true =>
        have hown3 := owns_later2 HK.out.1 HW3.out.2
        have hbs : (pbuildSem 1 #[(0, .agg PC)]).run Try.prog W3 = .ok (.slice (some ⟨W3.heap.size, 0, none⟩) 1 1) (W3.alloc (.cells PC 126)) := by
          have := pbuildSem_run q W3
          rw [HQ.out.2.1] at this
          exact this
        obtain ⟨W4, hW4⟩ : ∃ W4, W3.alloc (.cells PC 126) = W4 := ⟨_, rfl⟩
        have b4 : Blk W4 W3.heap.size 126 q.cs := by rw [← hW4, HQ.out.2.1]; exact Blk.new _ _ _
        have hb34 : Below W3.heap.size W3 W4 := by rw [← hW4]; exact (Below.refl _ _).alloc (Nat.le_refl _) _
        rw [hW4] at hbs
        have hbw4 : Below w.heap.size w W4 := bel_lat (HK.out.2.2.1.trans (HW3.out.2.mono HK.out.2.2.1.size)) hb34
        have hlen9 : ((L.take k).map pqOf).length ≤ 1000 := by rw [List.length_map, List.length_take]; omega
        obtain ⟨fg, fcap, W5, hap, hown5, hgr5, hfg⟩ := pappSem_run 145 (owns_later2 hown3 hb34) hlen9 b4 hbw4.size
        have hbw5 : Below w.heap.size w W5 := hbw4.grown hgr5 hbw4.size (fun j hj => (hown3.lt j hj).1)
        rw [show (L.take k).map pqOf ++ [q] = (L.take (k + 1)).map pqOf by rw [take_next HK.out.2.2.2.1, ← HQ.out.1]; simp] at hown5
        have hlk : ((L.take k).map pqOf).length = k := by rw [List.length_map, List.length_take, HL.out.2.2]; omega
        have hlk1 : ((L.take (k + 1)).map pqOf).length = k + 1 := by rw [List.length_map, List.length_take, HL.out.2.2]; omega
        rw [hlk] at hap hown5
        obtain ⟨h0, hh0⟩ : ∃ h0, (pqOf b0).p.bh = h0 := ⟨_, rfl⟩
        have c5 : W5.cell? ⟨fg, 2, none⟩ = some (.int .u16 (h0 : Int)) := by
          rcases hown5.2 with ⟨h9, _⟩ | ⟨g', cap', cur', h9, _, hg', _, _, _, ht⟩
          · cases h9
          · have e1 : fg = g' := by injection h9 with e6; injection e6 with e7; injection e7
            subst e1
            rw [cell_of_row W5 fg 2 cur' _ (0, 0) hg']
            have e2 : (qcs ((L.take (k + 1)).map pqOf))[2]? = some (.int .u16 (h0 : Int)) := by
              have h0' : ((L.take (k + 1)).map pqOf)[0]? = some (pqOf b0) := by
                rw [List.getElem?_map, List.getElem?_take, if_pos (by omega), HK.out.2.2.2.2.1]
                rfl
              have := qcs_get h0' (j := 2) (by omega)
              rw [Nat.zero_mul, Nat.zero_add] at this
              rw [this, ← hh0]
              exact (pqOf b0).p.c2
            rw [← ht, List.getElem?_take] at e2
            split at e2
            · simpa using e2
            · cases e2
        have H5 := Lib.hid (And.intro hown5 (And.intro hbw5 (And.intro hlk1 hh0)))
        have hh16 : h0 ≤ 65535 := by rw [← hh0]; exact num2_lt _ _
        have hwr : wrap64 (h0 : Int) = (h0 : Int) := by unfold wrap64; omega
        clear hown3 hown5 hgr5 hfg hbw5 hbw4 hb34 b4 hlk hlk1 hh0 hW4 hlen9
        by_cases hkh : k = h0
        · subst hkh
          go_wp2_with (first | (with_reducible refine wpList_alloc_z rfl 126 rfl Pt.zero.cs 52 z_part ?_))
          go_ret
          refine ⟨_, rfl, ?_, H5.out.2.1⟩
          rw [partsR_all HK.out.2.1 HK.out.2.2.2.1 HQ.out.2.2 HK.out.2.2.2.2.1 H5.out.2.2.2.symm, H5.out.2.2.1]
          exact H5.out.1
        · have hkhi : ¬ (k : Int) = (h0 : Int) := by omega
          have hkhb : ((k : Int) == (h0 : Int)) = false := by simpa using hkhi
          have HN := Lib.hid (HK.out.2.1.next HK.out.2.2.2.1 HQ.out.2.2 HK.out.2.2.2.2.1 (by rw [H5.out.2.2.2]; exact hkh))
          go_wp2_with (first | (with_reducible refine wpList_alloc_z rfl 126 rfl Pt.zero.cs 52 z_part ?_))
          go_roundw
          case rel => exact ⟨k + 1, by omega, by go_num, by rw [H5.out.2.2.1]; exact H5.out.1, HN.out, H5.out.2.1⟩
          case measure => simp [intOf]; omega
    · obtain rfl : k = n := by omega
      have HK := Lib.hid (And.intro hgo hbb)
      clear hgo hbb hfo
      go_wp2_with fail
      go_ret
      refine ⟨_, rfl, ?_, HK.out.2⟩
      rw [partsR_end (by rw [HL.out.2.2]; exact HK.out.1)]
      exact World.ownsRow_nil _ _ _ _
end Go.Proofs.Ytelpihlifdfgoaa
namespace Go.Proofs.Ytelpihlifdfgoaa
open Go.RowKit Go.Shelf
set_option linter.unusedVariables false
def samePt (p q : Pt) : Bool := p.t == q.t && (p.n == q.n && (p.bh == q.bh && (p.sz == q.sz && p.l == q.l)))
theorem samePt_iff (p q : Pt) : samePt p q = true ↔ p = q := by
  obtain ⟨a, b, c, d, e⟩ := p
  obtain ⟨a', b', c', d', e'⟩ := q
  simp [samePt]
def eqPt (a b : Value) : Sem Bool := Op.equalIn 10000 126 a b
theorem eq_pt_rule (a b : Value) : Op.equalIn 10000 126 a b = eqPt a b := rfl
theorem nat_beq (x y : Nat) : ((x : Int) == (y : Int)) = (x == y) := by
  rw [Bool.eq_iff_iff, beq_iff_eq, beq_iff_eq]
  omega
theorem eq_u32 (d x y : Nat) (w : World) : (Op.equalIn (d + 1) 52 (.int .u32 (x : Int)) (.int .u32 (y : Int))).run Try.prog w = .ok (x == y) w := by
  have := run_equalIn_int (P := Try.prog) (w := w) d 52 .u32 .u32 (x : Int) (y : Int) Try.underlying52
  rw [this, nat_beq]
theorem eq_u16 (d x y : Nat) (w : World) : (Op.equalIn (d + 1) 123 (.int .u16 (x : Int)) (.int .u16 (y : Int))).run Try.prog w = .ok (x == y) w := by
  have := run_equalIn_int (P := Try.prog) (w := w) d 123 .u16 .u16 (x : Int) (y : Int) Try.underlying123
  rw [this, nat_beq]
theorem eq_u8 (d x y : Nat) (w : World) : (Op.equalIn (d + 1) 5 (.int .u8 (x : Int)) (.int .u8 (y : Int))).run Try.prog w = .ok (x == y) w := by
  have := run_equalIn_int (P := Try.prog) (w := w) d 5 .u8 .u8 (x : Int) (y : Int) Try.underlying5
  rw [this, nat_beq]
theorem equal_b48 (d : Nat) {a b : List Nat} (ha : a.length = 48) (hb : b.length = 48) (w : World) : (Op.equalIn (d + 2) 124 (.agg (a.map byc).toArray) (.agg (b.map byc).toArray)).run Try.prog w = .ok (a == b) w := by
  rw [show d + 2 = (d + 1) + 1 from rfl, Op.equalIn]
  have hu := run_underlying (P := Try.prog) Try.underlying124 w
  have hn : (sizeOf 5).run Try.prog w = .ok 1 w := by kernel_rfl
  simp only [Sem.run_bind, hu, Result.andThen_ok, hn]
  have hagg : (isAgg 5).run Try.prog w = .ok false w := by kernel_rfl
  have hpart : ∀ (c : List Nat), c.length = 48 → ∀ i, i < 48 → (part 5 (c.map byc).toArray (i * 1)).run Try.prog w = .ok (.int .u8 ((c.getD i 0 : Nat) : Int)) w := by
    intro c hc i hi
    have hg : (c.map byc).toArray[i]? = some (.int .u8 ((c.getD i 0 : Nat) : Int)) := by
      rw [List.getElem?_toArray, List.getElem?_map, List.getElem?_eq_getElem (by omega)]
      simp [byc, List.getD_eq_getElem?_getD, List.getElem?_eq_getElem (show i < c.length by omega)]
    unfold part
    simp only [Sem.run_bind, hagg, Result.andThen_ok, Nat.mul_one, hg]
    rfl
  have hloop : ∀ l : List Nat, (∀ i ∈ l, i < 48) → Sem.run Try.prog (forIn l ((none : Option Bool), ()) fun i __s => do
      let x ← part 5 (a.map byc).toArray (i * 1)
      let y ← part 5 (b.map byc).toArray (i * 1)
      let z ← Op.equalIn (d + 1) 5 x y
      if (!z) = true then pure (ForInStep.done (some false, ())) else pure (ForInStep.yield (none, ()))) w = .ok (if (∀ i ∈ l, a.getD i 0 = b.getD i 0) then (none, ()) else (some false, ())) w := by
    intro l
    induction l with
    | nil => intro _; simp
    | cons i l ih =>
      intro h
      rw [List.forIn_cons]
      simp only [Sem.run_bind, hpart a ha i (h i (by simp)), hpart b hb i (h i (by simp)), eq_u8, Result.andThen_ok]
      by_cases hx : a.getD i 0 = b.getD i 0
      · have hd : (!(a.getD i 0 == b.getD i 0)) = false := by rw [Bool.not_eq_false', beq_iff_eq]; exact hx
        simp only [hd, Bool.false_eq_true, if_false, Sem.run_pure, Result.andThen_ok]
        rw [ih (fun j hj => h j (by simp [hj]))]
        by_cases hr : ∀ j ∈ l, a.getD j 0 = b.getD j 0
        · rw [if_pos hr, if_pos (fun j hj => by rcases List.mem_cons.1 hj with rfl | h9; exact hx; exact hr j h9)]
        · rw [if_neg hr, if_neg (fun h9 => hr (fun j hj => h9 j (by simp [hj])))]
      · have hd : (!(a.getD i 0 == b.getD i 0)) = true := by rw [Bool.not_eq_true', beq_eq_false_iff_ne]; exact hx
        simp only [hd, if_true, Sem.run_pure, Result.andThen_ok]
        have : ¬ (∀ j ∈ i :: l, a.getD j 0 = b.getD j 0) := fun h9 => hx (h9 i (by simp))
        rw [if_neg this]
  simp only [Std.Legacy.Range.forIn_eq_forIn_range', Std.Legacy.Range.size, Nat.sub_zero, Nat.add_sub_cancel, Nat.div_one]
  rw [hloop _ (by intro i hi; have := List.mem_range'_1.1 hi; omega)]
  by_cases hab : a = b
  · subst hab
    simp
  · have : ¬ (∀ i ∈ List.range' 0 48, a.getD i 0 = b.getD i 0) := fun h9 => hab (by
      apply List.ext_getElem (by omega)
      intro i h1 h2
      have := h9 i (List.mem_range'_1.2 ⟨by omega, by omega⟩)
      simpa [List.getD_eq_getElem?_getD, h1, h2] using this)
    rw [if_neg this]
    have : (a == b) = false := beq_eq_false_iff_ne.2 hab
    rw [this]
    rfl
theorem pt_at (p : Pt) {j : Nat} {T : TypeId} {v : Value} (hagg : ∀ w, (isAgg T).run Try.prog w = .ok false w) (h : p.cs[j]? = some v) (w : World) : (part T p.cs j).run Try.prog w = .ok v w := by
  unfold part
  simp only [Sem.run_bind, hagg, Result.andThen_ok, h]
  rfl
theorem pt_b {p : Pt} (hl : p.l.length = 48) (w : World) : (part 124 p.cs 4).run Try.prog w = .ok (.agg (p.l.map byc).toArray) w := by
  have hagg : (isAgg 124).run Try.prog w = .ok true w := by kernel_rfl
  have hn : (sizeOf 124).run Try.prog w = .ok 48 w := by kernel_rfl
  have hs : p.cs.size = 52 := Pt.size hl
  have e : p.cs.extract 4 (4 + 48) = (p.l.map byc).toArray := by
    apply Array.ext_getElem?
    intro j
    rw [Array.getElem?_extract, hs]
    by_cases hj : j < 48
    · rw [if_pos (by omega), p.c4]; simp
    · rw [if_neg (by omega), Array.getElem?_eq_none (by simp [hl]; omega)]
  unfold part
  simp only [Sem.run_bind, hagg, hn, Result.andThen_ok, if_true, hs, e]
  simp only [Nat.reduceAdd, Nat.reduceLeDiff, if_true, Sem.run_pure]
theorem stood_pt : Try.prog.stoodInHeld 126 = false := by kernel_rfl
theorem run_prog_pt (w : World) : (program).run Try.prog w = .ok Try.prog w := rfl
theorem equal_pt (d : Nat) {p q : Pt} (hp : p.l.length = 48) (hq : q.l.length = 48) (w : World) : (Op.equalIn (d + 3) 126 (.agg p.cs) (.agg q.cs)).run Try.prog w = .ok (samePt p q) w := by
  rw [show d + 3 = (d + 2) + 1 from rfl, Op.equalIn]
  have hu := run_underlying (P := Try.prog) Try.underlying126 w
  have h2 := fun x y => eq_u32 (d + 1) x y w
  have h3 := fun x y => eq_u16 (d + 1) x y w
  have h4 := equal_b48 d hp hq w
  have p0 := fun (r : Pt) => pt_at r (T := 52) (by intro w; kernel_rfl) r.c0 w
  have p1 := fun (r : Pt) => pt_at r (T := 52) (by intro w; kernel_rfl) r.c1 w
  have p2 := fun (r : Pt) => pt_at r (T := 123) (by intro w; kernel_rfl) r.c2 w
  have p3 := fun (r : Pt) => pt_at r (T := 123) (by intro w; kernel_rfl) r.c3 w
  have p4 := pt_b hp w
  have q4 := pt_b hq w
  generalize (p.l.map byc).toArray = X at p4 h4
  generalize (q.l.map byc).toArray = Y at q4 h4
  simp only [Sem.run_bind, hu, Result.andThen_ok, run_prog_pt, stood_pt]
  simp only [Bool.false_eq_true, if_false, List.forIn_toArray, List.forIn_cons, List.forIn_nil, Sem.run_bind, Sem.run_pure, Result.andThen_ok]
  simp only [show ("turn" ≠ "_") = True from by simp, show ("number" ≠ "_") = True from by simp, show ("behind" ≠ "_") = True from by simp, show ("size" ≠ "_") = True from by simp, show ("bytes" ≠ "_") = True from by simp, if_true, Sem.run_bind, Result.andThen_ok, p0, p1, p2, p3, p4, q4, h2, h3, h4]
  unfold samePt
  obtain ⟨bt, hbt⟩ : ∃ b, (p.t == q.t) = b := ⟨_, rfl⟩
  cases bt with
  | false =>
    have hd : (!(p.t == q.t)) = true := by rw [hbt]; rfl
    simp only [hd, if_true, Sem.run_pure, Sem.run_bind, Result.andThen_ok]
    rw [hbt, Bool.false_and]
  | true =>
  have hdt : (!(p.t == q.t)) = false := by rw [hbt]; rfl
  simp only [hdt, Bool.false_eq_true, if_false, Sem.run_pure, Sem.run_bind, Result.andThen_ok, p1, h2]
  rw [hbt, Bool.true_and]
  obtain ⟨bn, hbn⟩ : ∃ b, (p.n == q.n) = b := ⟨_, rfl⟩
  cases bn with
  | false =>
    have hd : (!(p.n == q.n)) = true := by rw [hbn]; rfl
    simp only [hd, if_true, Sem.run_pure, Sem.run_bind, Result.andThen_ok]
    rw [hbn, Bool.false_and]
  | true =>
  have hdn : (!(p.n == q.n)) = false := by rw [hbn]; rfl
  simp only [hdn, Bool.false_eq_true, if_false, Sem.run_pure, Sem.run_bind, Result.andThen_ok, p2, h3]
  rw [hbn, Bool.true_and]
  obtain ⟨bbh, hbbh⟩ : ∃ b, (p.bh == q.bh) = b := ⟨_, rfl⟩
  cases bbh with
  | false =>
    have hd : (!(p.bh == q.bh)) = true := by rw [hbbh]; rfl
    simp only [hd, if_true, Sem.run_pure, Sem.run_bind, Result.andThen_ok]
    rw [hbbh, Bool.false_and]
  | true =>
  have hdbh : (!(p.bh == q.bh)) = false := by rw [hbbh]; rfl
  simp only [hdbh, Bool.false_eq_true, if_false, Sem.run_pure, Sem.run_bind, Result.andThen_ok, p3, h3]
  rw [hbbh, Bool.true_and]
  obtain ⟨bsz, hbsz⟩ : ∃ b, (p.sz == q.sz) = b := ⟨_, rfl⟩
  cases bsz with
  | false =>
    have hd : (!(p.sz == q.sz)) = true := by rw [hbsz]; rfl
    simp only [hd, if_true, Sem.run_pure, Sem.run_bind, Result.andThen_ok]
    rw [hbsz, Bool.false_and]
  | true =>
  have hdsz : (!(p.sz == q.sz)) = false := by rw [hbsz]; rfl
  simp only [hdsz, Bool.false_eq_true, if_false, Sem.run_pure, Sem.run_bind, Result.andThen_ok]
  rw [hbsz, Bool.true_and, p4, Result.andThen_ok]
  rw [q4, Result.andThen_ok]
  rw [h4, Result.andThen_ok]
  obtain ⟨bl, hbl⟩ : ∃ b, (p.l == q.l) = b := ⟨_, rfl⟩
  cases bl with
  | false =>
    have hd : (!(p.l == q.l)) = true := by rw [hbl]; rfl
    simp only [hd, if_true, Sem.run_pure, Sem.run_bind, Result.andThen_ok]
    rw [hbl]
  | true =>
  have hdl : (!(p.l == q.l)) = false := by rw [hbl]; rfl
  simp only [hdl, Bool.false_eq_true, if_false, Sem.run_pure, Sem.run_bind, Result.andThen_ok]
  rw [hbl]
theorem eqPt_run {p q : Pt} (hp : p.l.length = 48) (hq : q.l.length = 48) (w : World) : (eqPt (.agg p.cs) (.agg q.cs)).run Try.prog w = .ok (samePt p q) w := by
  unfold eqPt
  obtain ⟨d, hd⟩ : ∃ d, d + 3 = 10000 := ⟨9997, rfl⟩
  rw [← hd]
  exact equal_pt d hp hq w
end Go.Proofs.Ytelpihlifdfgoaa
namespace Go.Proofs.Ytelpihlifdfgoaa
set_option linter.unusedVariables false

section
variable {P : Program} {ops : Array Oper} {Q : Exit → Act → World → Prop} {S : World → Prop} {l0 n0 : Nat}

def noDeferK (ops : Array Oper) : Bool := ops.all fun o => match o.op with | .defer _ => false | _ => true
theorem noDeferK_spec (h : noDeferK ops = true) (j : Nat) (o : Oper) (hj : ops[j]? = some o) : ∀ c, o.op ≠ .defer c := by
  intro c hc
  have h1 := Array.all_eq_true.1 h j (Array.getElem?_eq_some_iff.1 hj).1
  rw [(Array.getElem?_eq_some_iff.1 hj).2, hc] at h1
  cases h1
theorem wpInK_up {o : Oper} {a : Act} (hd : ∀ c, o.op ≠ .defer c) {wx : World} {K : Act → World → Prop} (h : o.uponIn (Fence.wide.inRound l0) n0 P a K Q ((execOp a.eval o).run P wx)) : o.wpIn (Fence.wide.inRound l0) n0 P a wx K Q := by
  unfold Oper.wpIn
  rw [Oper.semAt_eq _ _ _ hd]
  exact ⟨fun _ _ => trivial, h⟩
theorem linK_any {eff ord : List Nat} (hok : ordOkY ops eff ord = true) (hnd : noDeferK ops = true) : ∀ (fuel : Nat) (listed : Array Bool) (a : Act) (w : World), listed.size = ops.size → ClosedL ops listed → (left listed ord).length ≤ fuel → S w → LinX P ops Q S eff (left listed ord) a w → wpAnyIn (Fence.wide.inRound l0) n0 P .any ops Q fuel listed a w := by
  simp only [ordOkY, Bool.and_eq_true] at hok
  obtain ⟨⟨hns, _⟩, hall0, hpairs⟩ := hok
  have hsel : ∀ (j : Nat) (o : Oper), ops[j]? = some o → ∀ cs b, o.op ≠ .select cs b := fun j o ho cs b => Region.noSelect_spec hns j o cs b ho
  have hback : ∀ j oj, ops[j]? = some oj → j ∈ ord ∧ ∀ e ∈ oj.after, Region.binds .any e = true → e.on < j := by
    intro j oj hoj
    have h1 := List.all_eq_true.1 hall0 j (List.mem_range.2 (Array.getElem?_eq_some_iff.1 hoj).1)
    simp only [hoj, Bool.and_eq_true, Array.all_eq_true_iff_forall_mem] at h1
    exact ⟨List.contains_iff_mem.1 h1.1, fun e he hb => by
      have h2 := h1.2 e he
      simpa [hb] using h2⟩
  have hnil : ∀ listed : Array Bool, listed.size = ops.size → Region.ready .any ops listed = [] → left listed ord = [] := by
    intro listed hsz hr
    have key : ∀ j, listed.getD j true = true := by
      intro j
      induction j using Nat.strongRecOn with
      | ind j ih =>
        cases hb : listed.getD j true with
        | true => rfl
        | false =>
          have hj : j < ops.size := by
            rcases Nat.lt_or_ge j listed.size with h' | h'
            · omega
            · simp [Array.getElem?_eq_none h'] at hb
          have hoj : ops[j]? = some ops[j] := Array.getElem?_eq_getElem hj
          have hm : j ∈ Region.ready .any ops listed := mem_ready.2 ⟨hb, _, hoj, fun e he hbd => by
            have hlt := (hback j _ hoj).2 e he hbd
            have h9 := ih e.on hlt
            have h8 : e.on < listed.size := by omega
            simp [h8] at h9 ⊢
            exact h9⟩
          rw [hr] at hm
          cases hm
    unfold left
    rw [List.filter_eq_nil_iff]
    intro i _
    rw [key i]
    simp
  have hpick : ∀ (listed : Array Bool) (j : Nat), listed.size = ops.size → ClosedL ops listed → j ∈ Region.ready .any ops listed → ∃ oj T1 T2, ops[j]? = some oj ∧ left listed ord = T1 ++ j :: T2 ∧ left (listed.setIfInBounds j true) ord = T1 ++ T2 ∧ ∀ i ∈ T1, ∃ x, ops[i]? = some x ∧ (∀ cs b, x.op ≠ .select cs b) ∧ x.apart ops oj = true ∧ eff.contains i = false := by
    intro listed j hsz hcl hj
    obtain ⟨hun, oj, hoj, hall⟩ := mem_ready.1 hj
    obtain ⟨L1, L2, hord⟩ := List.append_of_mem (hback j oj hoj).1
    rw [hord] at hpairs
    obtain ⟨hn1, hn2, hp⟩ := pairsOkY_split L1 hpairs
    have hlt : j < listed.size := by have := (Array.getElem?_eq_some_iff.1 hoj).1; omega
    refine ⟨oj, left listed L1, left listed L2, hoj, ?_, ?_, ?_⟩
    · rw [hord]
      unfold left
      rw [List.filter_append, List.filter_cons, hun]
      simp
    · have e : left (listed.setIfInBounds j true) (j :: L2) = left (listed.setIfInBounds j true) L2 := by
        unfold left
        rw [List.filter_cons]
        simp [hlt]
      have e2 : left (listed.setIfInBounds j true) (L1 ++ j :: L2) = left (listed.setIfInBounds j true) L1 ++ left (listed.setIfInBounds j true) (j :: L2) := by simp [left]
      rw [hord, e2, e, left_set _ _ _ hn1, left_set _ _ _ hn2]
    · intro i hi
      have hi1 := List.mem_filter.1 hi
      obtain ⟨hil, hc⟩ := hp i hi1.1
      have hui : listed.getD i true = false := by simpa using hi1.2
      have hoi : ops[i]? = some ops[i] := Array.getElem?_eq_getElem hil
      rcases hc with h9 | h9
      · refine ⟨_, hoi, hsel i _ hoi, ?_, h9.2⟩
        have h7 := h9.1
        unfold pairApart at h7
        simp only [hoi, hoj] at h7
        exact h7
      · have h8 := reach_spec hcl 14 j i hoj hall h9
        have h7 : i < listed.size := by omega
        simp [h7] at h8 hui
        rw [hui] at h8
        cases h8
  intro fuel
  induction fuel with
  | zero =>
    intro listed a w hsz hcl hlen hS hL
    have h0 : left listed ord = [] := List.length_eq_zero_iff.1 (by omega)
    rw [h0] at hL
    refine ⟨?_, hL⟩
    refine List.eq_nil_iff_forall_not_mem.2 (fun j hj => ?_)
    obtain ⟨oj, T1, T2, _, h1, _⟩ := hpick listed j hsz hcl hj
    rw [h0] at h1
    simp at h1
  | succ fuel ih =>
    intro listed a w hsz hcl hlen hS hL
    refine ⟨fun hr => ?_, fun j hj => ?_⟩
    · rw [hnil listed hsz hr] at hL
      exact hL
    · obtain ⟨oj, T1, T2, hoj, h1, h2, h3⟩ := hpick listed j hsz hcl hj
      rw [h1] at hL hlen
      obtain ⟨oj', hoj', q1, q2⟩ := LinX.front hoj (hsel j oj hoj) T1 a w h3 hL
      obtain rfl : oj' = oj := Option.some.inj (hoj'.symm.trans hoj)
      have hnext : ∀ a' w', S w' → LinX P ops Q S eff (T1 ++ T2) a' w' → wpAnyIn (Fence.wide.inRound l0) n0 P .any ops Q fuel (listed.setIfInBounds j true) a' w' := fun a' w' hS' h4 => by
        refine ih (listed.setIfInBounds j true) a' w' (by simp [hsz]) (closedL_set hcl hj) ?_ hS' (by rw [h2]; exact h4)
        rw [h2]
        simp at hlen ⊢
        omega
      have hd := noDeferK_spec hnd j _ hoj
      unfold wpOpIn
      simp only [hoj]
      cases hv : eff.contains j with
      | false =>
        obtain ⟨v, g, h5⟩ := q1 hv
        rcases g with ⟨hw, hy⟩ | ⟨hw, rfl⟩
        · simp only [hw, if_true]
          refine wpInK_up hd ?_
          rcases hy w hS with h6 | ⟨f, args, h6, h7⟩
          · rw [h6, Oper.uponIn_value]
            exact hnext _ _ hS h5
          · rw [h6, Oper.uponIn_enter]
            refine ⟨(fun h => by cases h), CallsIn.inRound _ (callsIn_wide.2 (Calls.mono h7 ?_))⟩
            rintro e w' ⟨rfl, rfl⟩
            exact hnext _ _ hS h5
        · simp only [hw, Bool.false_eq_true, if_false]
          exact ⟨fun _ _ => trivial, hnext _ _ hS h5⟩
      | true =>
        obtain ⟨hw, hm⟩ := q2 hv
        simp only [hw, if_true]
        refine wpInK_up hd ?_
        rcases hm with ⟨v, w', h6 | ⟨h6, rfl⟩, h7, h8⟩ | ⟨f, args, w1, h6, h7⟩
        · rw [h6, Oper.uponIn_value]
          exact hnext _ _ h7 h8
        · rw [h6, Oper.uponIn_skip]
          exact hnext _ _ h7 h8
        · rw [h6, Oper.uponIn_enter]
          refine ⟨(fun h => by cases h), CallsIn.inRound _ (callsIn_wide.2 (Calls.mono h7 ?_))⟩
          rintro e w' ⟨v, rfl, h8, h9⟩
          exact hnext _ _ h8 h9

/-- THE BEGINNING: a region that draws its order, walked in the order that is picked; those of eff may change the world. -/
theorem wp_region_linK {id : Nat} {a : Act} {w : World} (S : World → Prop) (eff ord : List Nat) (hm : P.follows .mixedOrders = true) (hok : ordOkY ops eff ord = true) (hnd : noDeferK ops = true) (hS : S w.drew) (h : LinX P ops Q S eff ord a w.drew) : (Code.region id ops true).wpIn (Fence.wide.inRound l0) n0 P Q a w := by
  refine wpIn_region_any hm ?_
  have hok2 := hok
  simp only [ordOkY, Bool.and_eq_true] at hok
  have hlt : ∀ i ∈ ord, i < ops.size := by
    intro i hi
    obtain ⟨L1, L2, hord⟩ := List.append_of_mem hi
    have h3 := hok.2.2
    rw [hord] at h3
    have : ∀ (L1 : List Nat), pairsOkY ops eff (L1 ++ i :: L2) = true → i < ops.size := by
      intro L1
      induction L1 with
      | nil => intro h; simp only [List.nil_append, pairsOkY, Bool.and_eq_true, decide_eq_true_eq] at h; exact h.1
      | cons k L1 ih => intro h; simp only [List.cons_append, pairsOkY, Bool.and_eq_true] at h; exact ih h.2.2.2
    exact this L1 h3
  have hu : left (Array.replicate ops.size false) ord = ord := by
    unfold left
    rw [List.filter_eq_self]
    intro i hi
    have := hlt i hi
    simp [this]
  refine linK_any hok2 hnd _ _ _ _ (by simp) (fun j oj _ h => by simp only [Array.getD_eq_getD_getElem?, Array.getElem?_replicate] at h; split at h <;> simp at h) ?_ hS ?_
  · rw [hu]
    simpa using hok.1.2
  · rw [hu]; exact h
end
end Go.Proofs.Ytelpihlifdfgoaa
namespace Go.Proofs.Ytelpihlifdfgoaa
open Go.RowKit Go.Shelf
set_option linter.unusedVariables false
theorem marks_cells {fn : Func} {R : Ending → World → Prop} {tmps : Array Value} {v : Value} :
    ∀ (ds : List Nat) (w : World), ds.Nodup → (∀ d ∈ ds, w.heap[d]? = some (.deferred (some []))) → (∀ w', w'.heap.size = w.heap.size → w'.os = w.os → w'.tape = w.tape → w'.output = w.output → (∀ k, k ∉ ds → w'.heap[k]? = w.heap[k]?) → (results fn tmps).run Try.prog w' = .ok v w' ∧ R (.returned v) w') →
      LeavesInM Fence.wide 10 Try.prog fn tmps R (marks ds) .returning w := by
  intro ds
  induction ds with
  | nil => exact fun w _ _ h => ⟨_, (h w rfl rfl rfl rfl (fun _ _ => rfl)).1, (h w rfl rfl rfl rfl (fun _ _ => rfl)).2⟩
  | cons d ds ih =>
    intro w hn hd h
    refine ⟨by simp, .inl ⟨d, _, rfl, run_takeDeferred (hd d (by simp)), ?_⟩⟩
    refine ih _ (List.nodup_cons.1 hn).2 (fun d' hd' => ?_) (fun w' h1 h2 h3 h4 h5 => h w' (h1.trans (by simp [World.putObj])) h2 h3 h4 (fun k hk => ?_))
    · exact (World.putObj_heap_other (fun e => (List.nodup_cons.1 hn).1 (by rw [← e]; exact hd'))).trans (hd d' (by simp [hd']))
    · simp only [List.mem_cons, not_or] at hk
      exact (h5 k hk.2).trans (World.putObj_heap_other hk.1)
theorem results_told {fn : Func} (h : fn.results = #[.cell 2 30, .cell 3 4]) (tmps : Array Value) (w : World) (g2 g3 : Nat) (v : Value) (b : Bool) (hp : tmps.getD 2 undef = .pointer (some ⟨g2, 0, none⟩)) (hq : tmps.getD 3 undef = .pointer (some ⟨g3, 0, none⟩)) (h2 : Blk w g2 30 #[v]) (h3 : Blk w g3 4 #[.bool b]) :
    (results fn tmps).run Try.prog w = .ok (.tuple #[v, .bool b]) w := by
  have c2 : w.cell? ⟨g2, 0, none⟩ = some v := h2.cell 0
  have c3 : w.cell? ⟨g3, 0, none⟩ = some (.bool b) := h3.cell 0
  have hp2 : tmps[2]?.getD undef = .pointer (some ⟨g2, 0, none⟩) := by rw [← hp]; simp
  have hq2 : tmps[3]?.getD undef = .pointer (some ⟨g3, 0, none⟩) := by rw [← hq]; simp
  simp only [results, h]
  simp [Sem.run_bind, Result.andThen, asAddr, hp2, hq2, c2, c3, go_sem]
theorem all_nil_tells {w : World} {tb : Nat} {S : List Nat} (ht : Blk w tb 30 #[.slice none 0 0]) (htS : tb ∉ S) (enc : Nat → Value × Value) : Tells 61 #[.pointer (some ⟨tb, 0, none⟩)] S 0 enc w := by
  intro l J Jx W hW hlw hl hJ hJx hY h0
  have ht1 := hW.blk ht htS (by decide)
  have c1 : W.cell? ⟨tb, 0, none⟩ = some (.slice none 0 0) := ht1.cell 0
  refine callsIn_of_wp Try.func61 rfl trivial ?_ rfl
  simp only [Try.ntmps61, List.size_toArray, List.length_cons, List.length_nil, Nat.reduceAdd, Nat.reduceSub, Array.replicate_succ, Array.replicate_zero, List.push_toArray, List.append_toArray, List.nil_append, List.cons_append]
  gi_wp2
  gi_loopw [7] (fun i wr => i = .int .i64 0 ∧ J 0 wr) (fun i _ => 0)
  case atStart => exact ⟨rfl, h0⟩
  case round =>
    obtain ⟨rfl, hJs⟩ := hrel
    gi_wp2
    go_end0
    exact ⟨⟨_, rfl⟩, .inl hJs⟩
set_option maxHeartbeats 1000000 in
theorem all_nil (w : World) : Calls Try.prog 43 #[.pointer none] w fun e w' => e = .returned (.func (.func 61) #[] #[.pointer (some ⟨w.heap.size, 0, none⟩)]) ∧ Blk w' w.heap.size 30 #[.slice none 0 0] ∧ Below w.heap.size w w' ∧ w'.heap.size = w.heap.size + 1 := by
  have hmf : ∀ (fn : Fn) (first cap : Array Value) (w : World), (Instr.makeFunc fn first cap).run Try.prog w = .ok (.func fn first cap) w := fun _ _ _ _ => rfl
  go_enter Try.func43, Try.ntmps43
  go_wp2
  go_ret
  exact ⟨rfl, Blk.new _ _ _, (Below.refl _ _).alloc (Nat.le_refl _) _, by simp⟩
set_option maxRecDepth 100000 in
set_option maxHeartbeats 2000000 in
theorem told_nil (w : World) : Calls Try.prog 19 #[.pointer none] w fun e w' => e = .returned (.tuple #[.slice none 0 0, .bool true]) ∧ Below w.heap.size w w' := by
  have han := fun w' => all_nil w'
  refine calls_of_wp_marks Try.func19 rfl ?_
  simp only [Try.ntmps19, List.size_toArray, List.length_cons, List.length_nil, Nat.reduceAdd, Nat.reduceSub, Array.replicate_succ, Array.replicate_zero, List.push_toArray, List.append_toArray, List.nil_append, List.cons_append]
  go_wp2_with fail
  generalize hW1 : World.alloc (World.alloc (World.alloc w _) _) _ = W1
  have b2 : Blk W1 w.heap.size 30 #[.slice none 0 0] := by rw [← hW1]; exact ((Blk.new w _ _).alloc _).alloc _
  have b3 : Blk W1 (w.heap.size + 1) 4 #[.bool false] := by rw [← hW1]; exact (Blk.wnew2 w _ _ _).alloc _
  have b4 : Blk W1 (w.heap.size + 2) 30 #[.slice none 0 0] := by
    rw [← hW1]
    have := Blk.new ((w.alloc (.cells #[.slice none 0 0] 30)).alloc (.cells #[.bool false] 4)) 30 #[.slice none 0 0]
    simpa using this
  have hb1 : Below w.heap.size w W1 := by rw [← hW1]; exact (((Below.refl _ w).alloc (Nat.le_refl _) _).alloc (by simp) _).alloc (by simp; omega) _
  clear hW1
  refine (han _).mono ?_
  rintro e W2 ⟨rfl, bt, hb2, hs2⟩
  go_wp2_with fail
  have H := Lib.hid (And.intro (b2.kept (Kept.of_below [] hb2) (by simp)) (And.intro (b3.kept (Kept.of_below [] hb2) (by simp)) (And.intro (b4.kept (Kept.of_below [] hb2) (by simp)) (bel_lat hb1 hb2))))
  clear b2 b3 b4 hb1 han
  refine wp_range_row (S := []) (N := 0) (enc := fun _ => (undef, undef)) (gf := 61) (lb := #[.pointer (some ⟨W1.heap.size, 0, none⟩)]) none rfl (enters_of Try.func61 (by kernel_rfl) rfl) (all_nil_tells bt (by simp) _) (by simp)
    (fun _ X => Kept [] W2 X) (fun _ _ => False) (own_kept [] (Nat.le_refl _)) (fun _ _ _ _ h => h.elim) (Kept.refl _ _) (fun _ _ _ => False) (fun _ _ _ _ _ _ h => h.elim)
    (fun k _ _ hk => absurd hk (Nat.not_lt_zero _)) (fun k _ _ _ _ hk => absurd hk (Nat.not_lt_zero _)) ?done (fun k _ hk => absurd hk (Nat.not_lt_zero _))
  case done =>
    intro X hk hd
    have c2 := H.out.1.kept hk (by simp)
    have c3 := H.out.2.1.kept hk (by simp)
    have c4 := H.out.2.2.1.kept hk (by simp)
    have hbX : Below w.heap.size w X := bel_lat H.out.2.2.2 (hk.below (by simp) (Nat.le_refl _))
    have d2 : X.cell? ⟨w.heap.size, 0, none⟩ = some (.slice none 0 0) := c2.cell 0
    have f2 := c2.free 0
    have d4 : X.cell? ⟨w.heap.size + 2, 0, none⟩ = some (.slice none 0 0) := c4.cell 0
    obtain ⟨X2, hX2⟩ : ∃ X2, X.setCell ⟨w.heap.size, 0, none⟩ (.slice none 0 0) = X2 := ⟨_, rfl⟩
    have c32 : Blk X2 (w.heap.size + 1) 4 #[.bool false] := by rw [← hX2]; exact c3.far (by simp) _
    have d3 : X2.cell? ⟨w.heap.size + 1, 0, none⟩ = some (.bool false) := c32.cell 0
    have f3 := c32.free 0
    have HX := Lib.hid (And.intro (show Blk X2 w.heap.size 30 #[.slice none 0 0] by rw [← hX2]; exact c2.set 0 _) (And.intro c32 (And.intro (show Below w.heap.size w X2 by rw [← hX2]; exact hbX.setCell (Nat.le_refl _) _) (And.intro hd (And.intro hX2 hk)))))
    clear c2 c3 c4 c32 hbX hk hd
    go_wp2_with fail
    obtain ⟨X3, hX3⟩ : ∃ X3, X2.setCell ⟨w.heap.size + 1, 0, none⟩ (.bool true) = X3 := ⟨_, rfl⟩
    rw [hX3]
    have e2 : Blk X3 w.heap.size 30 #[.slice none 0 0] := by rw [← hX3]; exact HX.out.1.far (by simp) _
    have e3 : Blk X3 (w.heap.size + 1) 4 #[.bool true] := by rw [← hX3]; exact HX.out.2.1.set 0 _
    have eb : Below w.heap.size w X3 := by rw [← hX3]; exact HX.out.2.2.1.setCell (by show w.heap.size ≤ w.heap.size + 1; omega) _
    have hw2 : w.heap.size + 1 < W2.heap.size := H.out.2.1.lt
    have hd3 : X3.heap[W2.heap.size]? = some (.deferred (some [])) := by
      rw [← hX3, ← HX.out.2.2.2.2.1]
      exact (Below.heap_setCell _ _ _ _ (by show W2.heap.size ≠ w.heap.size + 1; omega)).trans ((Below.heap_setCell _ _ _ _ (by show W2.heap.size ≠ w.heap.size; omega)).trans HX.out.2.2.2.1)
    refine marks_cells (v := .tuple #[.slice none 0 0, .bool true]) [W2.heap.size] _ (by simp) (fun d hd => by rw [List.mem_singleton.1 hd]; exact hd3) (fun w' h1 h2 h3 h4 h5 => ⟨results_told rfl _ w' w.heap.size (w.heap.size + 1) _ _ rfl rfl ?_ ?_, rfl, ?_⟩)
    · exact (h5 _ (by simp; omega)).trans e2
    · exact (h5 _ (by simp; omega)).trans e3
    · exact ⟨h2.trans eb.os, h3.trans eb.tape, h4.trans eb.output, by rw [h1]; exact eb.size, fun k hk => (h5 k (by simp; omega)).trans (eb.block k hk)⟩
end Go.Proofs.Ytelpihlifdfgoaa
