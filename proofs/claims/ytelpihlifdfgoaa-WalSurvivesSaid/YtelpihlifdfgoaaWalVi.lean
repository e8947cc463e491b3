/-
  Words for the walks of WalStays and WalSurvives. Nothing here is a statement of the document.
-/
import Derived.Test.YtelpihlifdfgoaaWalVb
import Derived.Test.YtelpihlifdfgoaaOctC
import Derived.Maps.AppendAt
import Derived.Test.YtelpihlifdfgoaaWalF
import Derived.Test.YtelpihlifdfgoaaWalT
import Derived.Test.YtelpihlifdfgoaaWalK
import Derived.Laws.AppendOwn
import Derived.Test.YtelpihlifdfgoaaWalVf
namespace Go.Proofs.Ytelpihlifdfgoaa
open Go.RowKit Go.Shelf
set_option linter.unusedVariables false
set_option maxRecDepth 100000 in
set_option maxHeartbeats 4000000 in
theorem are_len {w : World} {B C p g t c : Nat} {s z : List Nat} {txs zs : List (List Nat)} {f : Nat → Bk} {sn rv : Value} {rvs : List Value} (h : Lc B w p g 12 t c s txs) (hf : LogF f 12 t c s txs) (hs : w.ownsRow C 5 1 sn z.length (z.map byc)) (hzB : Bys z) (hr : w.ownsRow C 29 1 rv zs.length rvs) (hx : Txs w C rvs zs) (hzz : ∀ x ∈ zs, Bys x) (hdiff : txs.length ≠ zs.length) :
    Calls Try.prog 15 #[.agg #[sn, rv], .pointer (some ⟨g, 0, none⟩)] w fun e w' => e = .returned (.bool false) ∧ Below w.heap.size w w' := by
  obtain ⟨sa, sc, rfl⟩ := wown_slice hs
  obtain ⟨ra, rc, rfl⟩ := wown_slice hr
  obtain ⟨W1, hW1⟩ : ∃ W1, w.alloc (.cells #[.slice sa z.length sc, .slice ra zs.length rc] 32) = W1 := ⟨_, rfl⟩
  have hb1 : Below w.heap.size w W1 := by rw [← hW1]; exact (Below.refl _ _).alloc (Nat.le_refl _) _
  have ht1 : Blk W1 w.heap.size 32 #[.slice sa z.length sc, .slice ra zs.length rc] := by rw [← hW1]; exact Blk.new _ _ _
  have hmn := hf.more
  have hto := told_any (h.later hb1) (by omega) (fun x hx => (hf.len.2.2 x hx).1)
  obtain ⟨m, hm⟩ : ∃ m, txs.length = m := ⟨_, rfl⟩
  obtain ⟨n, hn⟩ : ∃ n, s.length = n := ⟨_, rfl⟩
  obtain ⟨m2, hm2⟩ : ∃ m2, zs.length = m2 := ⟨_, rfl⟩
  obtain ⟨n2, hn2⟩ : ∃ n2, z.length = n2 := ⟨_, rfl⟩
  rw [hm] at hto hmn
  rw [hm2, hn2] at ht1
  rw [hm2] at hr
  rw [hn2] at hs
  rw [hm2, hn2] at hW1
  rw [hm2, hn2]
  have HH := Lib.hid (And.intro h (And.intro hf (And.intro hs (And.intro hr (And.intro hx (And.intro hb1 (And.intro ht1 (And.intro hm (And.intro hn (And.intro hm2 (And.intro hn2 (And.intro hzB (And.intro hzz hdiff)))))))))))))
  clear h hf hs hr hx hb1 ht1 hm hn hm2 hn2 hzB hzz hdiff
  go_enter Try.func15, Try.ntmps15
  go_wp2_with fail
  refine hto.mono ?_
  rintro e W2 ⟨ov, ovs, rfl, ho, hox, hb2⟩
  clear hto hW1
  obtain ⟨oa, oc, rfl⟩ := wown_slice ho
  obtain ⟨h, hf, hs, hr, hx, hb1, ht1, hm, hn, hm2, hn2, hzB, hzz, hdiff⟩ := HH.out
  have hb12 := bel_lat hb1 hb2
  have ht2 := ht1.kept (Kept.of_below [] hb2) (by simp)
  obtain ⟨S, hS⟩ : ∃ S : World → Prop, S = Below W2.heap.size W2 := ⟨_, rfl⟩
  have hS0 : S W2.drew := by rw [hS]; exact (Below.refl _ _).drew
  have L0 : ∀ w', S w' → w'.cell? ⟨w.heap.size, 0, none⟩ = some (.slice sa n2 sc) := fun w' h => by rw [hS] at h; exact (ht2.kept (Kept.of_below [] h) (by simp)).cell 0
  have L1 : ∀ w', S w' → w'.cell? ⟨w.heap.size, 1, none⟩ = some (.slice ra m2 rc) := fun w' h => by rw [hS] at h; exact (ht2.kept (Kept.of_below [] h) (by simp)).cell 1
  have hne : ((m : Int) != (m2 : Int)) = true := by
    rw [bne_iff_ne]
    have := hdiff
    omega
  have H2 := Lib.hid (And.intro hb12 hS)
  clear h hf hs hr hx hb1 ht1 hm hn hm2 hn2 hzB hzz hdiff ho hox hb2 hb12 ht2 hS
  go_wp2_with fail
  refine wp_region_linY S [] [0, 1, 2, 3, 4, 5, 6, 7, 8, 9, 10, 11, 12, 13, 14, 15, 16, 17] (by kernel_rfl) (by kernel_rfl) hS0 ?_
  (repeat (first | (refine linX_off rfl rfl (by rfl) ?_; (try simp only [Act.put, List.getElem_toArray, List.getElem_cons_zero, List.getElem_cons_succ, List.setIfInBounds_toArray, List.set_cons_zero, List.set_cons_succ])) | (refine linX_op (v := ?_) rfl rfl (by rfl) (fun w9 hS9 => ?_) ?_; rotate_left; (focus (((have k0 := L0 w9 hS9; have k1 := L1 w9 hS9; go_simp; (try go_bits)) <;> with_reducible rfl))); (try simp only [Act.put, List.getElem_toArray, List.getElem_cons_zero, List.getElem_cons_succ, List.setIfInBounds_toArray, List.set_cons_zero, List.set_cons_succ]))))
  refine linX_nil ?_
  clear L0 L1
  go_wp2_with fail
  go_ret
  refine ⟨rfl, ?_⟩
  exact bel_lat H2.out.1 (Below.refl _ _).drew
set_option maxRecDepth 100000 in
set_option maxHeartbeats 4000000 in
theorem are_snap {w : World} {B C p g t c : Nat} {s z : List Nat} {txs zs : List (List Nat)} {f : Nat → Bk} {sn rv : Value} {rvs : List Value} (h : Lc B w p g 12 t c s txs) (hf : LogF f 12 t c s txs) (hs : w.ownsRow C 5 1 sn z.length (z.map byc)) (hzB : Bys z) (hr : w.ownsRow C 29 1 rv zs.length rvs) (hx : Txs w C rvs zs) (hzz : ∀ x ∈ zs, Bys x) (hdiff : txs.length = zs.length ∧ s ≠ z) :
    Calls Try.prog 15 #[.agg #[sn, rv], .pointer (some ⟨g, 0, none⟩)] w fun e w' => e = .returned (.bool false) ∧ Below w.heap.size w w' := by
  obtain ⟨sa, sc, rfl⟩ := wown_slice hs
  obtain ⟨ra, rc, rfl⟩ := wown_slice hr
  obtain ⟨W1, hW1⟩ : ∃ W1, w.alloc (.cells #[.slice sa z.length sc, .slice ra zs.length rc] 32) = W1 := ⟨_, rfl⟩
  have hb1 : Below w.heap.size w W1 := by rw [← hW1]; exact (Below.refl _ _).alloc (Nat.le_refl _) _
  have ht1 : Blk W1 w.heap.size 32 #[.slice sa z.length sc, .slice ra zs.length rc] := by rw [← hW1]; exact Blk.new _ _ _
  have hmn := hf.more
  have hto := told_any (h.later hb1) (by omega) (fun x hx => (hf.len.2.2 x hx).1)
  obtain ⟨m, hm⟩ : ∃ m, txs.length = m := ⟨_, rfl⟩
  obtain ⟨n, hn⟩ : ∃ n, s.length = n := ⟨_, rfl⟩
  obtain ⟨m2, hm2⟩ : ∃ m2, zs.length = m2 := ⟨_, rfl⟩
  obtain ⟨n2, hn2⟩ : ∃ n2, z.length = n2 := ⟨_, rfl⟩
  rw [hm] at hto hmn
  rw [hm2, hn2] at ht1
  rw [hm2] at hr
  rw [hn2] at hs
  rw [hm2, hn2] at hW1
  rw [hm2, hn2]
  have HH := Lib.hid (And.intro h (And.intro hf (And.intro hs (And.intro hr (And.intro hx (And.intro hb1 (And.intro ht1 (And.intro hm (And.intro hn (And.intro hm2 (And.intro hn2 (And.intro hzB (And.intro hzz hdiff)))))))))))))
  clear h hf hs hr hx hb1 ht1 hm hn hm2 hn2 hzB hzz hdiff
  go_enter Try.func15, Try.ntmps15
  go_wp2_with fail
  refine hto.mono ?_
  rintro e W2 ⟨ov, ovs, rfl, ho, hox, hb2⟩
  clear hto hW1
  obtain ⟨oa, oc, rfl⟩ := wown_slice ho
  obtain ⟨h, hf, hs, hr, hx, hb1, ht1, hm, hn, hm2, hn2, hzB, hzz, hdiff⟩ := HH.out
  have hb12 := bel_lat hb1 hb2
  have ht2 := ht1.kept (Kept.of_below [] hb2) (by simp)
  obtain rfl : m = m2 := by
    have := hdiff.1
    omega
  obtain ⟨S, hS⟩ : ∃ S : World → Prop, S = Below W2.heap.size W2 := ⟨_, rfl⟩
  have hS0 : S W2.drew := by rw [hS]; exact (Below.refl _ _).drew
  have L0 : ∀ w', S w' → w'.cell? ⟨w.heap.size, 0, none⟩ = some (.slice sa n2 sc) := fun w' h => by rw [hS] at h; exact (ht2.kept (Kept.of_below [] h) (by simp)).cell 0
  have L1 : ∀ w', S w' → w'.cell? ⟨w.heap.size, 1, none⟩ = some (.slice ra m rc) := fun w' h => by rw [hS] at h; exact (ht2.kept (Kept.of_below [] h) (by simp)).cell 1
  have hsnap : Calls Try.prog 20 #[.pointer (some ⟨g, 0, none⟩)] W2.drew fun e w' => ∃ va vc, e = .returned (.slice va n vc) ∧ Lies w' va s ∧ Below W2.drew.heap.size W2.drew w' := by
    obtain ⟨sv, tv, vs, q1, q2, q3, q4, q5⟩ := h.later hb12.drew
    obtain ⟨sva, svc, rfl, r1, r2, r3⟩ := own_bytes_lies q2 rfl
    refine (wsnap_any q1 r2 rfl hf.len.1 (fun h9 => ?_)).mono ?_
    · subst h9
      rcases q2.2 with ⟨_, h0⟩ | ⟨q, cap, cur, e1, _⟩
      · exact h0
      · cases e1
    · rintro e w' ⟨v, rfl, hv, hb⟩
      obtain ⟨va, vc, rfl, _, hL, _⟩ := own_bytes_lies hv rfl
      exact ⟨va, vc, by rw [hn], hL, hb⟩
  have hL2 : Lies W2 sa z := by
    obtain ⟨a', c', he, _, hL, _⟩ := own_bytes_lies hs hn2
    simp only [Value.slice.injEq] at he
    obtain ⟨rfl, _, rfl⟩ := he
    exact hL.kept hb12
  have hBy := hf.len.2.1
  have heq := fun va vc w' (hL : Lies w' va s) (hL2 : Lies w' sa z) => bequal_any va sa n vc n2 sc s z w' hn hn2 hBy hzB hL hL2
  have HD := Lib.hid (show (s == z) = false from by simpa using hdiff.2)
  have H2 := Lib.hid (And.intro ho (And.intro hox (And.intro hb12 (And.intro ht2 (And.intro hL2 hS)))))
  clear h hf hs hr hx hb1 ht1 hm hn hm2 hn2 hzB hzz hdiff ho hox hb2 hb12 ht2 hL2 hS hBy
  go_wp2_with fail
  refine wp_region_linY S [12, 15] [0, 1, 2, 3, 4, 5, 6, 7, 8, 9, 10, 11, 13, 14, 12, 15, 16, 17] (by kernel_rfl) (by kernel_rfl) hS0 ?_
  (repeat (first | (refine linX_off rfl rfl (by rfl) ?_; (try simp only [Act.put, List.getElem_toArray, List.getElem_cons_zero, List.getElem_cons_succ, List.setIfInBounds_toArray, List.set_cons_zero, List.set_cons_succ])) | (refine linX_op (v := ?_) rfl rfl (by rfl) (fun w9 hS9 => ?_) ?_; rotate_left; (focus (((have k0 := L0 w9 hS9; have k1 := L1 w9 hS9; go_simp; (try go_bits)) <;> with_reducible rfl))); (try simp only [Act.put, List.getElem_toArray, List.getElem_cons_zero, List.getElem_cons_succ, List.setIfInBounds_toArray, List.set_cons_zero, List.set_cons_succ]))))
  refine linX_call (f := 20) (args := #[.pointer (some ⟨g, 0, none⟩)]) rfl rfl (by rfl) rfl rfl (enters_of Try.func20 (by kernel_rfl) rfl) ?_ ?_
  · simp [Act.eval]
  refine hsnap.mono ?_
  rintro e W3 ⟨va, vc, rfl, hL3, hb3⟩
  have hS3 : S W3 := by rw [H2.out.2.2.2.2.2]; exact (Below.refl W2.heap.size W2).drew.trans hb3
  refine ⟨_, rfl, hS3, ?_⟩
  (try simp only [Act.put, List.getElem_toArray, List.getElem_cons_zero, List.getElem_cons_succ, List.setIfInBounds_toArray, List.set_cons_zero, List.set_cons_succ])
  have heq3 := heq va vc W3 hL3 (H2.out.2.2.2.2.1.kept ((Below.refl W2.heap.size W2).drew.trans hb3))
  rw [show (s == z) = false from HD.out] at heq3
  refine linX_call (f := 33) (args := #[.slice va n vc, .slice sa n2 sc]) rfl rfl (by rfl) rfl rfl (enters_of Try.func33 (by kernel_rfl) rfl) ?_ ?_
  · simp [Act.eval]
  refine heq3.mono ?_
  rintro e w3 ⟨rfl, rfl⟩
  refine ⟨_, rfl, hS3, ?_⟩
  (try simp only [Act.put, List.getElem_toArray, List.getElem_cons_zero, List.getElem_cons_succ, List.setIfInBounds_toArray, List.set_cons_zero, List.set_cons_succ])
  (repeat (first | (refine linX_off rfl rfl (by rfl) ?_; (try simp only [Act.put, List.getElem_toArray, List.getElem_cons_zero, List.getElem_cons_succ, List.setIfInBounds_toArray, List.set_cons_zero, List.set_cons_succ])) | (refine linX_op (v := ?_) rfl rfl (by rfl) (fun w9 hS9 => ?_) ?_; rotate_left; (focus (((have k0 := L0 w9 hS9; have k1 := L1 w9 hS9; go_simp; (try go_bits)) <;> with_reducible rfl))); (try simp only [Act.put, List.getElem_toArray, List.getElem_cons_zero, List.getElem_cons_succ, List.setIfInBounds_toArray, List.set_cons_zero, List.set_cons_succ]))))
  refine linX_nil ?_
  have hb23 : Below W2.heap.size W2 W3 := (Below.refl W2.heap.size W2).drew.trans hb3
  have hbF := bel_lat H2.out.2.2.1 hb23
  have HF := Lib.hid hbF
  clear L0 L1 hsnap heq heq3 hL3 hb3 hS3 hS0 hb23 hbF
  go_wp2_with fail
  go_ret
  exact ⟨rfl, HF.out⟩
set_option maxRecDepth 100000 in
set_option maxHeartbeats 4000000 in
theorem are_row {w : World} {B C p g t c : Nat} {s z : List Nat} {txs zs : List (List Nat)} {f : Nat → Bk} {sn rv : Value} {rvs : List Value} (h : Lc B w p g 12 t c s txs) (hf : LogF f 12 t c s txs) (hs : w.ownsRow C 5 1 sn z.length (z.map byc)) (hzB : Bys z) (hr : w.ownsRow C 29 1 rv zs.length rvs) (hx : Txs w C rvs zs) (hzz : ∀ x ∈ zs, Bys x) (hdiff : txs.length = zs.length ∧ z = s ∧ ∃ k0, k0 < txs.length ∧ txs.getD k0 [] ≠ zs.getD k0 [] ∧ ∀ j, j < k0 → txs.getD j [] = zs.getD j []) :
    Calls Try.prog 15 #[.agg #[sn, rv], .pointer (some ⟨g, 0, none⟩)] w fun e w' => e = .returned (.bool false) ∧ Below w.heap.size w w' := by
  obtain ⟨sa, sc, rfl⟩ := wown_slice hs
  obtain ⟨ra, rc, rfl⟩ := wown_slice hr
  obtain ⟨W1, hW1⟩ : ∃ W1, w.alloc (.cells #[.slice sa z.length sc, .slice ra zs.length rc] 32) = W1 := ⟨_, rfl⟩
  have hb1 : Below w.heap.size w W1 := by rw [← hW1]; exact (Below.refl _ _).alloc (Nat.le_refl _) _
  have ht1 : Blk W1 w.heap.size 32 #[.slice sa z.length sc, .slice ra zs.length rc] := by rw [← hW1]; exact Blk.new _ _ _
  have hmn := hf.more
  have hto := told_any (h.later hb1) (by omega) (fun x hx => (hf.len.2.2 x hx).1)
  obtain ⟨m, hm⟩ : ∃ m, txs.length = m := ⟨_, rfl⟩
  obtain ⟨n, hn⟩ : ∃ n, s.length = n := ⟨_, rfl⟩
  obtain ⟨m2, hm2⟩ : ∃ m2, zs.length = m2 := ⟨_, rfl⟩
  obtain ⟨n2, hn2⟩ : ∃ n2, z.length = n2 := ⟨_, rfl⟩
  rw [hm] at hto hmn
  rw [hm2, hn2] at ht1
  rw [hm2] at hr
  rw [hn2] at hs
  rw [hm2, hn2] at hW1
  rw [hm2, hn2]
  have HH := Lib.hid (And.intro h (And.intro hf (And.intro hs (And.intro hr (And.intro hx (And.intro hb1 (And.intro ht1 (And.intro hm (And.intro hn (And.intro hm2 (And.intro hn2 (And.intro hzB (And.intro hzz hdiff)))))))))))))
  clear h hf hs hr hx hb1 ht1 hm hn hm2 hn2 hzB hzz hdiff
  go_enter Try.func15, Try.ntmps15
  go_wp2_with fail
  refine hto.mono ?_
  rintro e W2 ⟨ov, ovs, rfl, ho, hox, hb2⟩
  clear hto hW1
  obtain ⟨oa, oc, rfl⟩ := wown_slice ho
  obtain ⟨h, hf, hs, hr, hx, hb1, ht1, hm, hn, hm2, hn2, hzB, hzz, hdiff⟩ := HH.out
  have hb12 := bel_lat hb1 hb2
  have ht2 := ht1.kept (Kept.of_below [] hb2) (by simp)
  obtain rfl : m = m2 := by
    have := hdiff.1
    omega
  obtain ⟨S, hS⟩ : ∃ S : World → Prop, S = Below W2.heap.size W2 := ⟨_, rfl⟩
  have hS0 : S W2.drew := by rw [hS]; exact (Below.refl _ _).drew
  have L0 : ∀ w', S w' → w'.cell? ⟨w.heap.size, 0, none⟩ = some (.slice sa n2 sc) := fun w' h => by rw [hS] at h; exact (ht2.kept (Kept.of_below [] h) (by simp)).cell 0
  have L1 : ∀ w', S w' → w'.cell? ⟨w.heap.size, 1, none⟩ = some (.slice ra m rc) := fun w' h => by rw [hS] at h; exact (ht2.kept (Kept.of_below [] h) (by simp)).cell 1
  obtain rfl : s = z := hdiff.2.1.symm
  obtain rfl : n = n2 := by omega
  have hsnap : Calls Try.prog 20 #[.pointer (some ⟨g, 0, none⟩)] W2.drew fun e w' => ∃ va vc, e = .returned (.slice va n vc) ∧ Lies w' va s ∧ Below W2.drew.heap.size W2.drew w' := by
    obtain ⟨sv, tv, vs, q1, q2, q3, q4, q5⟩ := h.later hb12.drew
    obtain ⟨sva, svc, rfl, r1, r2, r3⟩ := own_bytes_lies q2 rfl
    refine (wsnap_any q1 r2 rfl hf.len.1 (fun h9 => ?_)).mono ?_
    · subst h9
      rcases q2.2 with ⟨_, h0⟩ | ⟨q, cap, cur, e1, _⟩
      · exact h0
      · cases e1
    · rintro e w' ⟨v, rfl, hv, hb⟩
      obtain ⟨va, vc, rfl, _, hL, _⟩ := own_bytes_lies hv rfl
      exact ⟨va, vc, by rw [hn], hL, hb⟩
  have hL2 : Lies W2 sa s := by
    obtain ⟨a', c', he, _, hL, _⟩ := own_bytes_lies hs hn
    simp only [Value.slice.injEq] at he
    obtain ⟨rfl, _, rfl⟩ := he
    exact hL.kept hb12
  have hBy := hf.len.2.1
  have heq := fun va vc w' (hL : Lies w' va s) (hL2 : Lies w' sa s) => bequal_any va sa n vc n sc s s w' hn hn hBy hBy hL hL2
  have H2 := Lib.hid (And.intro ho (And.intro hox (And.intro hb12 (And.intro ht2 (And.intro hL2 hS)))))
  clear h hf hs hr hx hb1 ht1 hm hn hm2 hn2 hzB hzz hdiff ho hox hb2 hb12 ht2 hL2 hS hBy
  go_wp2_with fail
  refine wp_region_linY S [12, 15] [0, 1, 2, 3, 4, 5, 6, 7, 8, 9, 10, 11, 13, 14, 12, 15, 16, 17] (by kernel_rfl) (by kernel_rfl) hS0 ?_
  (repeat (first | (refine linX_off rfl rfl (by rfl) ?_; (try simp only [Act.put, List.getElem_toArray, List.getElem_cons_zero, List.getElem_cons_succ, List.setIfInBounds_toArray, List.set_cons_zero, List.set_cons_succ])) | (refine linX_op (v := ?_) rfl rfl (by rfl) (fun w9 hS9 => ?_) ?_; rotate_left; (focus (((have k0 := L0 w9 hS9; have k1 := L1 w9 hS9; go_simp; (try go_bits)) <;> with_reducible rfl))); (try simp only [Act.put, List.getElem_toArray, List.getElem_cons_zero, List.getElem_cons_succ, List.setIfInBounds_toArray, List.set_cons_zero, List.set_cons_succ]))))
  refine linX_call (f := 20) (args := #[.pointer (some ⟨g, 0, none⟩)]) rfl rfl (by rfl) rfl rfl (enters_of Try.func20 (by kernel_rfl) rfl) ?_ ?_
  · simp [Act.eval]
  refine hsnap.mono ?_
  rintro e W3 ⟨va, vc, rfl, hL3, hb3⟩
  have hS3 : S W3 := by rw [H2.out.2.2.2.2.2]; exact (Below.refl W2.heap.size W2).drew.trans hb3
  refine ⟨_, rfl, hS3, ?_⟩
  (try simp only [Act.put, List.getElem_toArray, List.getElem_cons_zero, List.getElem_cons_succ, List.setIfInBounds_toArray, List.set_cons_zero, List.set_cons_succ])
  have heq3 := heq va vc W3 hL3 (H2.out.2.2.2.2.1.kept ((Below.refl W2.heap.size W2).drew.trans hb3))
  rw [show (s == s) = true from beq_self_eq_true s] at heq3
  refine linX_call (f := 33) (args := #[.slice va n vc, .slice sa n sc]) rfl rfl (by rfl) rfl rfl (enters_of Try.func33 (by kernel_rfl) rfl) ?_ ?_
  · simp [Act.eval]
  refine heq3.mono ?_
  rintro e w3 ⟨rfl, rfl⟩
  refine ⟨_, rfl, hS3, ?_⟩
  (try simp only [Act.put, List.getElem_toArray, List.getElem_cons_zero, List.getElem_cons_succ, List.setIfInBounds_toArray, List.set_cons_zero, List.set_cons_succ])
  (repeat (first | (refine linX_off rfl rfl (by rfl) ?_; (try simp only [Act.put, List.getElem_toArray, List.getElem_cons_zero, List.getElem_cons_succ, List.setIfInBounds_toArray, List.set_cons_zero, List.set_cons_succ])) | (refine linX_op (v := ?_) rfl rfl (by rfl) (fun w9 hS9 => ?_) ?_; rotate_left; (focus (((have k0 := L0 w9 hS9; have k1 := L1 w9 hS9; go_simp; (try go_bits)) <;> with_reducible rfl))); (try simp only [Act.put, List.getElem_toArray, List.getElem_cons_zero, List.getElem_cons_succ, List.setIfInBounds_toArray, List.set_cons_zero, List.set_cons_succ]))))
  refine linX_nil ?_
  have hb23 : Below W2.heap.size W2 W3 := (Below.refl W2.heap.size W2).drew.trans hb3
  have L03 := L0 W3 hS3
  have L13 := L1 W3 hS3
  obtain ⟨h, hf, hs, hr, hx, hb1, ht1, hm, hn, hm2, hn2, hzB, hzz, hdiff⟩ := HH.out
  have hb03 := bel_lat H2.out.2.2.1 hb23
  have hse := sectors_any (n : Int)
  rw [secI_nat] at hse
  have hl3 := owns_later2 H2.out.1 hb23
  have h3 := Txs.imp (fun v l h => owns_later2 h hb23) H2.out.2.1
  have hr3 := owns_later2 hr hb03
  have hx3 := Txs.imp (fun v l h => owns_later2 h hb03) hx
  have hlf : ∀ w', Below W3.heap.size W3 w' → Calls Try.prog 25 #[.pointer (some ⟨g, 0, none⟩)] w' fun e w2 => e = .returned (.int .i64 ((12 : Int) - ((chainB t s txs).length : Int))) ∧ Below w'.heap.size w' w2 := fun w' hb => by
    obtain ⟨sv, tv, vs, q1, q2, q3, q4, q5⟩ := h.later (bel_lat hb03 hb)
    exact wleft_any q1 hf.c2 hf.fit (by decide)
  obtain ⟨SN, hSN⟩ : ∃ SN, secN n = SN := ⟨_, rfl⟩
  have hs0 : (chainB t s ([] : List (List Nat))).length = SN := by rw [chainB_one, frameB_len, hn, hSN]
  rw [hSN] at hse
  have H3 := Lib.hid (And.intro hf (And.intro hm (And.intro hb03 (And.intro hl3 (And.intro h3 (And.intro hr3 (And.intro hx3 (And.intro hs0 (And.intro hlf (And.intro hm2 (And.intro hzz hdiff)))))))))))
  clear h hf hs hr hx hb1 ht1 hm hn hm2 hn2 hzB hzz hdiff hb03 hb23 hl3 h3 hr3 hx3 hsnap heq heq3 hL3 hb3 hS3 L0 L1 hS0 hlf hs0 hSN
  go_wp2_with fail
  refine (hse _).mono ?_
  rintro e w3 ⟨rfl, rfl⟩
  clear hse
  go_wp2_with fail
  obtain ⟨U, hU⟩ : ∃ U : Nat → Nat, U = fun k => (chainB t s (txs.take k)).length := ⟨_, rfl⟩
  have hU0 : U 0 = SN := by rw [hU]; exact H3.out.2.2.2.2.2.2.2.1
  have hUm : U m = (chainB t s txs).length := by rw [hU, ← H3.out.2.1]; show (chainB t s (txs.take txs.length)).length = _; rw [List.take_length]
  have hUk : ∀ k, k < m → U (k + 1) = U k + secN (txs.getD k []).length ∧ (txs.getD k []).length ≤ 40000 ∧ Bys (txs.getD k []) ∧ U (k + 1) ≤ 12 := by
    intro k hk
    have hk2 : k < txs.length := by rw [H3.out.2.1]; exact hk
    have e : txs.take (k + 1) = txs.take k ++ [txs.getD k []] := by
      rw [List.take_add_one, List.getElem?_eq_getElem hk2, List.getD_eq_getElem?_getD, List.getElem?_eq_getElem hk2]; rfl
    have hmem : txs.getD k [] ∈ txs := by rw [List.getD_eq_getElem?_getD, List.getElem?_eq_getElem hk2]; exact List.getElem_mem hk2
    have e2 : U (k + 1) = U k + secN (txs.getD k []).length := by
      rw [hU]; show (chainB t s (txs.take (k + 1))).length = (chainB t s (txs.take k)).length + _
      rw [e, chainB_snoc, List.length_append, frameB_len]
    refine ⟨e2, (H3.out.1.len.2.2 _ hmem).1, (H3.out.1.len.2.2 _ hmem).2, ?_⟩
    have hfit := H3.out.1.fit
    have h9 : chainB t s txs = chainB t s (txs.take (k + 1)) ++ txsB t ((txs.take (k + 1)).length) (txs.drop (k + 1)) := chainB_split t s txs (k + 1)
    rw [h9, List.length_append] at hfit
    rw [hU]; show (chainB t s (txs.take (k + 1))).length ≤ 12
    omega
  have HU := Lib.hid (And.intro hU0 (And.intro hUm hUk))
  clear hU0 hUm hUk hU
  obtain ⟨K0, hK0⟩ := H3.out.2.2.2.2.2.2.2.2.2.2.2.2.2
  have HK0 := Lib.hid hK0
  clear hK0
  go_loopw [7, 39] (fun o i wr => ∃ k : Nat, k ≤ K0 ∧ i = .int .i64 k ∧ o = .int .i64 (U k : Int) ∧ wr = W3) (fun o i _ => m - (intOf i).toNat)
  case atStart => exact ⟨0, Nat.zero_le _, rfl, by rw [HU.out.1], rfl⟩
  case round =>
    obtain ⟨k, hk, rfl, rfl, rfl⟩ := hrel
    have hlt : k < m := by have := HK0.out.1; have := H3.out.2.1; omega
    obtain ⟨v, v1, v2⟩ := txs_at (k := k) H3.out.2.2.2.2.1 (by rw [H3.out.2.1]; exact hlt)
    obtain ⟨z, z1, z2⟩ := txs_at (k := k) H3.out.2.2.2.2.2.2.1 (by rw [H3.out.2.2.2.2.2.2.2.2.2.1]; exact hlt)
    obtain ⟨u1, u2, u3, u4⟩ := HU.out.2.2 k hlt
    by_cases hke : k < K0
    · have hze : zs.getD k [] = txs.getD k [] := (HK0.out.2.2 k hke).symm
      rw [hze] at z2
      obtain ⟨q, hq⟩ : ∃ q, txs.getD k [] = q := ⟨_, rfl⟩
      rw [hq] at v2 z2 u1 u2 u3
      obtain ⟨len, hlen⟩ : ∃ len, q.length = len := ⟨_, rfl⟩
      obtain ⟨wa, wc, rfl, _, wL, _⟩ := own_bytes_lies v2 rfl
      obtain ⟨xa, xc, rfl, _, xL, _⟩ := own_bytes_lies z2 rfl
      have heq := bequal_any wa xa q.length wc q.length xc q q wr rfl rfl u3 u3 wL xL
      rw [show (q == q) = true from beq_self_eq_true q] at heq
      rw [hlen] at heq v1 z1 u1 u2
      have hse := sectors_any (len : Int) wr
      rw [secI_nat] at hse
      rcases H3.out.2.2.2.1.2 with h9 | ⟨og, ocap, ocur, o1, o2, o3, o4⟩
      · have : m = 0 := h9.2
        omega
      rcases H3.out.2.2.2.2.2.1.2 with h9 | ⟨rg, rcap, rcur, p1, p2, p3, p4⟩
      · have : m = 0 := h9.2
        omega
      have hoa : oa = some ⟨og, 0, none⟩ := by cases o1; rfl
      have hra : ra = some ⟨rg, 0, none⟩ := by cases p1; rfl
      subst hoa
      subst hra
      have co : wr.cell? ⟨og, k, none⟩ = some (.slice wa len wc) := by
        have := H3.out.2.2.2.1.cells (g := og) rfl k _ v1
        rw [Addr.add_lit] at this
        simpa using this
      have cr : wr.cell? ⟨rg, k, none⟩ = some (.slice xa len xc) := by
        have := H3.out.2.2.2.2.2.1.cells (g := rg) rfl k _ z1
        rw [Addr.add_lit] at this
        simpa using this
      obtain ⟨SL, hSL⟩ : ∃ SL, secN len = SL := ⟨_, rfl⟩
      rw [hSL] at hse u1
      have HK := Lib.hid (And.intro u1 u4)
      have hu4 : (U k : Int) + (SL : Int) ≤ 12 := by omega
      clear v1 v2 z1 z2 u1 u2 u3 u4 hq hlen wL xL o1 o2 o3 o4 p1 p2 p3 p4 hSL
      go_wp2_with fail
      refine heq.mono ?_
      rintro e w5 ⟨rfl, rfl⟩
      clear heq
      go_wp2_with fail
      refine hse.mono ?_
      rintro e w5 ⟨rfl, rfl⟩
      clear hse
      go_wp2_with fail
      go_roundw
      case rel => exact ⟨k + 1, by omega, by go_num, by rw [HK.out.1]; go_num, trivial⟩
      case measure => simp [intOf]; omega
    · obtain rfl : k = K0 := by omega
      obtain ⟨q, hq⟩ : ∃ q, txs.getD k [] = q := ⟨_, rfl⟩
      obtain ⟨y, hy⟩ : ∃ y, zs.getD k [] = y := ⟨_, rfl⟩
      have hyB : Bys y := by
        have hk2 : k < zs.length := by rw [H3.out.2.2.2.2.2.2.2.2.2.1]; exact hlt
        rw [← hy, List.getD_eq_getElem?_getD, List.getElem?_eq_getElem hk2]
        exact H3.out.2.2.2.2.2.2.2.2.2.2.1 _ (List.getElem_mem hk2)
      have hne : (q == y) = false := by
        have := HK0.out.2.1
        rw [hq, hy] at this
        simpa using this
      rw [hq] at v2 u1 u2 u3
      rw [hy] at z2
      obtain ⟨len, hlen⟩ : ∃ len, q.length = len := ⟨_, rfl⟩
      obtain ⟨len2, hlen2⟩ : ∃ len2, y.length = len2 := ⟨_, rfl⟩
      obtain ⟨wa, wc, rfl, _, wL, _⟩ := own_bytes_lies v2 rfl
      obtain ⟨xa, xc, rfl, _, xL, _⟩ := own_bytes_lies z2 rfl
      have heq := bequal_any wa xa q.length wc y.length xc q y wr rfl rfl u3 hyB wL xL
      rw [hne] at heq
      rw [hlen] at heq v1
      rw [hlen2] at heq z1
      rcases H3.out.2.2.2.1.2 with h9 | ⟨og, ocap, ocur, o1, o2, o3, o4⟩
      · have : m = 0 := h9.2
        omega
      rcases H3.out.2.2.2.2.2.1.2 with h9 | ⟨rg, rcap, rcur, p1, p2, p3, p4⟩
      · have : m = 0 := h9.2
        omega
      have hoa : oa = some ⟨og, 0, none⟩ := by cases o1; rfl
      have hra : ra = some ⟨rg, 0, none⟩ := by cases p1; rfl
      subst hoa
      subst hra
      have co : wr.cell? ⟨og, k, none⟩ = some (.slice wa len wc) := by
        have := H3.out.2.2.2.1.cells (g := og) rfl k _ v1
        rw [Addr.add_lit] at this
        simpa using this
      have cr : wr.cell? ⟨rg, k, none⟩ = some (.slice xa len2 xc) := by
        have := H3.out.2.2.2.2.2.1.cells (g := rg) rfl k _ z1
        rw [Addr.add_lit] at this
        simpa using this
      have HB := Lib.hid H3.out.2.2.1
      clear v1 v2 z1 z2 u1 u2 u3 u4 hq hy hlen hlen2 wL xL o1 o2 o3 o4 p1 p2 p3 p4 hyB hne
      go_wp2_with fail
      refine heq.mono ?_
      rintro e w5 ⟨rfl, rfl⟩
      clear heq
      go_wp2_with fail
      go_ret
      exact ⟨rfl, HB.out⟩
end Go.Proofs.Ytelpihlifdfgoaa
namespace Go.Proofs.Ytelpihlifdfgoaa
open Go.RowKit Go.Shelf
set_option linter.unusedVariables false

/-- Sectors as cells. -/
def secs (R : List Rw) : List Value := R.map fun r => .int .i64 (r.s : Int)
theorem i_int : (Try.prog.info? 3).map (fun i => (i.zero, i.size, i.bytes)) = some (some (.int .i64 0), 1, 8) := by kernel_rfl

theorem own_row {β : Type} (B n₀ : Nat) (e : TypeId) (size : Nat) (f : β → List Value) (k : β → Nat) (v : β → Value) : OwnFrom B (fun s W => W.ownsRow n₀ e size (v s) (k s) (f s)) := fun s X Y row hs hg hrow => by
  refine hs.kept hg ?_
  rcases hs.2 with ⟨h9, _⟩ | ⟨g, cap, cur, h9, _, hg', _⟩
  · exact .inl (by rw [h9]; rfl)
  · refine .inr (fun e2 => ?_)
    rw [h9] at e2
    obtain ⟨_, o, ho, hc⟩ := hrow g (by simpa [Value.ownBlock] using e2.symm)
    rw [hg'] at ho; cases ho; cases hc

/-- A disk whose blocks all lie below n. -/
theorem Dsk.under {W W' : World} {B p pb n : Nat} {bv : Value} {D : Dk} (h : Dsk W B p pb bv D) (hb : Below n W W') (hlt : ∀ k ∈ fp p pb bv, k < n) : Dsk W' B p pb bv D := by
  refine ⟨(hb.block p (hlt p (by simp [fp]))).trans h.cells, (hb.block pb (hlt pb (by simp [fp]))).trans h.plate, ?_, h.hp, h.hpb, h.ok⟩
  rcases h.buf.2 with ⟨rfl, h0⟩ | ⟨g, cap, cur, rfl, hB, hg, r⟩
  · exact ⟨h.buf.1, .inl ⟨rfl, h0⟩⟩
  · exact ⟨h.buf.1, .inr ⟨g, cap, cur, rfl, hB, (hb.block g (hlt g (by simp [fp, Value.ownBlock]))).trans hg, r⟩⟩
theorem Dsk.lts {W : World} {B p pb : Nat} {bv : Value} {D : Dk} (h : Dsk W B p pb bv D) : ∀ k ∈ fp p pb bv, k < W.heap.size := by
  intro k hk
  simp only [fp, List.mem_cons, Option.mem_toList] at hk
  rcases hk with rfl | rfl | hk
  · exact h.lt
  · exact h.plate.lt
  · exact (h.far k hk).2.2.2
theorem secs_snoc (l : List Rw) (r : Rw) : secs (l ++ [r]) = secs l ++ [.int .i64 (r.s : Int)] := by simp [secs]

attribute [local go_sem] Oper.semAt_some

end Go.Proofs.Ytelpihlifdfgoaa
namespace Go.Proofs.Ytelpihlifdfgoaa
open Go.RowKit Go.Shelf
set_option linter.unusedVariables false

/-! ### A deed -/
structure Deed where
  kind : Int
  sector : Int
  num : Int
  fill : Nat
  ad : Option Addr
  len : Nat
  cap : Nat
def Deed.cs (x : Deed) : Array Value := #[.int .i64 x.kind, .int .i64 x.sector, .int .i64 x.num, .int .u8 (x.fill : Int), .slice x.ad x.len x.cap]
def Deed.k (x : Deed) : Nat := (x.kind % 18446744073709551616).toNat % 10

theorem cell_lt {w : World} {a : Addr} {v : Value} (h : w.cell? a = some v) : a.block < w.heap.size := by
  refine Nat.lt_of_not_le fun h9 => ?_
  have : w.heap[a.block]? = none := Array.getElem?_eq_none h9
  simp [World.cell?, this] at h

/-- What a row of truths holds. -/
def Truths (w : World) (a : Option Addr) (ks : List Bool) : Prop := (a = none ∧ ks = []) ∨ ∃ x, a = some x ∧ ∀ i, i < ks.length → w.cell? (x.add i) = some (.bool (ks.getD i false))
theorem Truths.below {w w' : World} {a : Option Addr} {ks : List Bool} (h : Truths w a ks) (hb : Below w.heap.size w w') : Truths w' a ks := by
  rcases h with h | ⟨x, rfl, h⟩
  · exact .inl h
  · exact .inr ⟨x, rfl, fun i hi => (hb.cell (cell_lt (h i hi))).trans (h i hi)⟩
theorem Truths.take {w : World} {a : Option Addr} {ks : List Bool} (h : Truths w a ks) (n : Nat) : Truths w a (ks.take n) := by
  rcases h with ⟨rfl, rfl⟩ | ⟨x, rfl, h⟩
  · exact .inl ⟨rfl, by simp⟩
  · refine .inr ⟨x, rfl, fun i hi => ?_⟩
    simp only [List.length_take] at hi
    rw [h i (by omega)]
    simp only [List.getD_eq_getElem?_getD, List.getElem?_take, if_pos (show i < n by omega)]

theorem i_bool : (Try.prog.info? 4).map (fun i => (i.zero, i.size, i.bytes)) = some (some (.bool false), 1, 1) := by kernel_rfl
set_option maxHeartbeats 2000000 in
theorem clone_some (ad : Addr) (c : Nat) (ks : List Bool) (w : World) (h : Truths w (some ad) ks) (hn : ks.length ≤ 30) :
    Calls Try.prog 36 #[.slice (some ad) ks.length c] w fun e w' => ∃ v, e = .returned v ∧ w'.ownsRow w.heap.size 4 1 v ks.length (ks.map Value.bool) ∧ Below w.heap.size w w' := by
  obtain ⟨i0, hi, hz0, hz1, hz2⟩ := info_parts i_bool
  have A0 : (∀ i, i < ks.length → w.cell? (ad.add i) = some (.bool (ks.getD i false))) := by
    rcases h with ⟨h9, _⟩ | ⟨x, h9, h⟩
    · cases h9
    · obtain rfl : ad = x := by injection h9
      exact h
  have A := Lib.hid A0
  clear h A0
  have q : ∀ (w : World) (a : Option Addr) (n c n' c' : Nat), (binOp .eql 33 (.slice a n c) (.slice none n' c')).run Try.prog w = .ok (.bool a.isNone) w := fun w a n c n' c' => Lib.run_eql_slice_nil w _ _ a n c n' c' Try.underlying33
  go_enter Try.func36, Try.ntmps36
  go_wp2_with (at_builtin; refine wpList_append_own _ rfl _ _ 33 rfl w.heap.size 4 i0 (.bool false) 1 1 Try.underlying33 hi hz0 hz1 hz2 rfl (by decide) _ _ _ rfl (World.ownsRow_made w #[] 0 (Nat.le_refl _) (Nat.zero_le _) rfl) ad ks.length c (ks.map Value.bool) rfl ?qc1 ?qc2 ?qc3 ?qc4 ?qc5 ?qc6 ?_)
  case qc1 => simp
  case qc2 =>
    intro j u hj
    have hjl : j < ks.length := by simpa using (List.getElem?_eq_some_iff.1 hj).1
    rw [List.getElem?_map, List.getElem?_eq_getElem hjl, Option.map_some] at hj
    refine Lib.cell?_alloc_some _ ?_
    rw [A.out j hjl, ← hj, List.getD_eq_getElem?_getD, List.getElem?_eq_getElem hjl]
    rfl
  case qc3 => intro u hu; obtain ⟨x, _, rfl⟩ := List.mem_map.1 hu; rfl
  case qc4 => unfold maxLen; omega
  case qc5 => omega
  case qc6 => simp
  intro v' w1 hown hgrow hnil
  go_wp2
  go_ret
  exact ⟨v', rfl, by simpa using hown, ((Below.refl _ w).alloc (Nat.le_refl _) _).grown hgrow (by simp) (by intro k hk; simp [Value.ownBlock] at hk; omega)⟩

set_option maxHeartbeats 1000000 in
theorem clone_none (c : Nat) (w : World) : Calls Try.prog 36 #[.slice none 0 c] w fun e w' => e = .returned (.slice none 0 0) ∧ w = w' := by
  have q : ∀ (w : World) (a : Option Addr) (n c n' c' : Nat), (binOp .eql 33 (.slice a n c) (.slice none n' c')).run Try.prog w = .ok (.bool a.isNone) w := fun w a n c n' c' => Lib.run_eql_slice_nil w _ _ a n c n' c' Try.underlying33
  go_enter Try.func36, Try.ntmps36
  go_wp2
  go_ret
  exact ⟨rfl, rfl⟩

theorem dclone_any (a : Option Addr) (c : Nat) (ks : List Bool) (w : World) (h : Truths w a ks) (hn : ks.length ≤ 30) :
    Calls Try.prog 36 #[.slice a ks.length c] w fun e w' => ∃ v, e = .returned v ∧ w'.ownsRow w.heap.size 4 1 v ks.length (ks.map Value.bool) ∧ Below w.heap.size w w' := by
  cases a with
  | some ad => exact clone_some ad c ks w h hn
  | none =>
    rcases h with ⟨_, rfl⟩ | ⟨x, h9, _⟩
    · exact (clone_none c w).mono fun e w' ⟨he, hw⟩ => ⟨_, he, by subst hw; exact ⟨rfl, .inl ⟨rfl, rfl⟩⟩, hw ▸ Below.refl _ _⟩
    · cases h9

/-! ### block -/
def Bk.fill (n : Nat) : Bk := ⟨List.replicate 64 (n : Int), by simp⟩
def Bk.upTo (n k : Nat) : Bk := ⟨List.replicate (min k 64) (n : Int) ++ List.replicate (64 - k) 0, by simp; omega⟩
theorem Bk.upTo_zero (n : Nat) : Bk.upTo n 0 = Bk.zero := by simp [Bk.upTo, Bk.zero]
theorem Bk.upTo_all (n : Nat) : Bk.upTo n 64 = Bk.fill n := by simp [Bk.upTo, Bk.fill]
theorem Bk.upTo_succ (n k : Nat) (h : k < 64) : (Bk.upTo n k).cs.setIfInBounds k (.int .u8 (n : Int)) = (Bk.upTo n (k + 1)).cs := by
  apply Array.ext'
  rw [Array.toList_setIfInBounds]
  simp only [Bk.cs, Bk.upTo, Nat.min_eq_left (show k ≤ 64 by omega), Nat.min_eq_left (show k + 1 ≤ 64 by omega), List.map_append, List.map_replicate, List.set_append_right _ _ (show (List.replicate k (Value.int .u8 (n : Int))).length ≤ k by simp), List.length_replicate, Nat.sub_self]
  rw [show 64 - k = (64 - (k + 1)) + 1 from by omega, List.replicate_succ, List.set_cons_zero, List.replicate_succ' (n := k)]
  simp

/-! ### does, of nothing -/
end Go.Proofs.Ytelpihlifdfgoaa
namespace Go.Proofs.Ytelpihlifdfgoaa
open Go.ChangeShapes Go.WideShapes Go.ChangeAt Go.RowKit
set_option linter.unusedVariables false
theorem bools_own4 {w : World} {B n : Nat} {v : Value} {ks : List Bool} (hn : ks.length = n) (h : w.ownsRow B 4 1 v ks.length (ks.map Value.bool)) : ∃ a c, v = .slice a n c ∧ Bools w a ks := by
  subst hn
  rcases h.2 with ⟨rfl, h0⟩ | ⟨g, cap, cur, rfl, hB, hg, hc, hm, hsz, ht⟩
  · exact ⟨none, 0, by rw [h0], .inl (List.length_eq_zero_iff.1 h0)⟩
  · refine ⟨_, _, rfl, .inr ⟨g, 0, rfl, (Array.getElem?_eq_some_iff.1 hg).1, fun i hi => ?_⟩⟩
    have hb : Blk w g 4 cur := hg
    rw [Nat.zero_add, hb.cell]
    have h9 : (cur.toList.take (ks.length * 1))[i]? = (ks.map Value.bool)[i]? := by rw [ht]
    rw [List.getElem?_take, if_pos (by omega), List.getElem?_map, List.getElem?_eq_getElem hi] at h9
    rw [List.getD_eq_getElem?_getD, List.getElem?_eq_getElem hi, ← Array.getElem?_toList, h9]
    rfl
set_option maxHeartbeats 1000000 in
theorem keepw_any (x0 x1 x2 : Value) (a : Option Addr) (len cap : Nat) (ks : List Bool) (w : World) (h : Truths w a ks) (hl : ks.length = len) (hc : len ≤ cap) (hm : cap ≤ maxLen) :
    Calls Try.prog 17 #[.agg #[x0, x1, x2, .slice a len cap]] w fun e w' => ∃ v, e = .returned v ∧ w'.ownsRow w.heap.size 4 1 v (ks.take 30).length ((ks.take 30).map Value.bool) ∧ Below w.heap.size w w' := by
  subst hl
  have key : ∀ (m : Nat), (ks.take 30).length = m → ∀ W, Below w.heap.size w W → Calls Try.prog 36 #[.slice a m cap] W fun e w' => ∃ v, e = .returned v ∧ w'.ownsRow w.heap.size 4 1 v (ks.take 30).length ((ks.take 30).map Value.bool) ∧ Below w.heap.size w w' := by
    intro m hm W hW
    subst hm
    refine (dclone_any a cap (ks.take 30) W ((h.below hW).take 30) (by simp; omega)).mono ?_
    rintro e w' ⟨v, he, hown, hb⟩
    refine ⟨v, he, ⟨hown.1, ?_⟩, hW.trans (hb.mono hW.size)⟩
    rcases hown.2 with h9 | ⟨g, c, cur, h1, h2, h3⟩
    · exact .inl h9
    · exact .inr ⟨g, c, cur, h1, Nat.le_trans hW.size h2, h3⟩
  have K := Lib.hid key
  clear h key
  go_enter Try.func17, Try.ntmps17
  go_wp2_with fail
  · refine (K.out 30 (by simp; omega) _ ((Below.refl _ _).alloc (Nat.le_refl _) _)).mono ?_
    rintro e W1 ⟨v, rfl, hown, hb⟩
    go_wp2
    go_ret
    exact ⟨v, rfl, hown, hb⟩
  · refine (K.out ks.length (by simp; omega) _ ((Below.refl _ _).alloc (Nat.le_refl _) _)).mono ?_
    rintro e W1 ⟨v, rfl, hown, hb⟩
    go_wp2
    go_ret
    exact ⟨v, rfl, hown, hb⟩
theorem cells4_int : Try.prog.cellsOf 3 = 1 := by kernel_rfl
theorem cells4_bool : Try.prog.cellsOf 4 = 1 := by kernel_rfl
theorem cells4_bools : Try.prog.cellsOf 33 = 1 := by kernel_rfl
theorem cells4_bytes : Try.prog.cellsOf 29 = 1 := by kernel_rfl
theorem cells4_deed : Try.prog.cellsOf 35 = 4 := by kernel_rfl
def truth4 : Option Value → Bool
  | some (.bool b) => b
  | _ => false
/-- A deed, as data. -/
structure Dd where
  k : Int
  m : Int
  b : List Nat
  h : List Bool
/-- These four cells are that deed. -/
structure DdAt (W : World) (cs : List Value) (x : Dd) : Prop where
  cs : ∃ a cap ka kc, cs = [.int .i64 x.k, .int .i64 x.m, .slice a x.b.length cap, .slice ka x.h.length kc] ∧ Lies W a x.b ∧ x.b.length ≤ cap ∧ cap ≤ 9223372036854775807 ∧ (a = none → x.b.length = 0) ∧ Truths W ka x.h ∧ x.h.length ≤ kc ∧ kc ≤ maxLen
  bys : Bys x.b
  mx : x.m ≤ 9223372036854775807
theorem bools_of4 {H : Type} {enc : TypeId × Value → H} {W : World} {held : Bool} {fuel : Nat} {v : Value} {y : DataW H × List MemPlace} (h : DataW.trod enc Try.prog W 0 (fun _ => true) held fuel 33 [v] = some y) : ∃ ka ks kc, v = .slice ka (ks : List Bool).length kc ∧ Truths W ka ks ∧ ks.length ≤ kc ∧ kc ≤ maxLen := by
  rcases Go.Deep.open_slice Try.underlying33 h with ⟨hcs, _⟩ | ⟨a, len, cap, q, nn, Dt, Pl, hcs, _, hl, hm, hq, _, hi⟩
  · obtain rfl : v = .slice none 0 0 := by injection (show [v] = [_] from hcs)
    exact ⟨none, [], 0, rfl, .inl ⟨rfl, rfl⟩, Nat.le_refl _, by simp [maxLen]⟩
  · obtain rfl : v = .slice (some a) len cap := by injection (show [v] = [_] from hcs)
    have hb : ∀ i, i < len → ∃ b, W.cell? (a.add i) = some (.bool b) := by
      intro i hil
      obtain ⟨cs', hc', ht'⟩ := hi i (by rw [hq]; split <;> omega)
      rw [cells4_bool, Nat.mul_one] at hc'
      obtain ⟨b, rfl, _⟩ := DataW.trod_bool Try.underlying4 ht'
      obtain ⟨_, _, hat⟩ := World.cells?_some hc'
      exact ⟨b, by have h9 := hat 0 (by omega); rw [Go.Deep.add_add] at h9; exact h9⟩
    refine ⟨some a, (List.range len).map (fun i => truth4 (W.cell? (a.add i))), cap, by simp, .inr ⟨a, rfl, fun i hil => ?_⟩, by simpa using hl, hm⟩
    simp only [List.length_map, List.length_range] at hil
    obtain ⟨b, hb'⟩ := hb i hil
    simp only [List.getD_eq_getElem?_getD, List.getElem?_map, List.getElem?_range hil, Option.map_some, Option.getD_some]
    rw [hb']
    rfl
theorem ddat_of {H : Type} {enc : TypeId × Value → H} {W : World} {held : Bool} {fuel : Nat} {cs : List Value} {y : DataW H × List MemPlace} (hC : cs.length = 4) (h : DataW.trod enc Try.prog W 0 (fun _ => true) held fuel 35 cs = some y) :
    ∃ x : Dd, DdAt W cs x := by
  obtain ⟨x0, x1, x2, x3, rfl⟩ : ∃ x0 x1 x2 x3, cs = [x0, x1, x2, x3] := by
    match cs, hC with
    | [a, b, c, d], _ => exact ⟨a, b, c, d, rfl⟩
  obtain ⟨xs, m, _, hx, _, hlen, hg⟩ := DataW.trod_struct Try.underlying35 h
  obtain ⟨y0, y1, y2, y3, rfl⟩ : ∃ y0 y1 y2 y3, xs = [y0, y1, y2, y3] := by
    match xs, hlen with
    | [a, b, c, d], _ => exact ⟨a, b, c, d, rfl⟩
  have t0 : DataW.trod enc Try.prog W 0 (fun _ => true) held m 3 (List.take (Try.prog.cellsOf 3) (List.drop 0 [x0, x1, x2, x3])) = some y0 := hg 0 _ rfl
  rw [cells4_int] at t0
  have t1 : DataW.trod enc Try.prog W 0 (fun _ => true) held m 3 (List.take (Try.prog.cellsOf 3) (List.drop 1 [x0, x1, x2, x3])) = some y1 := hg 1 _ rfl
  rw [cells4_int] at t1
  have t2 : DataW.trod enc Try.prog W 0 (fun _ => true) held m 29 (List.take (Try.prog.cellsOf 29) (List.drop 2 [x0, x1, x2, x3])) = some y2 := hg 2 _ rfl
  rw [cells4_bytes] at t2
  have t3 : DataW.trod enc Try.prog W 0 (fun _ => true) held m 33 (List.take (Try.prog.cellsOf 33) (List.drop 3 [x0, x1, x2, x3])) = some y3 := hg 3 _ rfl
  rw [cells4_bools] at t3
  obtain ⟨u0, e0, _, f0⟩ := DataW.trod_int Try.underlying3 t0
  obtain rfl : x0 = .int .i64 u0 := by injection (show [x0] = [_] from e0)
  obtain ⟨u1, e1, _, f1⟩ := DataW.trod_int Try.underlying3 t1
  obtain rfl : x1 = .int .i64 u1 := by injection (show [x1] = [_] from e1)
  have hn1 : u1 ≤ 9223372036854775807 := ((Lit.wf_int_iff .i64 u1).1 f1).2
  obtain ⟨l, ⟨a, cap, rfl, hL, hlc, hcm, h0⟩, hB⟩ := bsl_of (show DataW.trod enc Try.prog W 0 (fun _ => true) held m 29 [x2] = some y2 from t2)
  obtain ⟨ka, ks, kc, rfl, hT, hkc, hkm⟩ := bools_of4 (show DataW.trod enc Try.prog W 0 (fun _ => true) held m 33 [x3] = some y3 from t3)
  exact ⟨⟨u0, u1, l, ks⟩, ⟨a, cap, ka, kc, rfl, hL, hlc, by unfold maxLen at hcm; omega, h0, hT, hkc, hkm⟩, hB, hn1⟩
/-- Deeds in a row. -/
def Dds (W : World) (a : Option Addr) (l : List Dd) : Prop :=
  l = [] ∨ ∃ b o, a = some ⟨b, o, none⟩ ∧ ∀ (i : Nat) (y : Dd), l[i]? = some y → ∃ cs, (∀ j, j < 4 → W.cell? ⟨b, o + i * 4 + j, none⟩ = cs[j]?) ∧ DdAt W cs y
theorem dds_of {H : Type} {enc : TypeId × Value → H} {W : World} {held : Bool} {a : Option Addr} {len cap : Nat} {d : DataW H} {p : List MemPlace} (h : DataW.Trod enc Try.prog W 0 (fun _ => true) held 22 (.slice a len cap) d p) :
    ∃ l : List Dd, l.length = len ∧ len ≤ 9223372036854775807 ∧ Dds W a l := by
  obtain ⟨fuel, hf⟩ := h
  rcases Go.Deep.open_slice Try.underlying22 hf with ⟨hcs, _⟩ | ⟨x, len', cap', q, nn, Dt, Pl, hcs, _, hl, hm, hq, _, hi⟩
  · simp [Value.cells] at hcs
    obtain ⟨rfl, rfl, rfl⟩ := hcs
    exact ⟨[], rfl, by omega, .inl rfl⟩
  · simp [Value.cells] at hcs
    obtain ⟨rfl, rfl, rfl⟩ := hcs
    have hex : ∀ i, i < len → ∃ (y : Dd) (cs : List Value), (∀ j, j < 4 → W.cell? (x.add (i * 4 + j)) = cs[j]?) ∧ DdAt W cs y := by
      intro i hil
      obtain ⟨cs', hc', ht'⟩ := hi i (by rw [hq]; split <;> omega)
      rw [cells4_deed] at hc'
      obtain ⟨_, hlen, hat⟩ := World.cells?_some hc'
      obtain ⟨y, hy⟩ := ddat_of hlen ht'
      refine ⟨y, cs', fun j hj => ?_, hy⟩
      have h9 := hat j hj
      rw [Go.Deep.add_add] at h9
      rw [h9]
    obtain ⟨f, hf2⟩ : ∃ f : Nat → Dd, ∀ i, i < len → ∃ cs : List Value, (∀ j, j < 4 → W.cell? (x.add (i * 4 + j)) = cs[j]?) ∧ DdAt W cs (f i) :=
      ⟨fun i => if h : i < len then (hex i h).choose else ⟨0, 0, [], []⟩, fun i hil => by simp only [dif_pos hil]; exact (hex i hil).choose_spec⟩
    obtain ⟨xb, xo, sp⟩ := x
    by_cases hl0 : len = 0
    · exact ⟨[], by simp [hl0], by unfold maxLen at hm; omega, .inl rfl⟩
    · have hsp : sp = none := by
        obtain ⟨cs, h1, h2⟩ := hf2 0 (by omega)
        obtain ⟨a, cap, ka, kc, rfl, _⟩ := h2.cs
        have h9 := h1 0 (by omega)
        rw [show 0 * 4 + 0 = 0 from rfl] at h9
        have h8 := World.cell?_spot (v := .int .i64 (f 0).k) (h9.trans rfl)
        simpa [Addr.add] using h8
      subst hsp
      refine ⟨(List.range len).map f, by simp, by unfold maxLen at hm; omega, .inr ⟨xb, xo, rfl, fun i y hy => ?_⟩⟩
      have hil : i < len := by simpa using (List.getElem?_eq_some_iff.1 hy).1
      rw [List.getElem?_map, List.getElem?_range hil, Option.map_some] at hy
      injection hy with hy
      subst hy
      obtain ⟨cs, h1, h2⟩ := hf2 i hil
      exact ⟨cs, fun j hj => by have := h1 j hj; rwa [Addr.add_lit, ← Nat.add_assoc] at this, h2⟩
theorem DdAt.later {W W' : World} {cs : List Value} {x : Dd} (h : DdAt W cs x) (k : Below W.heap.size W W') : DdAt W' cs x := by
  obtain ⟨⟨a, cap, ka, kc, h1, h2, h3, h4, h5, h6, h7⟩, h8, h9⟩ := h
  exact ⟨⟨a, cap, ka, kc, h1, h2.kept k, h3, h4, h5, h6.below k, h7⟩, h8, h9⟩
/-- The i-th deed: its cells at a later world. -/
theorem Dds.at' {W W' : World} {a : Option Addr} {l : List Dd} (h : Dds W a l) (k : Below W.heap.size W W') {i : Nat} (hi : i < l.length) : ∃ b o cs, a = some ⟨b, o, none⟩ ∧ (∀ j, j < 4 → W'.cell? ⟨b, o + i * 4 + j, none⟩ = cs[j]?) ∧ DdAt W cs l[i] := by
  rcases h with h | ⟨b, o, h1, h2⟩
  · subst h; simp at hi
  · obtain ⟨cs, h3, h4⟩ := h2 i _ (List.getElem?_eq_getElem hi)
    refine ⟨b, o, cs, h1, fun j hj => ?_, h4⟩
    obtain ⟨a, cap, ka, kc, rfl, _⟩ := h4.cs
    have h5 := h3 j hj
    rw [← h5]
    obtain ⟨v, hv⟩ : ∃ v, W.cell? ⟨b, o + i * 4 + j, none⟩ = some v := by
      rw [h5]
      exact ⟨_, List.getElem?_eq_getElem (by simp; omega)⟩
    exact k.cell (p := ⟨b, o + i * 4 + j, none⟩) (cell_lt9 hv)
/-- The first place at which two rows differ. -/
theorem first_dif : ∀ (x y : List (List Nat)), x.length = y.length → x ≠ y → ∃ k0, k0 < x.length ∧ x.getD k0 [] ≠ y.getD k0 [] ∧ ∀ j, j < k0 → x.getD j [] = y.getD j []
  | [], [], _, h => absurd rfl h
  | [], _ :: _, h, _ => by simp at h
  | _ :: _, [], h, _ => by simp at h
  | a :: x, b :: y, hl, h => by
    by_cases hab : a = b
    · subst hab
      obtain ⟨k, h1, h2, h3⟩ := first_dif x y (by simpa using hl) (fun e => h (by rw [e]))
      refine ⟨k + 1, by simpa using h1, by simpa using h2, fun j hj => ?_⟩
      cases j with
      | zero => rfl
      | succ j => simpa using h3 j (by omega)
    · exact ⟨0, by simp, by simpa using hab, fun j hj => by omega⟩
/-- What the law's are says of a log that is whole. -/
theorem are_dec {w : World} {B C p g t c : Nat} {s z : List Nat} {txs zs : List (List Nat)} {f : Nat → Bk} {sn rv : Value} {rvs : List Value} (h : Lc B w p g 12 t c s txs) (hf : LogF f 12 t c s txs) (hs : w.ownsRow C 5 1 sn z.length (z.map byc)) (hzB : Bys z) (hr : w.ownsRow C 29 1 rv zs.length rvs) (hx : Txs w C rvs zs) (hzz : ∀ x ∈ zs, Bys x) :
    ∃ b : Bool, (b = true ↔ z = s ∧ zs = txs) ∧ Calls Try.prog 15 #[.agg #[sn, rv], .pointer (some ⟨g, 0, none⟩)] w fun e w' => e = .returned (.bool b) ∧ Below w.heap.size w w' := by
  by_cases h1 : txs.length = zs.length
  · by_cases h2 : z = s
    · by_cases h3 : zs = txs
      · subst h2
        subst h3
        exact ⟨true, by simp, are_any h hf hs hr hx⟩
      · refine ⟨false, by simp [h3], are_row h hf hs hzB hr hx hzz ⟨h1, h2, first_dif _ _ h1 (fun e => h3 e.symm)⟩⟩
    · exact ⟨false, by simp [h2], are_snap h hf hs hzB hr hx hzz ⟨h1, fun e => h2 e.symm⟩⟩
  · refine ⟨false, ?_, are_len h hf hs hzB hr hx hzz h1⟩
    simp only [Bool.false_eq_true, false_iff, not_and]
    intro _ e
    exact h1 (by rw [e])
end Go.Proofs.Ytelpihlifdfgoaa
namespace Go.Proofs.Ytelpihlifdfgoaa
open Go.RowKit Go.Shelf
set_option linter.unusedVariables false
theorem truths_bools {W : World} {a : Option Addr} {ks : List Bool} (h : Truths W a ks) : Bools W a ks := by
  rcases h with ⟨_, h⟩ | ⟨x, rfl, hc⟩
  · exact .inl h
  · by_cases h0 : ks = []
    · exact .inl h0
    · have hpos : 0 < ks.length := List.length_pos_iff.2 h0
      obtain ⟨b, off, spot⟩ := x
      have hc0 := hc 0 hpos
      have hspot : spot = none := by simpa [Addr.add] using World.cell?_spot hc0
      subst hspot
      refine .inr ⟨b, off, rfl, cell_lt9 hc0, fun i hi => ?_⟩
      have := hc i hi
      rw [Addr.add_lit] at this
      exact this
theorem bools_later {w w' : World} {a : Option Addr} {ks : List Bool} (h : Bools w a ks) (hb : Below w.heap.size w w') : Bools w' a ks := by
  rcases h with h | ⟨b, off, h1, h2, h3⟩
  · exact .inl h
  · exact .inr ⟨b, off, h1, Nat.lt_of_lt_of_le h2 hb.size, fun i hi => (hb.cell (p := ⟨b, off + i, none⟩) h2).trans (h3 i hi)⟩
theorem bools_take {w : World} {a : Option Addr} {ks : List Bool} (h : Bools w a ks) (n : Nat) : Bools w a (ks.take n) := by
  rcases h with rfl | ⟨b, off, h1, h2, h3⟩
  · exact .inl (by simp)
  · refine .inr ⟨b, off, h1, h2, fun i hi => ?_⟩
    have hi2 : i < ks.length := by rw [List.length_take] at hi; omega
    have hin : i < n := by rw [List.length_take] at hi; omega
    rw [h3 i hi2, List.getD_eq_getElem?_getD, List.getD_eq_getElem?_getD, List.getElem?_take, if_pos hin]
/-- A deed that lies in a row. -/
theorem ld_dd {w : World} {b o : Nat} {x0 x1 x2 x3 : Value} (h : ∀ j, j < 4 → w.cell? ⟨b, o + j, none⟩ = [x0, x1, x2, x3][j]?) : (loadSem 35 (.pointer (some ⟨b, o, none⟩))).run Try.prog w = .ok (.agg #[x0, x1, x2, x3]) w :=
  run_loadAt_mid (P := Try.prog) w b o 35 [x0, x1, x2, x3] _ (fun j v hj => by
    have hl : j < 4 := by simpa using (List.getElem?_eq_some_iff.1 hj).1
    rw [h j hl]; exact hj) Try.underlying35 rfl (by simpa using s_deed x0 x1 x2 x3)
/-! ### How many operations an Open is -/
theorem downs_ops : ∀ (l : List Rw) (D : Dk), (downsM D l).ops = D.ops
  | [], D => rfl
  | r :: l, D => downs_ops l (downM D r)
theorem sync_ops {D : Dk} {N : Nat} (h : D.Well N) : (syncM D).1.ops = wrap64 (D.ops + 1) := by
  unfold syncM
  rw [if_neg (by rw [h.dead]; simp), if_neg (by rw [h.fuse]; simp), if_neg (by rw [h.flaw]; simp)]
  show wrap64 ((downsM (fuseM (flawM D)) _).ops + 1) = _
  rw [downs_ops]
  rfl
theorem wrap_wrap (x : Int) : wrap64 (wrap64 x) = wrap64 x := by unfold wrap64; omega
theorem wrap_up {x y : Int} (h : wrap64 x = wrap64 y) (k : Int) : wrap64 (x + k) = wrap64 (y + k) := by unfold wrap64 at h ⊢; omega
theorem reads_ops {D : Dk} {N : Nat} (h : D.Well N) (hn : D.Nod N) (first : Nat) : ∀ k : Nat, first + k ≤ N → wrap64 (readsM D first k).1.ops = wrap64 (D.ops + (k : Int))
  | 0, _ => by show wrap64 D.ops = _; rw [show D.ops + ((0 : Nat) : Int) = D.ops by omega]
  | k + 1, hk => by
    obtain ⟨E, h1, h2, h3, h4⟩ := reads_well h hn first k (by omega)
    have ih := reads_ops h hn first k (by omega)
    rw [h1] at ih
    obtain ⟨e1, e2, e3, e4, e5⟩ := read_well h2 h3 (i := first + k) (by omega)
    have e6 : (readM E ((first + k : Nat) : Int)).1.ops = wrap64 (E.ops + 1) := by
      have hr : reachE E ((first + k : Nat) : Int) = 0 := by
        unfold reachE
        rw [h2.dead, h2.len]
        simp
        omega
      unfold readM
      rw [if_neg (by rw [hr]; simp), if_neg (by rw [h2.flaw]; simp)]
      rfl
    obtain ⟨⟨E2, b, er⟩, hE2⟩ : ∃ x, readM E ((first + k : Nat) : Int) = x := ⟨_, rfl⟩
    rw [hE2] at e1 e2 e3 e4 e5 e6
    have e1 : er = 0 := e1
    have hx := readsM_next h1 hE2
    rw [if_neg (by rw [e1]; simp)] at hx
    rw [hx]
    show wrap64 E2.ops = _
    rw [show E2.ops = _ from e6, wrap_wrap, wrap_up ih 1]
    congr 1
    omega
theorem open_ops {D : Dk} {N n t c : Nat} {s : List Nat} {txs : List (List Nat)} (hw : D.Well N) (hn : D.Nod N) (hN : 2 + 2 * n ≤ N) (h : LogF (showsM D) n t c s txs) : (openM D).D.ops = wrap64 (D.ops + (2 + 2 * (n : Int) + 1)) := by
  obtain ⟨D1, a1, a2, a3, a4⟩ := reads_well hw hn 0 2 (by omega)
  obtain ⟨D2, b1, b2, b3, b4⟩ := reads_well a2 a3 2 n (by omega)
  obtain ⟨D3, c1, c2, c3, c4⟩ := reads_well b2 b3 (2 + n) n (by omega)
  have o1 := reads_ops hw hn 0 2 (by omega)
  have o2 := reads_ops a2 a3 2 n (by omega)
  have o3 := reads_ops b2 b3 (2 + n) n (by omega)
  rw [a1] at o1
  rw [b1] at o2
  rw [c1] at o3
  have hH : (List.range 2).map (fun i => showsM D (0 + i)) = [labL n, labL n] := by
    show [showsM D 0, showsM D 1] = _
    rw [h.lab.1, h.lab.2]
  rw [hH] at a1
  have hsz : sizeR [labL n, labL n] D1.plate.length = some n := lab_size h.n4 (by rw [a2.len]; exact hN) _
  rw [a4] at b1
  rw [b4, a4] at c1
  have hb := h.best
  obtain ⟨s1, s2⟩ := sync_well c2
  have e : openM D = ⟨(syncM D3).1, 0, n, (some (t, s, txs, (chainB t s txs).length), c)⟩ := by
    refine open_some a1 hsz b1 c1 hb (by show t ≠ 0; have := h.t0.1; omega) ?_
    show layM D3 (openL (leftPl (areaL (showsM D) 2 n) (areaL (showsM D) (2 + n) n) t (chainB t s txs).length n c)) = _
    rw [h.left]
    show (if (0 : Int) = 0 then syncM D3 else (D3, 0)) = _
    rw [if_pos rfl, ← s1]
  rw [e]
  show (syncM D3).1.ops = _
  rw [sync_ops c2]
  have o1 : wrap64 D1.ops = wrap64 (D.ops + ((2 : Nat) : Int)) := o1
  have o2 : wrap64 D2.ops = wrap64 (D1.ops + (n : Int)) := o2
  have o3 : wrap64 D3.ops = wrap64 (D2.ops + (n : Int)) := o3
  have w1 := wrap_up o3 1
  have w2 := wrap_up o2 ((n : Int) + 1)
  have w3 := wrap_up o1 ((n : Int) + ((n : Int) + 1))
  rw [w1, show D2.ops + (n : Int) + 1 = D2.ops + ((n : Int) + 1) by omega, w2, show D1.ops + (n : Int) + ((n : Int) + 1) = D1.ops + ((n : Int) + ((n : Int) + 1)) by omega, w3]
  congr 1
  omega
section
variable {C B p pb g q n N t c : Nat} {W W' : World} {s s' : List Nat} {txs txs' : List (List Nat)} {bv sv tv sn rv : Value} {vs rvs : List Value} {D : Dk}
theorem Hale.mk2 {g' : Nat} {W2 : World} {bv2 : Value} (hL : LcX B W2 p g' n t c s txs sv tv vs) (hD : Dsk W2 B p pb bv2 D) (hy : D.Byt) (hn : D.Nod N) (hN : LogN n t c s txs) (hP : ∀ i, i < 2 + 2 * n → ∀ b, Poss D i b → Per n t c s txs i b) : Hale W2 B p pb g' N n t c s txs bv2 sv tv vs D := ⟨hD, hy, hn, hN, hP, hL⟩
/-- A deed that writes, on a disk that does as it is asked. -/
theorem After.well {w' : World} {t' : Nat} {l : List Nat} {er : Int} (h : After W w' B p pb g N n t c s txs bv sv tv vs D t' l er) (hH : Hale W B p pb g N n t c s txs bv sv tv vs D) (hw : D.Well N) (ht' : t' ≤ t + 1) :
    ∃ bv2 D2 t2 c2 s2 txs2 sv2 tv2 vs2, Hale w' B p pb g N n t2 c2 s2 txs2 bv2 sv2 tv2 vs2 D2 ∧ D2.Well N ∧ t2 ≤ t + 1 := by
  obtain ⟨bv', D', h1, h2, h3, h4, h5, h6, h7, h8⟩ := h
  obtain ⟨w1, w2⟩ := h7 hw
  rcases h8 with ⟨rfl, rfl, k1⟩ | ⟨rfl, k1, t2, c2, s2, txs2, sv2, tv2, vs2, k2, k3, _, k4, k5⟩ | ⟨k1, k2, _⟩
  · exact ⟨bv', D', t, c, s, txs, sv, tv, vs, ⟨h1, h2, h3, hH.nums, hH.per, k1⟩, hw, by omega⟩
  · exact ⟨bv', D', t2, c2, s2, txs2, sv2, tv2, vs2, ⟨h1, h2, h3, k4, k5, k3⟩, w2, by rcases k2 with ⟨_, h, _⟩ | ⟨_, h, _⟩ <;> omega⟩
  · omega
/-- A deed that writes, on whatever disk: one of two logs. -/
theorem After.fork {w' : World} {t' : Nat} {l : List Nat} {er : Int} (h : After W w' B p pb g N n t c s txs bv sv tv vs D t' l er) (hH : Hale W B p pb g N n t c s txs bv sv tv vs D) (ht : t + 1 < 4294967295) :
    ∃ bv2 D2 t1 c1 s1 txs1 t2 c2 s2 txs2, Dsk w' B p pb bv2 D2 ∧ Fork N n t1 c1 s1 txs1 t2 c2 s2 txs2 D2 ∧ (D.fuse = none → D2.fuse = none ∧ D2.dead = D.dead) ∧ Below B W w' ∧ t1 ≤ t + 1 ∧ t2 ≤ t + 1 := by
  obtain ⟨bv', D', h1, h2, h3, h4, h5, h6, h7, h8⟩ := h
  rcases h8 with ⟨rfl, rfl, k1⟩ | ⟨rfl, k1, t2, c2, s2, txs2, sv2, tv2, vs2, k2, _, _, k4, k5⟩ | ⟨k1, k2, _, q, m', k4, k5⟩
  · exact ⟨bv', D', t, c, s, txs, t, c, s, txs, h1, ⟨h2, h3, hH.nums, by omega, .inr ⟨⟨rfl, rfl, rfl, rfl⟩, hH.per⟩⟩, h6, h5, by omega, by omega⟩
  · have ht2 : t2 ≤ t + 1 := by rcases k2 with ⟨_, h, _⟩ | ⟨_, h, _⟩ <;> omega
    exact ⟨bv', D', t2, c2, s2, txs2, t2, c2, s2, txs2, h1, ⟨h2, h3, k4, by omega, .inr ⟨⟨rfl, rfl, rfl, rfl⟩, k5⟩⟩, h6, h5, ht2, ht2⟩
  · have hex : ∃ t2 c2 s2 txs2, NewIs t c s txs t' l t2 c2 s2 txs2 := by
      rcases k4.kind with ⟨rfl, _⟩ | ⟨rfl, _⟩
      · exact ⟨_, _, _, _, .inl ⟨rfl, rfl, rfl, rfl, rfl⟩⟩
      · exact ⟨_, _, _, _, .inr ⟨rfl, rfl, rfl, rfl, rfl⟩⟩
    obtain ⟨t2, c2, s2, txs2, hnew⟩ := hex
    exact ⟨bv', D', t, c, s, txs, t2, c2, s2, txs2, h1, ⟨h2, h3, hH.nums, by omega, .inl ⟨q, t', m', l, k4, hnew, k5⟩⟩, h6, h5, by omega, by rcases hnew with ⟨_, h, _⟩ | ⟨_, h, _⟩ <;> omega⟩
/-- What a call on the disk leaves of a log and of the things beside it. -/
theorem LcX.beside (h : LcX B W p g n t c s txs sv tv vs) (hD : Dsk W B p pb bv D) (k : Kept (fp p pb bv) W W') : LcX B W' p g n t c s txs sv tv vs := by
  obtain ⟨h1, h2, h3, h4, h5⟩ := h
  have u8 : ∀ (e : TypeId) (v : Value) (m : Nat) (xs : List Value), e = 5 ∨ e = 29 → W.ownsRow B e 1 v m xs → W'.ownsRow B e 1 v m xs := fun e v m xs he h => own_far h k (fun i hi hm => own_apart h hD h1 he i hi (by simp [hm]))
  exact ⟨h1.kept k (g_far hD h1), u8 _ _ _ _ (.inl rfl) h2, u8 _ _ _ _ (.inr rfl) h3, Txs.imp (fun v l h => u8 _ _ _ _ (.inl rfl) h) h4, h5⟩
theorem own_disk {e : TypeId} {v : Value} {m : Nat} {xs : List Value} (h : W.ownsRow C e 1 v m xs) (hD : Dsk W B p pb bv D) (he : e = 5 ∨ e = 29) : ∀ i, v.ownBlock = some i → i ∉ fp p pb bv := by
  intro i hi hm
  rcases h.2 with h9 | ⟨q, cap, cur, h1, h2, h3, h4⟩
  · rw [h9.1] at hi; cases hi
  · rw [h1] at hi
    obtain rfl : q = i := by simpa [Value.ownBlock] using hi
    have hb : Blk W q e cur := h3
    simp only [fp, List.mem_cons, Option.mem_toList] at hm
    rcases hm with h9 | h9 | h9
    · exact hb.ne hD.cells (by rcases he with rfl | rfl <;> decide) h9
    · exact hb.ne hD.plate (by rcases he with rfl | rfl <;> decide) h9
    · rcases hD.buf.2 with h8 | ⟨g, cap', cur', e1, e2, e3, e4⟩
      · rw [h8.1] at h9; cases h9
      · rw [e1] at h9
        obtain rfl : g = q := by simpa [Value.ownBlock] using h9
        rw [e3] at h3
        have := Option.some.inj h3
        simp only [Obj.cells.injEq] at this
        exact absurd this.2.1 (by rcases he with rfl | rfl <;> decide)
theorem Now.disk (h : Now W C q s' txs' sn rv rvs) (hD : Dsk W B p pb bv D) (k : Kept (fp p pb bv) W W') : Now W' C q s' txs' sn rv rvs := by
  obtain ⟨h1, h2, h3, h4⟩ := h
  exact ⟨h1.kept k (things_far hD h1), own_far h2 k (own_disk h2 hD (.inl rfl)), own_far h3 k (own_disk h3 hD (.inr rfl)), Txs.imp (fun v l h => own_far h k (own_disk h hD (.inl rfl))) h4⟩
theorem st_things_new (w : World) {y0 y1 : Value} (h0 : y0.oneCell' = true) (h1 : y1.oneCell' = true) : (storeSem 32 (.pointer (some ⟨w.heap.size, 0, none⟩)) (.agg #[y0, y1])).run Try.prog (w.alloc (.cells #[.slice none 0 0, .slice none 0 0] 32)) = .ok () (w.alloc (.cells #[y0, y1] 32)) := by
  have S := st_things (Blk.new w 32 #[.slice none 0 0, .slice none 0 0]) h0 h1
  rwa [World.setRow_alloc_new] at S
end
end Go.Proofs.Ytelpihlifdfgoaa
