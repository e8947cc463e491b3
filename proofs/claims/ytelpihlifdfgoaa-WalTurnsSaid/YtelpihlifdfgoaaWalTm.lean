/-
  The walk of WalTurns, all of it. Nothing here is a statement of the document.
-/
import Derived.Test.YtelpihlifdfgoaaWalTi
import Derived.Deep.Slices
import Derived.WalkKit
import Derived.ProofKit
import Derived.OpenShut
import Derived.ShutString
import Derived.ChangeOld
import Derived.Below
import Derived.DataShut
import Derived.Deep.CutBlock
namespace Go.Proofs.Ytelpihlifdfgoaa
open Go.RowKit Go.Shelf
set_option linter.unusedVariables false
theorem txsB_split (t : Nat) : ∀ (txs : List (List Nat)) (m k : Nat), txsB t m txs = txsB t m (txs.take k) ++ txsB t (m + (txs.take k).length) (txs.drop k)
  | [], m, k => by simp [txsB]
  | x :: txs, m, 0 => by simp [txsB]
  | x :: txs, m, k + 1 => by
    simp only [List.take_succ_cons, List.drop_succ_cons, txsB, List.length_cons]
    rw [txsB_split t txs (m + 1) k, List.append_assoc, show m + 1 + (txs.take k).length = m + ((txs.take k).length + 1) from by omega]
theorem chainB_split (t : Nat) (s : List Nat) (txs : List (List Nat)) (k : Nat) : chainB t s txs = chainB t s (txs.take k) ++ txsB t ((txs.take k).length) (txs.drop k) := by
  unfold chainB
  rw [txsB_split t txs 0 k, List.append_assoc, Nat.zero_add]
set_option maxRecDepth 100000 in
set_option maxHeartbeats 4000000 in
theorem are_any {w : World} {B C p g t c : Nat} {s : List Nat} {txs : List (List Nat)} {f : Nat → Bk} {sn rv : Value} {rvs : List Value} (h : Lc B w p g 12 t c s txs) (hf : LogF f 12 t c s txs) (hs : w.ownsRow C 5 1 sn s.length (s.map byc)) (hr : w.ownsRow C 29 1 rv txs.length rvs) (hx : Txs w C rvs txs) :
    Calls Try.prog 15 #[.agg #[sn, rv], .pointer (some ⟨g, 0, none⟩)] w fun e w' => e = .returned (.bool true) ∧ Below w.heap.size w w' := by
  obtain ⟨sa, sc, rfl⟩ := wown_slice hs
  obtain ⟨ra, rc, rfl⟩ := wown_slice hr
  obtain ⟨W1, hW1⟩ : ∃ W1, w.alloc (.cells #[.slice sa s.length sc, .slice ra txs.length rc] 32) = W1 := ⟨_, rfl⟩
  have hb1 : Below w.heap.size w W1 := by rw [← hW1]; exact (Below.refl _ _).alloc (Nat.le_refl _) _
  have ht1 : Blk W1 w.heap.size 32 #[.slice sa s.length sc, .slice ra txs.length rc] := by rw [← hW1]; exact Blk.new _ _ _
  have hmn := hf.more
  have hto := told_any (h.later hb1) (by omega) (fun x hx => (hf.len.2.2 x hx).1)
  obtain ⟨m, hm⟩ : ∃ m, txs.length = m := ⟨_, rfl⟩
  obtain ⟨n, hn⟩ : ∃ n, s.length = n := ⟨_, rfl⟩
  rw [hm] at hto ht1 hr hmn
  try rw [hm] at hW1
  try rw [hm]
  rw [hn] at ht1 hs
  try rw [hn] at hW1
  try rw [hn]
  have HH := Lib.hid (And.intro h (And.intro hf (And.intro hs (And.intro hr (And.intro hx (And.intro hb1 (And.intro ht1 (And.intro hm hn))))))))
  clear h hf hs hr hx hb1 ht1 hm hn
  go_enter Try.func15, Try.ntmps15
  go_wp2_with fail
  refine hto.mono ?_
  rintro e W2 ⟨ov, ovs, rfl, ho, hox, hb2⟩
  clear hto hW1
  obtain ⟨oa, oc, rfl⟩ := wown_slice ho
  obtain ⟨h, hf, hs, hr, hx, hb1, ht1, hm, hn⟩ := HH.out
  have hb12 := bel_lat hb1 hb2
  have ht2 := ht1.kept (Kept.of_below [] hb2) (by simp)
  obtain ⟨S, hS⟩ : ∃ S : World → Prop, S = Below W2.heap.size W2 := ⟨_, rfl⟩
  have hS0 : S W2.drew := by rw [hS]; exact (Below.refl _ _).drew
  have L0 : ∀ w', S w' → w'.cell? ⟨w.heap.size, 0, none⟩ = some (.slice sa n sc) := fun w' h => by rw [hS] at h; exact (ht2.kept (Kept.of_below [] h) (by simp)).cell 0
  have L1 : ∀ w', S w' → w'.cell? ⟨w.heap.size, 1, none⟩ = some (.slice ra m rc) := fun w' h => by rw [hS] at h; exact (ht2.kept (Kept.of_below [] h) (by simp)).cell 1
  have hsnap : Calls Try.prog 20 #[.pointer (some ⟨g, 0, none⟩)] W2.drew fun e w' => ∃ va vc, e = .returned (.slice va n vc) ∧ Lies w' va s ∧ Below W2.drew.heap.size W2.drew w' := by
    obtain ⟨sv, tv, vs, q1, q2, q3, q4, q5⟩ := h.later hb12.drew
    obtain ⟨sva, svc, rfl, r1, r2, r3⟩ := own_bytes_lies q2 rfl
    refine (wsnap_any q1 r2 rfl hf.len.1 (fun h9 => ?_)).mono ?_
    · subst h9
      rcases q2.2 with ⟨_, h0⟩ | ⟨q, cap, cur, e1, _⟩
      · exact h0
      · cases e1
    · rintro e w' ⟨v, rfl, hv, hb⟩
      obtain ⟨va, vc, rfl, _, hL, _⟩ := own_bytes_lies hv rfl
      exact ⟨va, vc, by rw [hn], hL, hb⟩
  have hL2 : Lies W2 sa s := by
    obtain ⟨a', c', he, _, hL, _⟩ := own_bytes_lies hs hn
    simp only [Value.slice.injEq] at he
    obtain ⟨rfl, _, rfl⟩ := he
    exact hL.kept hb12
  have hBy := hf.len.2.1
  have heq := fun va vc w' (hL : Lies w' va s) (hL2 : Lies w' sa s) => bequal_any va sa n vc n sc s s w' hn hn hBy hBy hL hL2
  have H2 := Lib.hid (And.intro ho (And.intro hox (And.intro hb12 (And.intro ht2 (And.intro hL2 hS)))))
  clear h hf hs hr hx hb1 ht1 hm hn ho hox hb2 hb12 ht2 hL2 hS hBy
  go_wp2_with fail
  refine wp_region_linY S [12, 15] [0, 1, 2, 3, 4, 5, 6, 7, 8, 9, 10, 11, 13, 14, 12, 15, 16, 17] (by kernel_rfl) (by kernel_rfl) hS0 ?_
  (repeat (first | (refine linX_off rfl rfl (by rfl) ?_; (try simp only [Act.put, List.getElem_toArray, List.getElem_cons_zero, List.getElem_cons_succ, List.setIfInBounds_toArray, List.set_cons_zero, List.set_cons_succ])) | (refine linX_op (v := ?_) rfl rfl (by rfl) (fun w9 hS9 => ?_) ?_; rotate_left; (focus (((have k0 := L0 w9 hS9; have k1 := L1 w9 hS9; go_simp; (try go_bits)) <;> with_reducible rfl))); (try simp only [Act.put, List.getElem_toArray, List.getElem_cons_zero, List.getElem_cons_succ, List.setIfInBounds_toArray, List.set_cons_zero, List.set_cons_succ]))))
  refine linX_call (f := 20) (args := #[.pointer (some ⟨g, 0, none⟩)]) rfl rfl (by rfl) rfl rfl (enters_of Try.func20 (by kernel_rfl) rfl) ?_ ?_
  · simp [Act.eval]
  refine hsnap.mono ?_
  rintro e W3 ⟨va, vc, rfl, hL3, hb3⟩
  have hS3 : S W3 := by rw [H2.out.2.2.2.2.2]; exact (Below.refl W2.heap.size W2).drew.trans hb3
  refine ⟨_, rfl, hS3, ?_⟩
  (try simp only [Act.put, List.getElem_toArray, List.getElem_cons_zero, List.getElem_cons_succ, List.setIfInBounds_toArray, List.set_cons_zero, List.set_cons_succ])
  have heq3 := heq va vc W3 hL3 (H2.out.2.2.2.2.1.kept ((Below.refl W2.heap.size W2).drew.trans hb3))
  rw [show (s == s) = true from beq_self_eq_true s] at heq3
  refine linX_call (f := 33) (args := #[.slice va n vc, .slice sa n sc]) rfl rfl (by rfl) rfl rfl (enters_of Try.func33 (by kernel_rfl) rfl) ?_ ?_
  · simp [Act.eval]
  refine heq3.mono ?_
  rintro e w3 ⟨rfl, rfl⟩
  refine ⟨_, rfl, hS3, ?_⟩
  (try simp only [Act.put, List.getElem_toArray, List.getElem_cons_zero, List.getElem_cons_succ, List.setIfInBounds_toArray, List.set_cons_zero, List.set_cons_succ])
  (repeat (first | (refine linX_off rfl rfl (by rfl) ?_; (try simp only [Act.put, List.getElem_toArray, List.getElem_cons_zero, List.getElem_cons_succ, List.setIfInBounds_toArray, List.set_cons_zero, List.set_cons_succ])) | (refine linX_op (v := ?_) rfl rfl (by rfl) (fun w9 hS9 => ?_) ?_; rotate_left; (focus (((have k0 := L0 w9 hS9; have k1 := L1 w9 hS9; go_simp; (try go_bits)) <;> with_reducible rfl))); (try simp only [Act.put, List.getElem_toArray, List.getElem_cons_zero, List.getElem_cons_succ, List.setIfInBounds_toArray, List.set_cons_zero, List.set_cons_succ]))))
  refine linX_nil ?_
  have hb23 : Below W2.heap.size W2 W3 := (Below.refl W2.heap.size W2).drew.trans hb3
  have L03 := L0 W3 hS3
  have L13 := L1 W3 hS3
  obtain ⟨h, hf, hs, hr, hx, hb1, ht1, hm, hn⟩ := HH.out
  have hb03 := bel_lat H2.out.2.2.1 hb23
  have hse := sectors_any (n : Int)
  rw [secI_nat] at hse
  have hl3 := owns_later2 H2.out.1 hb23
  have h3 := Txs.imp (fun v l h => owns_later2 h hb23) H2.out.2.1
  have hr3 := owns_later2 hr hb03
  have hx3 := Txs.imp (fun v l h => owns_later2 h hb03) hx
  have hlf : ∀ w', Below W3.heap.size W3 w' → Calls Try.prog 25 #[.pointer (some ⟨g, 0, none⟩)] w' fun e w2 => e = .returned (.int .i64 ((12 : Int) - ((chainB t s txs).length : Int))) ∧ Below w'.heap.size w' w2 := fun w' hb => by
    obtain ⟨sv, tv, vs, q1, q2, q3, q4, q5⟩ := h.later (bel_lat hb03 hb)
    exact wleft_any q1 hf.c2 hf.fit (by decide)
  obtain ⟨SN, hSN⟩ : ∃ SN, secN n = SN := ⟨_, rfl⟩
  have hs0 : (chainB t s ([] : List (List Nat))).length = SN := by rw [chainB_one, frameB_len, hn, hSN]
  rw [hSN] at hse
  have H3 := Lib.hid (And.intro hf (And.intro hm (And.intro hb03 (And.intro hl3 (And.intro h3 (And.intro hr3 (And.intro hx3 (And.intro hs0 hlf))))))))
  clear h hf hs hr hx hb1 ht1 hm hn hb03 hb23 hl3 h3 hr3 hx3 hsnap heq heq3 hL3 hb3 hS3 L0 L1 hS0 hlf hs0 hSN
  go_wp2_with fail
  refine (hse _).mono ?_
  rintro e w3 ⟨rfl, rfl⟩
  clear hse
  go_wp2_with fail
  obtain ⟨U, hU⟩ : ∃ U : Nat → Nat, U = fun k => (chainB t s (txs.take k)).length := ⟨_, rfl⟩
  have hU0 : U 0 = SN := by rw [hU]; exact H3.out.2.2.2.2.2.2.2.1
  have hUm : U m = (chainB t s txs).length := by rw [hU, ← H3.out.2.1]; show (chainB t s (txs.take txs.length)).length = _; rw [List.take_length]
  have hUk : ∀ k, k < m → U (k + 1) = U k + secN (txs.getD k []).length ∧ (txs.getD k []).length ≤ 40000 ∧ Bys (txs.getD k []) ∧ U (k + 1) ≤ 12 := by
    intro k hk
    have hk2 : k < txs.length := by rw [H3.out.2.1]; exact hk
    have e : txs.take (k + 1) = txs.take k ++ [txs.getD k []] := by
      rw [List.take_add_one, List.getElem?_eq_getElem hk2, List.getD_eq_getElem?_getD, List.getElem?_eq_getElem hk2]; rfl
    have hmem : txs.getD k [] ∈ txs := by rw [List.getD_eq_getElem?_getD, List.getElem?_eq_getElem hk2]; exact List.getElem_mem hk2
    have e2 : U (k + 1) = U k + secN (txs.getD k []).length := by
      rw [hU]; show (chainB t s (txs.take (k + 1))).length = (chainB t s (txs.take k)).length + _
      rw [e, chainB_snoc, List.length_append, frameB_len]
    refine ⟨e2, (H3.out.1.len.2.2 _ hmem).1, (H3.out.1.len.2.2 _ hmem).2, ?_⟩
    have hfit := H3.out.1.fit
    have h9 : chainB t s txs = chainB t s (txs.take (k + 1)) ++ txsB t ((txs.take (k + 1)).length) (txs.drop (k + 1)) := chainB_split t s txs (k + 1)
    rw [h9, List.length_append] at hfit
    rw [hU]; show (chainB t s (txs.take (k + 1))).length ≤ 12
    omega
  have HU := Lib.hid (And.intro hU0 (And.intro hUm hUk))
  clear hU0 hUm hUk hU
  go_loopw [7, 39] (fun o i wr => ∃ k : Nat, k ≤ m ∧ i = .int .i64 k ∧ o = .int .i64 (U k : Int) ∧ wr = W3) (fun o i _ => m - (intOf i).toNat)
  case atStart => exact ⟨0, Nat.zero_le _, rfl, by rw [HU.out.1], rfl⟩
  case round =>
    obtain ⟨k, hk, rfl, rfl, rfl⟩ := hrel
    by_cases hlt : k < m
    · obtain ⟨v, v1, v2⟩ := txs_at (k := k) H3.out.2.2.2.2.1 (by rw [H3.out.2.1]; exact hlt)
      obtain ⟨z, z1, z2⟩ := txs_at (k := k) H3.out.2.2.2.2.2.2.1 (by rw [H3.out.2.1]; exact hlt)
      obtain ⟨u1, u2, u3, u4⟩ := HU.out.2.2 k hlt
      obtain ⟨q, hq⟩ : ∃ q, txs.getD k [] = q := ⟨_, rfl⟩
      rw [hq] at v2 z2 u1 u2 u3
      obtain ⟨len, hlen⟩ : ∃ len, q.length = len := ⟨_, rfl⟩
      obtain ⟨wa, wc, rfl, _, wL, _⟩ := own_bytes_lies v2 rfl
      obtain ⟨xa, xc, rfl, _, xL, _⟩ := own_bytes_lies z2 rfl
      have heq := bequal_any wa xa q.length wc q.length xc q q wr rfl rfl u3 u3 wL xL
      rw [show (q == q) = true from beq_self_eq_true q] at heq
      rw [hlen] at heq v1 z1 u1 u2
      have hse := sectors_any (len : Int) wr
      rw [secI_nat] at hse
      rcases H3.out.2.2.2.1.2 with h9 | ⟨og, ocap, ocur, o1, o2, o3, o4⟩
      · have : m = 0 := h9.2
        omega
      rcases H3.out.2.2.2.2.2.1.2 with h9 | ⟨rg, rcap, rcur, p1, p2, p3, p4⟩
      · have : m = 0 := h9.2
        omega
      have hoa : oa = some ⟨og, 0, none⟩ := by cases o1; rfl
      have hra : ra = some ⟨rg, 0, none⟩ := by cases p1; rfl
      subst hoa
      subst hra
      have co : wr.cell? ⟨og, k, none⟩ = some (.slice wa len wc) := by
        have := H3.out.2.2.2.1.cells (g := og) rfl k _ v1
        rw [Addr.add_lit] at this
        simpa using this
      have cr : wr.cell? ⟨rg, k, none⟩ = some (.slice xa len xc) := by
        have := H3.out.2.2.2.2.2.1.cells (g := rg) rfl k _ z1
        rw [Addr.add_lit] at this
        simpa using this
      obtain ⟨SL, hSL⟩ : ∃ SL, secN len = SL := ⟨_, rfl⟩
      rw [hSL] at hse u1
      have HK := Lib.hid (And.intro u1 u4)
      have hu4 : (U k : Int) + (SL : Int) ≤ 12 := by omega
      clear v1 v2 z1 z2 u1 u2 u3 u4 hq hlen wL xL o1 o2 o3 o4 p1 p2 p3 p4 hSL
      go_wp2_with fail
      refine heq.mono ?_
      rintro e w5 ⟨rfl, rfl⟩
      clear heq
      go_wp2_with fail
      refine hse.mono ?_
      rintro e w5 ⟨rfl, rfl⟩
      clear hse
      go_wp2_with fail
      go_roundw
      case rel => exact ⟨k + 1, by omega, by go_num, by rw [HK.out.1]; go_num, trivial⟩
      case measure => simp [intOf]; omega
    · obtain rfl : k = m := by omega
      have hlf := H3.out.2.2.2.2.2.2.2.2 wr (Below.refl _ _)
      have hum := HU.out.2.1
      rw [← hum] at hlf
      have hU12 : U k ≤ 12 := by rw [hum]; exact H3.out.1.fit
      have HB := Lib.hid H3.out.2.2.1
      go_wp2_with fail
      refine hlf.mono ?_
      rintro e w5 ⟨rfl, hb5⟩
      clear hlf
      have HB5 := Lib.hid hb5
      clear hb5 hum
      go_wp2_with fail
      go_ret
      exact ⟨rfl, bel_lat HB.out HB5.out⟩
end Go.Proofs.Ytelpihlifdfgoaa
namespace Go.Proofs.Ytelpihlifdfgoaa
open Go.ChangeShapes Go.WideShapes Go.ChangeAt Go.RowKit
set_option linter.unusedVariables false
theorem bsc_row : Try.prog.cellsOf 29 = 1 := by kernel_rfl
/-- Bytes at such a slice. -/
structure Bsl (w : World) (v : Value) (l : List Nat) : Prop where
  v : ∃ a cap, v = .slice a l.length cap ∧ Lies w a l ∧ l.length ≤ cap ∧ cap ≤ maxLen ∧ (a = none → l.length = 0)
  b : Bys l
/-- Rows of bytes at such a slice. -/
def Bss (w : World) (a : Option Addr) (ls : List (List Nat)) : Prop :=
  ls = [] ∨ ∃ x, a = some x ∧ ∀ (i : Nat) (l : List Nat), ls[i]? = some l → ∃ v, w.cell? (x.add i) = some v ∧ Bsl w v l
theorem bsl_of {H : Type} {enc : TypeId × Value → H} {W : World} {held : Bool} {fuel : Nat} {v : Value} {y : DataW H × List MemPlace} (h : DataW.trod enc Try.prog W 0 (fun _ => true) held fuel 29 [v] = some y) : ∃ l, Bsl W v l := by
  have hr : ∃ a len cap zs, v = .slice a len cap ∧ IsRow .u8 W a len cap zs ∧ cap ≤ maxLen := by
    rcases open_ints Try.underlying29 Try.underlying5 (by kernel_rfl) h with ⟨hcs, _⟩ | ⟨x, l, c, zs, hcs, _, hl, hm, hz, _, hcell, hwz⟩
    · obtain rfl : v = .slice none 0 0 := by injection hcs
      exact ⟨none, 0, 0, [], rfl, .inl ⟨rfl, rfl, rfl, rfl⟩, Nat.zero_le _⟩
    · obtain rfl : v = .slice (some x) l c := by injection hcs
      exact ⟨some x, l, c, zs, rfl, .inr ⟨_, rfl, hl, hm, by simpa using hz, hcell, hwz⟩, hm⟩
  obtain ⟨a, len, cap, zs, rfl, hR, hm⟩ := hr
  obtain ⟨l, hl, _, hL, hB⟩ := hR.bytes
  have hcap : len ≤ cap ∧ (a = none → len = 0) := by
    rcases hR with ⟨rfl, rfl, rfl, _⟩ | ⟨x, rfl, h1, _⟩
    · exact ⟨Nat.le_refl _, fun _ => rfl⟩
    · exact ⟨h1, fun h => by cases h⟩
  exact ⟨l, ⟨⟨a, cap, by rw [hl], hL, by rw [hl]; exact hcap.1, hm, by rw [hl]; exact hcap.2⟩, hB⟩⟩
theorem bss_of {H : Type} {enc : TypeId × Value → H} {W : World} {held : Bool} {a : Option Addr} {len cap : Nat} {d : DataW H} {p : List MemPlace} (h : DataW.Trod enc Try.prog W 0 (fun _ => true) held 30 (.slice a len cap) d p) :
    ∃ ls : List (List Nat), ls.length = len ∧ len ≤ 9223372036854775807 ∧ Bss W a ls := by
  obtain ⟨fuel, hf⟩ := h
  rcases Go.Deep.open_slice Try.underlying30 hf with ⟨hcs, _⟩ | ⟨x, len', cap', q, nn, Dt, Pl, hcs, _, hl, hm, hq, _, hi⟩
  · simp [Value.cells] at hcs
    obtain ⟨rfl, rfl, rfl⟩ := hcs
    exact ⟨[], rfl, by omega, .inl rfl⟩
  · simp [Value.cells] at hcs
    obtain ⟨rfl, rfl, rfl⟩ := hcs
    have hex : ∀ i, i < len → ∃ l v, W.cell? (x.add i) = some v ∧ Bsl W v l := by
      intro i hil
      obtain ⟨cs', hc', ht'⟩ := hi i (by rw [hq]; simp; omega)
      rw [bsc_row, Nat.mul_one] at hc'
      obtain ⟨_, hlen, hat⟩ := World.cells?_some hc'
      obtain ⟨v, rfl⟩ : ∃ v, cs' = [v] := by
        match cs', hlen with
        | [a], _ => exact ⟨a, rfl⟩
      obtain ⟨l, hl⟩ := bsl_of ht'
      refine ⟨l, v, ?_, hl⟩
      have h9 := hat 0 (by omega)
      rw [Go.Deep.add_add, Nat.add_zero] at h9
      rw [h9]; rfl
    obtain ⟨f, hf2⟩ : ∃ f : Nat → List Nat, ∀ i, i < len → ∃ v, W.cell? (x.add i) = some v ∧ Bsl W v (f i) :=
      ⟨fun i => if h : i < len then (hex i h).choose else [], fun i hil => by simp only [dif_pos hil]; exact (hex i hil).choose_spec⟩
    refine ⟨(List.range len).map f, by simp, by unfold maxLen at hm; omega, .inr ⟨x, rfl, fun i y hy => ?_⟩⟩
    have hil : i < len := by simpa using (List.getElem?_eq_some_iff.1 hy).1
    rw [List.getElem?_map, List.getElem?_range hil, Option.map_some] at hy
    injection hy with hy
    subst hy
    exact hf2 i hil
end Go.Proofs.Ytelpihlifdfgoaa
namespace Go.Proofs.Ytelpihlifdfgoaa
open Go.RowKit Go.Shelf
set_option linter.unusedVariables false
/-- The things that the law takes down lie in this box; their row is another one than the log's. -/
def Now (W : World) (C q : Nat) (s : List Nat) (txs : List (List Nat)) (sn rv : Value) (rvs : List Value) : Prop :=
  Blk W q 32 #[sn, rv] ∧ W.ownsRow C 5 1 sn s.length (s.map byc) ∧ W.ownsRow C 29 1 rv txs.length rvs ∧ Txs W C rvs txs
theorem things_far {W : World} {B p pb q : Nat} {bv : Value} {D : Dk} {cs : Array Value} (h : Dsk W B p pb bv D) (hq : Blk W q 32 cs) : q ∉ fp p pb bv := by
  intro hm
  simp only [fp, List.mem_cons, Option.mem_toList] at hm
  rcases hm with h9 | h9 | h9
  · exact hq.ne h.cells (by decide) h9
  · exact hq.ne h.plate (by decide) h9
  · rcases h.buf.2 with h8 | ⟨g, cap, cur, e1, e2, e3, e4⟩
    · rw [h8.1] at h9; cases h9
    · rw [e1] at h9
      obtain rfl : g = q := by simpa [Value.ownBlock] using h9
      unfold Blk at hq
      rw [e3] at hq
      have := Option.some.inj hq
      simp only [Obj.cells.injEq] at this
      exact absurd this.2.1 (by decide)
section
variable {C B p pb g q n N t c : Nat} {W W' : World} {s s' : List Nat} {txs txs' : List (List Nat)} {bv sv tv sn rv : Value} {vs rvs : List Value} {D : Dk} {f : Nat → Bk}
/-- What a call on the log leaves of the things. -/
theorem Now.beside (h : Now W C q s' txs' sn rv rvs) (hD : Dsk W B p pb bv D) (hL : LcX B W p g n t c s txs sv tv vs) (hap : ∀ i, rv.ownBlock = some i → tv.ownBlock ≠ some i) (k : Kept (g :: (tv.ownBlock.toList ++ fp p pb bv)) W W') : Now W' C q s' txs' sn rv rvs := by
  obtain ⟨h1, h2, h3, h4⟩ := h
  obtain ⟨l1, l2, l3, l4, l5⟩ := hL
  have u8 : ∀ (v : Value) (m : Nat) (xs : List Value), W.ownsRow C 5 1 v m xs → W'.ownsRow C 5 1 v m xs := fun v m xs h => own_far h k (fun i hi hm => by
    simp only [List.mem_cons, List.mem_append, Option.mem_toList] at hm
    rcases hm with h9 | h9 | h9
    · exact own_apart h hD l1 (.inl rfl) i hi (by simp [h9])
    · exact own_two h l3 (by decide) i hi h9
    · exact own_apart h hD l1 (.inl rfl) i hi (by simp [h9]))
  refine ⟨h1.kept k (fun hm => ?_), u8 _ _ _ h2, own_far h3 k (fun i hi hm => ?_), Txs.imp (fun v l h => u8 _ _ _ h) h4⟩
  · simp only [List.mem_cons, List.mem_append, Option.mem_toList] at hm
    rcases hm with h9 | h9 | h9
    · exact h1.ne l1 (by decide) h9
    · exact row_ne l3 h1 (by decide) h9
    · exact things_far hD h1 h9
  · simp only [List.mem_cons, List.mem_append, Option.mem_toList] at hm
    rcases hm with h9 | h9 | h9
    · exact own_apart h3 hD l1 (.inr rfl) i hi (by simp [h9])
    · exact hap i hi h9
    · exact own_apart h3 hD l1 (.inr rfl) i hi (by simp [h9])
theorem Now.later (h : Now W C q s' txs' sn rv rvs) (k : Below W.heap.size W W') : Now W' C q s' txs' sn rv rvs :=
  ⟨h.1.kept (Kept.of_below [] k) (by simp), owns_later2 h.2.1 k, owns_later2 h.2.2.1 k, Txs.imp (fun v l h => owns_later2 h k) h.2.2.2⟩
/-- What a store into the things' box leaves of the log. -/
theorem Lk.box (h : Lk B W p pb N bv D f) {cs : Array Value} (hq : Blk W q 32 cs) (k : Kept [q] W W') : Lk B W' p pb N bv D f :=
  ⟨h.1.apart k (fun i hi hm => things_far h.1 hq (by rw [← List.mem_singleton.1 hi]; exact hm)), h.2⟩
theorem LcX.box (h : LcX B W p g n t c s txs sv tv vs) {cs : Array Value} (hq : Blk W q 32 cs) (k : Kept [q] W W') : LcX B W' p g n t c s txs sv tv vs := by
  obtain ⟨h1, h2, h3, h4, h5⟩ := h
  have u8 : ∀ (e : TypeId) (v : Value) (m : Nat) (xs : List Value), e ≠ 32 → W.ownsRow B e 1 v m xs → W'.ownsRow B e 1 v m xs := fun e v m xs he h => own_far h k (fun i hi hm => by
    rw [List.mem_singleton.1 hm] at hi
    exact row_ne h hq (fun e' => he e'.symm) hi)
  exact ⟨h1.kept k (fun hm => h1.ne hq (by decide) (List.mem_singleton.1 hm)), u8 _ _ _ _ (by decide) h2, u8 _ _ _ _ (by decide) h3, Txs.imp (fun v l h => u8 _ _ _ _ (by decide) h) h4, h5⟩
end
/-- All that the law has behind so many rounds. -/
def Trn (W : World) (C B p pb g q k t : Nat) : Prop :=
  ∃ (bv : Value) (D : Dk) (f : Nat → Bk) (c : Nat) (s : List Nat) (txs : List (List Nat)) (sv tv : Value) (vs : List Value) (sn rv : Value) (rvs : List Value),
    Lk B W p pb 26 bv D f ∧ LogF f 12 t c s txs ∧ LcX B W p g 12 t c s txs sv tv vs ∧ Now W C q s txs sn rv rvs ∧ (∀ i, rv.ownBlock = some i → tv.ownBlock ≠ some i) ∧ t ≤ k + 1
theorem Bsl.later {W W' : World} {v : Value} {l : List Nat} (h : Bsl W v l) (k : Below W.heap.size W W') : Bsl W' v l := by
  obtain ⟨a, cap, h1, h2, h3⟩ := h.v
  exact ⟨⟨a, cap, h1, h2.kept k, h3⟩, h.b⟩
theorem cell_lt {W : World} {x : Addr} {v : Value} (h : W.cell? x = some v) : x.block < W.heap.size := by
  unfold World.cell? at h
  split at h
  · rename_i hh; exact (Array.getElem?_eq_some_iff.1 hh).1
  · cases h
/-- The i-th row, at a later world. -/
theorem Bss.at' {W W' : World} {a : Option Addr} {ls : List (List Nat)} (h : Bss W a ls) (k : Below W.heap.size W W') {i : Nat} (hi : i < ls.length) : ∃ b o v, a = some ⟨b, o, none⟩ ∧ W'.cell? ⟨b, o + i, none⟩ = some v ∧ Bsl W v ls[i] := by
  rcases h with h | ⟨x, h1, h2⟩
  · subst h; simp at hi
  · obtain ⟨b, o, sp⟩ := x
    obtain ⟨v, h3, h4⟩ := h2 i _ (List.getElem?_eq_getElem hi)
    obtain ⟨v0, h5, _⟩ := h2 0 _ (List.getElem?_eq_getElem (by omega))
    obtain rfl : sp = none := by simpa [Addr.add] using World.cell?_spot h5
    rw [Addr.add_lit] at h3
    exact ⟨b, o, v, h1, (k.cell (p := ⟨b, o + i, none⟩) (cell_lt h3)).trans h3, h4⟩
theorem store_deed_rule (p v : Value) : Instr.storeAt 35 p v = storeSem 35 p v := rfl
theorem st_deed {w : World} {g : Nat} {x0 x1 x2 x3 y0 y1 y2 y3 : Value} (h : Blk w g 35 #[x0, x1, x2, x3]) (h0 : y0.oneCell' = true) (h1 : y1.oneCell' = true) (h2 : y2.oneCell' = true) (h3 : y3.oneCell' = true) : (storeSem 35 (.pointer (some ⟨g, 0, none⟩)) (.agg #[y0, y1, y2, y3])).run Try.prog w = .ok () (w.setRow g #[y0, y1, y2, y3]) := by
  have S := storeRes_of (P := Try.prog) (ty := 35) (o := 0) (vs := #[y0, y1, y2, y3]) h (by simp) (s_deed _ _ _ _) (by simp [h0, h1, h2, h3])
  rwa [over_all (by simp)] at S
/-- A deed laid into a new box. -/
theorem st_deed_new (w : World) {y0 y1 y2 y3 : Value} (h0 : y0.oneCell' = true) (h1 : y1.oneCell' = true) (h2 : y2.oneCell' = true) (h3 : y3.oneCell' = true) : (storeSem 35 (.pointer (some ⟨w.heap.size, 0, none⟩)) (.agg #[y0, y1, y2, y3])).run Try.prog (w.alloc (.cells #[.int .i64 0, .int .i64 0, .slice none 0 0, .slice none 0 0] 35)) = .ok () (w.alloc (.cells #[y0, y1, y2, y3] 35)) := by
  have S := st_deed (Blk.new w 35 #[.int .i64 0, .int .i64 0, .slice none 0 0, .slice none 0 0]) h0 h1 h2 h3
  rwa [World.setRow_alloc_new] at S
theorem load_things_rule (v : Value) : Instr.loadAt 32 v = loadSem 32 v := rfl
theorem ld_things {w : World} {g : Nat} {x0 x1 : Value} (h : Blk w g 32 #[x0, x1]) : (loadSem 32 (.pointer (some ⟨g, 0, none⟩))).run Try.prog w = .ok (.agg #[x0, x1]) w :=
  loadRes_of (o := 0) h (fun j hj => by rw [Nat.zero_add]) _ Try.underlying32 rfl (s_things x0 x1)
end Go.Proofs.Ytelpihlifdfgoaa
namespace Go.Proofs.Ytelpihlifdfgoaa
open Go.RowKit Go.Shelf
set_option linter.unusedVariables false
theorem turns_k (every : Int) : ∃ kk : Nat, 1 ≤ kk ∧ kk ≤ 4 ∧ wrap64 (wrap64 ((IntKind.u64.wrap every).tmod 4) + 1) = (kk : Int) := by
  obtain ⟨x, hx⟩ : ∃ x : Int, IntKind.u64.wrap every = x ∧ 0 ≤ x := ⟨_, rfl, by rw [IntKind.wrap_u64]; omega⟩
  rw [hx.1]
  obtain ⟨y, rfl⟩ := Int.eq_ofNat_of_zero_le hx.2
  have e : ((y : Int)).tmod 4 = ((y % 4 : Nat) : Int) := by
    rw [Int.tmod_eq_emod_of_nonneg (by omega)]; omega
  rw [e]
  have h4 : y % 4 < 4 := Nat.mod_lt _ (by omega)
  refine ⟨y % 4 + 1, by omega, by omega, ?_⟩
  generalize y % 4 = z at *
  unfold wrap64
  omega
attribute [local go_sem ↓] load_deed_rule store_things_rule load_things_rule store_deed_rule
set_option maxRecDepth 100000 in
set_option maxHeartbeats 8000000 in
theorem wturns_walk (la : Option Addr) (n c : Nat) (ls : List (List Nat)) (every : Int) (W : World) (hn : ls.length = n) (hm : n ≤ 9223372036854775807) (hb : Bss W la ls) :
    Calls Try.prog 5 #[.slice la n c, .int .i64 every] W fun e w' => e = .returned (.bool true) ∧ Below W.heap.size W w' := by
  obtain ⟨kk, hk1, hk4, hkk⟩ := turns_k every
  have H0 := Lib.hid (And.intro hn (And.intro hm (And.intro hb (And.intro hk1 hk4))))
  clear hn hm hb hk1 hk4
  go_enter Try.func5, Try.ntmps5
  go_wp2_with fail
  refine (wakes4_any _).mono ?_
  rintro e W1 ⟨rfl, hb1⟩
  go_wp2_with fail
  refine (made_any _).mono ?_
  rintro e W2 ⟨g, p, pb, bv, D, f, rfl, hk, hf, hc, hb2⟩
  have H2 := Lib.hid (And.intro hk (And.intro hf (And.intro hc (And.intro (bel_lat hb1 hb2) hb1))))
  clear hk hf hc hb2 hb1
  obtain ⟨W3, hW3⟩ : ∃ W3, W2.alloc (.cells #[.slice none 0 0, .slice none 0 0] 32) = W3 := ⟨_, rfl⟩
  have hT3 : Trn W3 W.heap.size W1.heap.size p pb g W2.heap.size 0 1 := by
    obtain ⟨hk, hf, hc, hb02, hb1⟩ := H2.out
    have hb3 : Below W2.heap.size W2 W3 := by rw [← hW3]; exact (Below.refl _ _).alloc (Nat.le_refl _) _
    obtain ⟨sv, tv, vs, hx⟩ := hc
    exact ⟨bv, D, f, 0, [], [], sv, tv, vs, .slice none 0 0, .slice none 0 0, [], hk.later hb3, hf, LcX.later hx hb3, ⟨by rw [← hW3]; exact Blk.new _ _ _, World.ownsRow_nil _ _ _ _, World.ownsRow_nil _ _ _ _, trivial⟩, (fun i hi => by cases hi), by omega⟩
  have hb3 : Below W.heap.size W W3 := by
    rw [← hW3]; exact (H2.out.2.2.2.1).alloc (H2.out.2.2.2.1.size) _
  have hq1 : W1.heap.size ≤ W2.heap.size := by
    have := H2.out.1.1.plate.lt
    have := H2.out.2.2.1
    obtain ⟨sv, tv, vs, hx⟩ := this
    have := hx.1.lt
    have := hx.2.2.2.2
    omega
  have H3 := Lib.hid (And.intro hT3 (And.intro hb3 (And.intro hq1 H2.out.2.2.2.2.size)))
  clear hT3 hb3 hq1
  go_upto_block 0 with (fail)
  clear hW3
  try rw [hkk]
  go_cut [9, 10, 11, 12] from 28 (fun t9 x10 x11 x12 wc => ∃ k t : Nat, t9 = .int .u32 (t : Int) ∧ Trn wc W.heap.size W1.heap.size p pb g W2.heap.size k t ∧ Below W.heap.size W wc)
  case first =>
    go_wp2_with fail
    go_loopw [9, 30] (fun t9 i wr => ∃ k : Nat, k ≤ n ∧ k ≤ 40 ∧ i = .int .i64 k ∧ ∃ t : Nat, t9 = .int .u32 (t : Int) ∧ Trn wr W.heap.size W1.heap.size p pb g W2.heap.size k t ∧ Below W.heap.size W wr) (fun t9 i _ => n - (intOf i).toNat)
    case atStart => exact ⟨0, Nat.zero_le _, by omega, rfl, 1, rfl, H3.out.1, H3.out.2.1⟩
    case round =>
      obtain ⟨k, hk, hk40, rfl, t, rfl, hT, hbw⟩ := hrel
      by_cases hlt : k < n
      · by_cases h40 : k = 40
        · subst h40
          obtain ⟨hn, hm, hb, hk1, hk4⟩ := H0.out
          obtain ⟨xb, xo, v, rfl, hxc, hxb⟩ := hb.at' hbw (i := 40) (by omega)
          obtain ⟨⟨a, cap, rfl, _⟩, _⟩ := hxb
          generalize ls[40].length = len at hxc
          have HE := Lib.hid (And.intro hT hbw)
          clear hT hbw
          go_wp2_with fail
          go_meet
          exact ⟨_, t, rfl, HE.out⟩
        · have hkI : ¬ ((k : Int) = 40) := by omega
          obtain ⟨hn, hm, hb, hk1, hk4⟩ := H0.out
          obtain ⟨xb, xo, v, rfl, hxc, hxb⟩ := hb.at' hbw (i := k) (by omega)
          generalize hl : ls[k] = l at hxb
          obtain ⟨⟨a, cap, rfl, hL0, hlc, hcm, h0⟩, hBy⟩ := hxb
          have hcm : cap ≤ 9223372036854775807 := by unfold maxLen at hcm; omega
          have HLW := Lib.hid (show ∀ w', Below W.heap.size W w' → Lies w' a l from fun w' h => hL0.kept h)
          have hL := hL0.kept hbw
          clear hL0
          obtain ⟨len, hlen⟩ : ∃ len, l.length = len := ⟨_, rfl⟩
          rw [hlen] at hxc
          obtain ⟨W5, hW5⟩ : ∃ W5, wr.alloc (.cells #[.int .i64 0, .int .i64 0, .slice a len cap, .slice none 0 0] 35) = W5 := ⟨_, rfl⟩
          have S5 := st_deed_new wr (y0 := .int .i64 0) (y1 := .int .i64 0) (y2 := .slice a len cap) (y3 := .slice none 0 0) rfl rfl rfl rfl
          rw [hW5] at S5
          have hb5 : Below wr.heap.size wr W5 := by rw [← hW5]; exact (Below.refl _ _).alloc (Nat.le_refl _) _
          have hd5 : Blk W5 wr.heap.size 35 #[.int .i64 0, .int .i64 0, .slice a len cap, .slice none 0 0] := by rw [← hW5]; exact Blk.new _ _ _
          have em : (k : Int).tmod (kk : Int) = ((k % kk : Nat) : Int) := by
            rw [Int.tmod_eq_emod_of_nonneg (by omega)]; omega
          have hkk0 : ¬ ((kk : Int) = 0) := by omega
          obtain ⟨r, hr⟩ : ∃ r, k % kk = r := ⟨_, rfl⟩
          rw [hr] at em
          have hr4 : r < 4 := by have := Nat.mod_lt k (show kk > 0 by omega); omega
          have hwr : wrap64 (r : Int) = (r : Int) := by unfold wrap64; omega
          have HX := Lib.hid (And.intro hT (And.intro hbw (And.intro hL (And.intro hlc (And.intro hcm (And.intro h0 (And.intro hBy (And.intro hlen (And.intro hb5 hd5)))))))))
          have HK := Lib.hid (And.intro hr hr4)
          clear hT hbw hL hlc hcm h0 hBy hlen hb5 hd5 hb hn hm hk1 hk4 hl hr hr4
          obtain ⟨⟨bv, D, f, ch, s, txs, sv, tv, vs, sn, rv, rvs, hk, hf, hx, hno, hap, htk⟩, hbw, hL, hlc, hcm, h0, hBy, hlen, hb5, hd5⟩ := HX.out
          obtain ⟨⟨bv, D, f, ch, s, txs, sv, tv, vs, sn, rv, rvs, hk, hf, hx, hno, hap, htk⟩, hbw, hL, hlc, hcm, h0, hBy, hlen, hb5, hd5⟩ := HX.out
          obtain ⟨q, hq⟩ : ∃ q, l.take 400 = q := ⟨_, rfl⟩
          obtain ⟨mq, hmq⟩ : ∃ m, q.length = m := ⟨_, rfl⟩
          have HT := Lib.hid (And.intro hk (And.intro hf (And.intro hx (And.intro hno (And.intro hap (And.intro htk (And.intro hq hmq)))))))
          clear hq hmq
          obtain ⟨⟨bv, D, f, ch, s, txs, sv, tv, vs, sn, rv, rvs, hk, hf, hx, hno, hap, htk⟩, hbw, hL, hlc, hcm, h0, hBy, hlen, hb5, hd5⟩ := HX.out
          obtain ⟨q, hq⟩ : ∃ q, l.take 400 = q := ⟨_, rfl⟩
          obtain ⟨mq, hmq⟩ : ∃ m, q.length = m := ⟨_, rfl⟩
          have HT := Lib.hid (And.intro hk (And.intro hf (And.intro hx (And.intro hno (And.intro hap (And.intro htk (And.intro hq hmq)))))))
          clear hq hmq
          obtain ⟨⟨bv, D, f, ch, s, txs, sv, tv, vs, sn, rv, rvs, hk, hf, hx, hno, hap, htk⟩, hbw, hL, hlc, hcm, h0, hBy, hlen, hb5, hd5⟩ := HX.out
          obtain ⟨q, hq⟩ : ∃ q, l.take 400 = q := ⟨_, rfl⟩
          obtain ⟨mq, hmq⟩ : ∃ m, q.length = m := ⟨_, rfl⟩
          have HT := Lib.hid (And.intro hk (And.intro hf (And.intro hx (And.intro hno (And.intro hap (And.intro htk (And.intro hq hmq)))))))
          clear hq hmq
          by_cases hr0 : r = 0
          · subst hr0
            have hbV := hb5
            have hdV := hd5

            have c0 : W5.cell? ⟨wr.heap.size, 0, none⟩ = some (.int .i64 0) := hdV.cell 0
            have f0 := hdV.free 0
            obtain ⟨W6, hW6⟩ : ∃ W6, W5.setCell ⟨wr.heap.size, 0, none⟩ (.int .i64 4) = W6 := ⟨_, rfl⟩
            have hb6 : Below wr.heap.size wr W6 := by rw [← hW6]; exact hbV.setCell (Nat.le_refl _) _
            have hd6 : Blk W6 wr.heap.size 35 #[.int .i64 4, .int .i64 0, .slice a len cap, .slice none 0 0] := by rw [← hW6]; exact hdV.set 0 _
            have ld6 := ld_deed hd6
            have ht9 : t ≤ 41 := by omega
            have hwt : IntKind.u32.wrap ((t : Int) + 1) = (t : Int) + 1 := by rw [IntKind.wrap_u32]; omega
            have hm4 : (l.take 400).length ≤ 400 := by rw [List.length_take]; omega
            have hs4 : secN (l.take 400).length ≤ 12 := by
              unfold secN
              split
              · omega
              · split <;> omega
            have hwr := writes_chk (hk.later hb6) (hx.later hb6) hf (by omega) (Nat.le_trans (Nat.le_of_lt (Nat.lt_of_le_of_lt hx.2.2.2.2 hx.1.lt)) hb6.size) (.int .i64 0) (.slice none 0 0) a len cap l (hL.kept hb6) hlen (by rw [← hlen]; exact hlc) (by rw [← hlen]; exact h0) hcm hBy hs4 (by omega)
            have HV := Lib.hid (And.intro hb6 (And.intro hd6 (And.intro (hk.later hb6) (And.intro (hx.later hb6) (And.intro (hno.later hb6) (And.intro hap (And.intro htk (And.intro hf (And.intro hk hx)))))))))
            clear hk hf hx hno hap htk hbw hL hlc hcm h0 hBy hlen hb5 hd5 hbV hdV hb6 hd6 hm4 hs4 ht9
            go_wp2_with fail
            refine hwr.mono ?_
            rintro e W7 ⟨rfl, ⟨bv', D', f', hk7, hf7, hc7⟩, hbb7, hkk7⟩
            obtain ⟨sv', tv', vs', hx7⟩ := hc7
            obtain ⟨_, _, _, _, _, _, hq, hmq⟩ := HT.out
            rw [hq] at hf7 hx7
            have htn := wturn_any hx7.1
            rw [show ((t + 1 : Nat) : Int) = (t : Int) + 1 by omega] at htn
            obtain ⟨hb6, hd6, hk6, hx6, hno6, hap, htk, hf, hk, hx⟩ := HV.out
            have hno7 := hno6.beside hk6.1 hx6 hap (hkk7.more (fun i hi => by
              rcases List.mem_cons.1 hi with h9 | h9
              · simp [h9]
              · simp [h9]))
            have hd7 : Blk W7 wr.heap.size 35 #[.int .i64 4, .int .i64 0, .slice a len cap, .slice none 0 0] := hd6.kept hkk7 (fun hm => by
              rcases List.mem_cons.1 hm with h9 | h9
              · have := hx.1.lt; omega
              · have := fp_lt hk.1 _ h9; omega)
            have hb07 : Below W.heap.size W W7 := (HX.out.2.1.trans (hb6.mono HX.out.2.1.size)).trans (hbb7.mono H3.out.2.2.2)
            have hL7 : Lies W7 a l := (HLW.out W7 hb07)
            have ld7 := ld_deed hd7
            have lt7 := ld_things hno7.1
            have h4 := with4_any (.int .i64 0) (.slice none 0 0) a len cap l sn rv W7 hL7 HX.out.2.2.2.2.2.2.2.1 (by rw [← HX.out.2.2.2.2.2.2.2.1]; exact HX.out.2.2.2.1) (by rw [← HX.out.2.2.2.2.2.2.2.1]; exact HX.out.2.2.2.2.2.1) HX.out.2.2.2.2.1
            rw [hq, hmq] at h4
            have H7 := Lib.hid (And.intro hk7 (And.intro hf7 (And.intro hx7 (And.intro hno7 (And.intro hb07 htk)))))
            clear hq hmq hk7 hf7 hx7 hno7 hb07 hbb7 hkk7 hd7 hb6 hd6 hk6 hx6 hno6 hap htk hf hk hx hL7 hwr ld6
            go_wp2_with fail
            refine htn.mono ?_
            rintro e w9 ⟨rfl, rfl⟩
            clear htn
            go_wp2_with fail
            refine h4.mono ?_
            rintro e W8 ⟨v, rfl, hown, hb8⟩
            clear h4 ld7 lt7
            obtain ⟨va, vc, rfl⟩ := wown_slice hown
            obtain ⟨hk7, hf7, hx7, hno7, hb07, htk⟩ := H7.out
            obtain ⟨_, _, _, _, _, _, _, hmq⟩ := HT.out
            have hq8 := hno7.1.kept (Kept.of_below [] hb8) (by simp)
            have hst := st_things (y0 := .slice va mq vc) (y1 := .slice none 0 0) hq8 rfl rfl
            obtain ⟨W9, hW9⟩ : ∃ W9, W8.setRow W2.heap.size #[.slice va mq vc, .slice none 0 0] = W9 := ⟨_, rfl⟩
            rw [hW9] at hst
            have hk9 : Kept [W2.heap.size] W8 W9 := by rw [← hW9]; exact (Kept.refl _ _).setRow (.inl (by simp)) _
            have hq9 : Blk W9 W2.heap.size 32 #[.slice va mq vc, .slice none 0 0] := by rw [← hW9]; exact hq8.row _
            have hT9 : Trn W9 W.heap.size W1.heap.size p pb g W2.heap.size (k + 1) (t + 1) := by
              refine ⟨bv', D', f', 1 - ch, q, [], sv', tv', vs', .slice va mq vc, .slice none 0 0, [], (hk7.later hb8).box hq8 hk9, hf7, (LcX.later hx7 hb8).box hq8 hk9, ⟨hq9, by rw [hmq]; exact own_base (own_far hown hk9 (fun i hi hm => row_ne hown hq8 (by decide) (by rw [List.mem_singleton.1 hm] at hi; exact hi))) hb07.size, World.ownsRow_nil _ _ _ _, trivial⟩, (fun i hi => by cases hi), by omega⟩
            have hb9 : Below W.heap.size W W9 := (hb07.trans (hb8.mono hb07.size)).trans (hk9.below (fun i hi => by rw [List.mem_singleton.1 hi]; exact Nat.le_trans H3.out.2.2.2 H3.out.2.2.1) (Nat.le_trans hb07.size hb8.size))
            clear hmq
            have HE := Lib.hid (And.intro hT9 hb9)
            clear hk7 hf7 hx7 hno7 hb07 htk hq8 hW9 hk9 hq9 hT9 hb9 hown hb8
            go_wp2_with fail
            go_roundw
            case rel => exact ⟨k + 1, by omega, by omega, by go_num, t + 1, by push_cast; rfl, HE.out.1, HE.out.2⟩
            case measure => simp [intOf]; omega
          · have hrI : ¬ ((r : Int) = 0) := by omega
            have ld5 := ld_deed hd5
            have hm4 : (l.take 400).length ≤ 400 := by rw [List.length_take]; omega
            have hdb := dbytes_any (.int .i64 0) (.int .i64 0) (.slice none 0 0) a len cap l W5 (hL.kept hb5) hlen (by rw [← hlen]; exact hlc) (by rw [← hlen]; exact h0) hcm
            obtain ⟨m, hmm⟩ : ∃ m, (l.take 400).length = m := ⟨_, rfl⟩
            rw [hmm] at hdb hm4
            have hse := sectors_any (m : Int)
            rw [secI_nat] at hse
            have hlf : ∀ w', Below wr.heap.size wr w' → Calls Try.prog 25 #[.pointer (some ⟨g, 0, none⟩)] w' fun e w2 => e = .returned (.int .i64 ((12 : Int) - ((chainB t s txs).length : Int))) ∧ Below w'.heap.size w' w2 := fun w' hb => wleft_any (hx.later hb).1 hf.c2 hf.fit (by decide)
            obtain ⟨U, hU⟩ : ∃ U, (chainB t s txs).length = U := ⟨_, rfl⟩
            have hU12 : U ≤ 12 := by rw [← hU]; exact hf.fit
            rw [hU] at hlf
            obtain ⟨SM, hSM⟩ : ∃ SM, secN m = SM := ⟨_, rfl⟩
            rw [hSM] at hse
            have HQ := Lib.hid (And.intro hmm (And.intro hU (And.intro hSM (And.intro hlf (And.intro hm4 (And.intro hd5 hb5))))))
            clear hk hf hx hno hap htk hbw hL hlc hcm h0 hBy hlen hb5 hd5 hmm hU hSM hlf hm4
            go_wp2_with fail
            refine hdb.mono ?_
            rintro e Y1 ⟨v, rfl, hown, hby⟩
            obtain ⟨va, vc, rfl⟩ := wown_slice hown
            have hlfY := HQ.out.2.2.2.1 Y1 (bel_lat HQ.out.2.2.2.2.2.2 hby)
            have HY := Lib.hid hby
            clear hdb hown hby ld5
            go_wp2_with fail
            refine (hse _).mono ?_
            rintro e w9 ⟨rfl, rfl⟩
            clear hse
            go_wp2_with fail
            refine hlfY.mono ?_
            rintro e Y2 ⟨rfl, hby2⟩
            clear hlfY
            have hby2 := HY.out.trans (hby2.mono HY.out.size)
            obtain ⟨hmm, hU, hSM, _, hm4, hd5, hb5⟩ := HQ.out
            have hbV : Below wr.heap.size wr Y2 := bel_lat hb5 hby2
            have hdV := hd5.kept (Kept.of_below [] hby2) (by simp)
            by_cases hful : 12 - U < SM
            · have hfI : (12 : Int) - (U : Int) < (SM : Int) := by omega
              clear hmm hU hSM hm4
              obtain ⟨hk, hf, hx, hno, hap, htk, _, _⟩ := HT.out
              obtain ⟨hbw, hL, hlc, hcm, h0, hBy, hlen, hb5, hd5⟩ := HX.out.2

              have c0 : Y2.cell? ⟨wr.heap.size, 0, none⟩ = some (.int .i64 0) := hdV.cell 0
              have f0 := hdV.free 0
              obtain ⟨W6, hW6⟩ : ∃ W6, Y2.setCell ⟨wr.heap.size, 0, none⟩ (.int .i64 4) = W6 := ⟨_, rfl⟩
              have hb6 : Below wr.heap.size wr W6 := by rw [← hW6]; exact hbV.setCell (Nat.le_refl _) _
              have hd6 : Blk W6 wr.heap.size 35 #[.int .i64 4, .int .i64 0, .slice a len cap, .slice none 0 0] := by rw [← hW6]; exact hdV.set 0 _
              have ld6 := ld_deed hd6
              have ht9 : t ≤ 41 := by omega
              have hwt : IntKind.u32.wrap ((t : Int) + 1) = (t : Int) + 1 := by rw [IntKind.wrap_u32]; omega
              have hm4 : (l.take 400).length ≤ 400 := by rw [List.length_take]; omega
              have hs4 : secN (l.take 400).length ≤ 12 := by
                unfold secN
                split
                · omega
                · split <;> omega
              have hwr := writes_chk (hk.later hb6) (hx.later hb6) hf (by omega) (Nat.le_trans (Nat.le_of_lt (Nat.lt_of_le_of_lt hx.2.2.2.2 hx.1.lt)) hb6.size) (.int .i64 0) (.slice none 0 0) a len cap l (hL.kept hb6) hlen (by rw [← hlen]; exact hlc) (by rw [← hlen]; exact h0) hcm hBy hs4 (by omega)
              have HV := Lib.hid (And.intro hb6 (And.intro hd6 (And.intro (hk.later hb6) (And.intro (hx.later hb6) (And.intro (hno.later hb6) (And.intro hap (And.intro htk (And.intro hf (And.intro hk hx)))))))))
              clear hk hf hx hno hap htk hbw hL hlc hcm h0 hBy hlen hb5 hd5 hbV hdV hb6 hd6 hm4 hs4 ht9
              go_wp2_with fail
              refine hwr.mono ?_
              rintro e W7 ⟨rfl, ⟨bv', D', f', hk7, hf7, hc7⟩, hbb7, hkk7⟩
              obtain ⟨sv', tv', vs', hx7⟩ := hc7
              obtain ⟨_, _, _, _, _, _, hq, hmq⟩ := HT.out
              rw [hq] at hf7 hx7
              have htn := wturn_any hx7.1
              rw [show ((t + 1 : Nat) : Int) = (t : Int) + 1 by omega] at htn
              obtain ⟨hb6, hd6, hk6, hx6, hno6, hap, htk, hf, hk, hx⟩ := HV.out
              have hno7 := hno6.beside hk6.1 hx6 hap (hkk7.more (fun i hi => by
                rcases List.mem_cons.1 hi with h9 | h9
                · simp [h9]
                · simp [h9]))
              have hd7 : Blk W7 wr.heap.size 35 #[.int .i64 4, .int .i64 0, .slice a len cap, .slice none 0 0] := hd6.kept hkk7 (fun hm => by
                rcases List.mem_cons.1 hm with h9 | h9
                · have := hx.1.lt; omega
                · have := fp_lt hk.1 _ h9; omega)
              have hb07 : Below W.heap.size W W7 := (HX.out.2.1.trans (hb6.mono HX.out.2.1.size)).trans (hbb7.mono H3.out.2.2.2)
              have hL7 : Lies W7 a l := (HLW.out W7 hb07)
              have ld7 := ld_deed hd7
              have lt7 := ld_things hno7.1
              have h4 := with4_any (.int .i64 0) (.slice none 0 0) a len cap l sn rv W7 hL7 HX.out.2.2.2.2.2.2.2.1 (by rw [← HX.out.2.2.2.2.2.2.2.1]; exact HX.out.2.2.2.1) (by rw [← HX.out.2.2.2.2.2.2.2.1]; exact HX.out.2.2.2.2.2.1) HX.out.2.2.2.2.1
              rw [hq, hmq] at h4
              have H7 := Lib.hid (And.intro hk7 (And.intro hf7 (And.intro hx7 (And.intro hno7 (And.intro hb07 htk)))))
              clear hq hmq hk7 hf7 hx7 hno7 hb07 hbb7 hkk7 hd7 hb6 hd6 hk6 hx6 hno6 hap htk hf hk hx hL7 hwr ld6
              go_wp2_with fail
              refine htn.mono ?_
              rintro e w9 ⟨rfl, rfl⟩
              clear htn
              go_wp2_with fail
              refine h4.mono ?_
              rintro e W8 ⟨v, rfl, hown, hb8⟩
              clear h4 ld7 lt7
              obtain ⟨va, vc, rfl⟩ := wown_slice hown
              obtain ⟨hk7, hf7, hx7, hno7, hb07, htk⟩ := H7.out
              obtain ⟨_, _, _, _, _, _, _, hmq⟩ := HT.out
              have hq8 := hno7.1.kept (Kept.of_below [] hb8) (by simp)
              have hst := st_things (y0 := .slice va mq vc) (y1 := .slice none 0 0) hq8 rfl rfl
              obtain ⟨W9, hW9⟩ : ∃ W9, W8.setRow W2.heap.size #[.slice va mq vc, .slice none 0 0] = W9 := ⟨_, rfl⟩
              rw [hW9] at hst
              have hk9 : Kept [W2.heap.size] W8 W9 := by rw [← hW9]; exact (Kept.refl _ _).setRow (.inl (by simp)) _
              have hq9 : Blk W9 W2.heap.size 32 #[.slice va mq vc, .slice none 0 0] := by rw [← hW9]; exact hq8.row _
              have hT9 : Trn W9 W.heap.size W1.heap.size p pb g W2.heap.size (k + 1) (t + 1) := by
                refine ⟨bv', D', f', 1 - ch, q, [], sv', tv', vs', .slice va mq vc, .slice none 0 0, [], (hk7.later hb8).box hq8 hk9, hf7, (LcX.later hx7 hb8).box hq8 hk9, ⟨hq9, by rw [hmq]; exact own_base (own_far hown hk9 (fun i hi hm => row_ne hown hq8 (by decide) (by rw [List.mem_singleton.1 hm] at hi; exact hi))) hb07.size, World.ownsRow_nil _ _ _ _, trivial⟩, (fun i hi => by cases hi), by omega⟩
              have hb9 : Below W.heap.size W W9 := (hb07.trans (hb8.mono hb07.size)).trans (hk9.below (fun i hi => by rw [List.mem_singleton.1 hi]; exact Nat.le_trans H3.out.2.2.2 H3.out.2.2.1) (Nat.le_trans hb07.size hb8.size))
              clear hmq
              have HE := Lib.hid (And.intro hT9 hb9)
              clear hk7 hf7 hx7 hno7 hb07 htk hq8 hW9 hk9 hq9 hT9 hb9 hown hb8
              go_wp2_with fail
              go_roundw
              case rel => exact ⟨k + 1, by omega, by omega, by go_num, t + 1, by push_cast; rfl, HE.out.1, HE.out.2⟩
              case measure => simp [intOf]; omega
            · have hfI : ¬ ((12 : Int) - (U : Int) < (SM : Int)) := by omega
              have hdI : decide ((12 : Int) - (U : Int) < (SM : Int)) = false := decide_eq_false hfI
              have hfit0 : (chainB t s txs).length + secN (l.take 400).length ≤ 12 := by rw [hU, hmm, hSM]; omega
              clear hmm hU hSM hm4
              obtain ⟨hk, hf, hx, hno, hap, htk, _, _⟩ := HT.out
              obtain ⟨hbw, hL, hlc, hcm, h0, hBy, hlen, hb5, hd5⟩ := HX.out.2
              have hfit := hfit0

              have ldV := ld_deed hdV
              have hmx := hf.more
              have hwr := writes_app (hk.later hbV) (hx.later hbV) hf (by omega) (Nat.le_trans (Nat.le_of_lt (Nat.lt_of_le_of_lt hx.2.2.2.2 hx.1.lt)) hbV.size) (.int .i64 0) (.slice none 0 0) a len cap l (hL.kept hbV) hlen (by rw [← hlen]; exact hlc) (by rw [← hlen]; exact h0) hcm hBy hfit
              have HV := Lib.hid (And.intro hbV (And.intro hdV (And.intro (hk.later hbV) (And.intro (hx.later hbV) (And.intro (hno.later hbV) (And.intro hap (And.intro htk (And.intro hf (And.intro hk (And.intro hx hmx))))))))))
              clear hk hf hx hno hap htk hbw hL hlc hcm h0 hBy hlen hb5 hd5 hbV hdV hfit hmx
              go_wp2_with fail
              refine hwr.mono ?_
              rintro e W7 ⟨rfl, ⟨bv', D', f', hk7, hf7, hc7⟩, hbb7, hkk7⟩
              obtain ⟨sv', tv', vs', hx7⟩ := hc7
              obtain ⟨_, _, _, _, _, _, hq, hmq⟩ := HT.out
              rw [hq] at hf7 hx7
              have htn := wturn_any hx7.1
              obtain ⟨hb6, hd6, hk6, hx6, hno6, hap, htk, hf, hk, hx, hmx⟩ := HV.out
              have hno7 := hno6.beside hk6.1 hx6 hap hkk7
              have hd7 : Blk W7 wr.heap.size 35 #[.int .i64 0, .int .i64 0, .slice a len cap, .slice none 0 0] := hd6.kept hkk7 (fun hm => by
                simp only [List.mem_cons, List.mem_append, Option.mem_toList] at hm
                rcases hm with h9 | h9 | h9
                · have := hx.1.lt; omega
                · have := own_lt hx.2.2.1 _ h9; omega
                · have := fp_lt hk.1 _ h9; omega)
              have hb07 : Below W.heap.size W W7 := (HX.out.2.1.trans (hb6.mono HX.out.2.1.size)).trans (hbb7.mono H3.out.2.2.2)
              have hL7 : Lies W7 a l := (HLW.out W7 hb07)
              have ld7 := ld_deed hd7
              obtain ⟨sa, sc, rfl⟩ := wown_slice hno7.2.1
              obtain ⟨ra, rc, rfl⟩ := wown_slice hno7.2.2.1
              have lt7 := ld_things hno7.1
              have h4 := with0_any (.int .i64 0) (.slice none 0 0) a len cap l sa s.length sc W7 hL7 HX.out.2.2.2.2.2.2.2.1 (by rw [← HX.out.2.2.2.2.2.2.2.1]; exact HX.out.2.2.2.1) (by rw [← HX.out.2.2.2.2.2.2.2.1]; exact HX.out.2.2.2.2.2.1) HX.out.2.2.2.2.1 hno7.2.2.1 (by omega)
              rw [hq, hmq] at h4
              have H7 := Lib.hid (And.intro hk7 (And.intro hf7 (And.intro hx7 (And.intro hno7 (And.intro hb07 htk)))))
              clear hq hmq hk7 hf7 hx7 hno7 hb07 hbb7 hkk7 hd7 hb6 hd6 hk6 hx6 hno6 hap htk hf hk hx hL7 hwr ldV hmx
              go_wp2_with fail
              refine htn.mono ?_
              rintro e w9 ⟨rfl, rfl⟩
              clear htn
              go_wp2_with fail
              refine h4.mono ?_
              rintro e W8 ⟨v, rv', rfl, hown, hrow, hb8⟩
              clear h4 ld7 lt7
              obtain ⟨va, vc, rfl⟩ := wown_slice hown
              obtain ⟨wa, wc, rfl⟩ := wown_slice hrow
              obtain ⟨hk7, hf7, hx7, hno7, hb07, htk⟩ := H7.out
              obtain ⟨_, _, _, _, _, _, _, hmq⟩ := HT.out
              have hq8 := hno7.1.kept (Kept.of_below [] hb8) (by simp)
              have hst := st_things (y0 := .slice sa s.length sc) (y1 := .slice wa (txs.length + 1) wc) hq8 rfl rfl
              obtain ⟨W9, hW9⟩ : ∃ W9, W8.setRow W2.heap.size #[.slice sa s.length sc, .slice wa (txs.length + 1) wc] = W9 := ⟨_, rfl⟩
              rw [hW9] at hst
              have hk9 : Kept [W2.heap.size] W8 W9 := by rw [← hW9]; exact (Kept.refl _ _).setRow (.inl (by simp)) _
              have hq9 : Blk W9 W2.heap.size 32 #[.slice sa s.length sc, .slice wa (txs.length + 1) wc] := by rw [← hW9]; exact hq8.row _
              have hof : ∀ (e : TypeId) (v : Value) (B m : Nat) (xs : List Value), e ≠ 32 → W8.ownsRow B e 1 v m xs → W9.ownsRow B e 1 v m xs := fun e v B m xs he h => own_far h hk9 (fun i hi hm => row_ne h hq8 (fun e' => he e'.symm) (by rw [List.mem_singleton.1 hm] at hi; exact hi))
              have hT9 : Trn W9 W.heap.size W1.heap.size p pb g W2.heap.size (k + 1) t := by
                refine ⟨bv', D', f', ch, s, txs ++ [q], sv', tv', vs', .slice sa s.length sc, .slice wa (txs.length + 1) wc, rvs ++ [.slice va mq vc], (hk7.later hb8).box hq8 hk9, hf7, (LcX.later hx7 hb8).box hq8 hk9, ⟨hq9, hof _ _ _ _ _ (by decide) (owns_later2 hno7.2.1 hb8), ?_, Txs.snoc (by rw [hmq]; exact own_base (hof _ _ _ _ _ (by decide) hown) hb07.size) (Txs.imp (fun v l h => hof _ _ _ _ _ (by decide) (owns_later2 h hb8)) hno7.2.2.2)⟩, (fun i hi hi2 => ?_), by omega⟩
                · rw [List.length_append]
                  exact own_base (hof _ _ _ _ _ (by decide) hrow) hb07.size
                · have h1 := own_ge hrow i hi
                  have h2 := own_lt hx7.2.2.1 i hi2
                  omega
              have hb9 : Below W.heap.size W W9 := (hb07.trans (hb8.mono hb07.size)).trans (hk9.below (fun i hi => by rw [List.mem_singleton.1 hi]; exact Nat.le_trans H3.out.2.2.2 H3.out.2.2.1) (Nat.le_trans hb07.size hb8.size))
              clear hmq
              have HE := Lib.hid (And.intro hT9 hb9)
              clear hk7 hf7 hx7 hno7 hb07 htk hq8 hW9 hk9 hq9 hT9 hb9 hown hrow hb8 hof
              go_wp2_with fail
              go_roundw
              case rel => exact ⟨k + 1, by omega, by omega, by go_num, t, rfl, HE.out.1, HE.out.2⟩
              case measure => simp [intOf]; omega
      · obtain rfl : k = n := by omega
        have HE := Lib.hid (And.intro hT hbw)
        clear hT hbw
        go_wp2_with fail
        go_meet
        exact ⟨_, t, rfl, HE.out⟩
  case rest =>
    obtain ⟨k, t, rfl, ⟨bv, D, f, ch, s, txs, sv, tv, vs, sn, rv, rvs, hk, hf, hx, hno, hap, htk⟩, hbw⟩ := hcut
    have hdi := wdisk_any hx.1
    have hop := lc_open hk (LcX.lc hx) hf (by omega) (Nat.le_trans (Nat.le_of_lt (Nat.lt_of_le_of_lt hx.2.2.2.2 hx.1.lt)) (Nat.le_refl _))
    have HR := Lib.hid (And.intro hk (And.intro hf (And.intro hx (And.intro hno (And.intro hap hbw)))))
    clear hk hx hno hap hbw htk
    go_wp2_with fail
    refine hdi.mono ?_
    rintro e w9 ⟨rfl, rfl⟩
    clear hdi
    go_wp2_with fail
    refine hop.mono ?_
    rintro e Y ⟨g', rfl, hkY, hcY, hcn, hbY, hkk⟩
    clear hop
    obtain ⟨hk, _, hx, hno, hap, hbw⟩ := HR.out
    have hnoY := hno.beside hk.1 hx hap (hkk.more (fun i hi => by simp [hi]))
    obtain ⟨svn, tvn, vsn, hxn⟩ := hcn
    obtain ⟨ta, tc, rfl⟩ := wown_slice hxn.2.2.1
    obtain ⟨ra, rc, rfl⟩ := wown_slice hnoY.2.2.1
    obtain ⟨S, hS⟩ : ∃ S : World → Prop, S = Below Y.heap.size Y := ⟨_, rfl⟩
    have hS0 : S Y.drew := by rw [hS]; exact (Below.refl _ _).drew
    have L0 : ∀ w', S w' → (loadSem 32 (.pointer (some ⟨W2.heap.size, 0, none⟩))).run Try.prog w' = .ok (.agg #[sn, .slice ra txs.length rc]) w' := fun w' h => by rw [hS] at h; exact ld_things (hnoY.later h).1
    have L1 : ∀ w', S w' → w'.cell? ⟨W2.heap.size, 1, none⟩ = some (.slice ra txs.length rc) := fun w' h => by rw [hS] at h; exact (hnoY.later h).1.cell 1
    have A1 : ∀ w', S w' → Calls Try.prog 15 #[.agg #[sn, .slice ra txs.length rc], .pointer (some ⟨g, 0, none⟩)] w' fun e w2 => e = .returned (.bool true) ∧ Below w'.heap.size w' w2 := fun w' h => by
      rw [hS] at h
      exact are_any (hcY.later h) hf (hnoY.later h).2.1 (hnoY.later h).2.2.1 (hnoY.later h).2.2.2
    have A2 : ∀ w', S w' → Calls Try.prog 15 #[.agg #[sn, .slice ra txs.length rc], .pointer (some ⟨g', 0, none⟩)] w' fun e w2 => e = .returned (.bool true) ∧ Below w'.heap.size w' w2 := fun w' h => by
      rw [hS] at h
      exact are_any (LcX.lc (LcX.later hxn h)) hf (hnoY.later h).2.1 (hnoY.later h).2.2.1 (hnoY.later h).2.2.2
    have A3 : ∀ w', S w' → Calls Try.prog 22 #[.pointer (some ⟨g', 0, none⟩)] w' fun e w2 => e = .returned (.int .u32 (t : Int)) ∧ w' = w2 := fun w' h => by
      rw [hS] at h
      exact wturn_any (LcX.later hxn h).1
    have A4 : ∀ w', S w' → Calls Try.prog 26 #[.pointer (some ⟨g', 0, none⟩)] w' fun e w2 => e = .returned (.int .i64 (txs.length : Int)) ∧ w' = w2 := fun w' h => by
      rw [hS] at h
      exact wlen_any (LcX.later hxn h).1
    have hSb : ∀ w' w2, S w' → Below w'.heap.size w' w2 → S w2 := fun w' w2 h k => by rw [hS] at h ⊢; exact bel_lat h k
    have HS := Lib.hid (And.intro hS (hbw.trans (hbY.mono H3.out.2.2.2)))
    clear hk hx hno hap hbw hkY hcY hbY hkk hnoY hxn hS hf
    generalize txs.length = m at *
    go_wp2_with fail
    refine wp_region_linY S [2, 10, 14, 20] [0, 1, 2, 3, 4, 5, 6, 7, 8, 9, 10, 11, 12, 13, 15, 14, 16, 17, 18, 19, 21, 22, 23, 20, 24, 25, 26] (by kernel_rfl) (by kernel_rfl) hS0 ?_
    (repeat (first | (refine linX_off rfl rfl (by rfl) ?_; (try simp only [Act.put, List.getElem_toArray, List.getElem_cons_zero, List.getElem_cons_succ, List.setIfInBounds_toArray, List.set_cons_zero, List.set_cons_succ])) | (refine linX_op (v := ?_) rfl rfl (by rfl) (fun w9 hS9 => ?_) ?_; rotate_left; (focus (((have k0 := L0 w9 hS9; have k1 := L1 w9 hS9; go_simp; (try go_bits)) <;> with_reducible rfl))); (try simp only [Act.put, List.getElem_toArray, List.getElem_cons_zero, List.getElem_cons_succ, List.setIfInBounds_toArray, List.set_cons_zero, List.set_cons_succ]))))
    refine linX_call (f := 15) (args := #[.agg #[sn, .slice ra m rc], .pointer (some ⟨g, 0, none⟩)]) rfl rfl (by rfl) rfl rfl (enters_of Try.func15 (by kernel_rfl) rfl) ?_ ?_
    · simp [Act.eval]
    refine (A1 _ hS0).mono ?_
    rintro e Y1 ⟨rfl, hb1⟩
    have hS1 := hSb _ _ hS0 hb1
    refine ⟨_, rfl, hS1, ?_⟩
    (try simp only [Act.put, List.getElem_toArray, List.getElem_cons_zero, List.getElem_cons_succ, List.setIfInBounds_toArray, List.set_cons_zero, List.set_cons_succ])
    (repeat (first | (refine linX_off rfl rfl (by rfl) ?_; (try simp only [Act.put, List.getElem_toArray, List.getElem_cons_zero, List.getElem_cons_succ, List.setIfInBounds_toArray, List.set_cons_zero, List.set_cons_succ])) | (refine linX_op (v := ?_) rfl rfl (by rfl) (fun w9 hS9 => ?_) ?_; rotate_left; (focus (((have k0 := L0 w9 hS9; have k1 := L1 w9 hS9; go_simp; (try go_bits)) <;> with_reducible rfl))); (try simp only [Act.put, List.getElem_toArray, List.getElem_cons_zero, List.getElem_cons_succ, List.setIfInBounds_toArray, List.set_cons_zero, List.set_cons_succ]))))
    refine linX_call (f := 15) (args := #[.agg #[sn, .slice ra m rc], .pointer (some ⟨g', 0, none⟩)]) rfl rfl (by rfl) rfl rfl (enters_of Try.func15 (by kernel_rfl) rfl) ?_ ?_
    · simp [Act.eval]
    refine (A2 _ hS1).mono ?_
    rintro e Y2 ⟨rfl, hb2⟩
    have hS2 := hSb _ _ hS1 hb2
    refine ⟨_, rfl, hS2, ?_⟩
    (try simp only [Act.put, List.getElem_toArray, List.getElem_cons_zero, List.getElem_cons_succ, List.setIfInBounds_toArray, List.set_cons_zero, List.set_cons_succ])
    (repeat (first | (refine linX_off rfl rfl (by rfl) ?_; (try simp only [Act.put, List.getElem_toArray, List.getElem_cons_zero, List.getElem_cons_succ, List.setIfInBounds_toArray, List.set_cons_zero, List.set_cons_succ])) | (refine linX_op (v := ?_) rfl rfl (by rfl) (fun w9 hS9 => ?_) ?_; rotate_left; (focus (((have k0 := L0 w9 hS9; have k1 := L1 w9 hS9; go_simp; (try go_bits)) <;> with_reducible rfl))); (try simp only [Act.put, List.getElem_toArray, List.getElem_cons_zero, List.getElem_cons_succ, List.setIfInBounds_toArray, List.set_cons_zero, List.set_cons_succ]))))
    refine linX_call (f := 22) (args := #[.pointer (some ⟨g', 0, none⟩)]) rfl rfl (by rfl) rfl rfl (enters_of Try.func22 (by kernel_rfl) rfl) ?_ ?_
    · simp [Act.eval]
    refine (A3 _ hS2).mono ?_
    rintro e Y3 ⟨rfl, rfl⟩
    refine ⟨_, rfl, hS2, ?_⟩
    (try simp only [Act.put, List.getElem_toArray, List.getElem_cons_zero, List.getElem_cons_succ, List.setIfInBounds_toArray, List.set_cons_zero, List.set_cons_succ])
    (repeat (first | (refine linX_off rfl rfl (by rfl) ?_; (try simp only [Act.put, List.getElem_toArray, List.getElem_cons_zero, List.getElem_cons_succ, List.setIfInBounds_toArray, List.set_cons_zero, List.set_cons_succ])) | (refine linX_op (v := ?_) rfl rfl (by rfl) (fun w9 hS9 => ?_) ?_; rotate_left; (focus (((have k0 := L0 w9 hS9; have k1 := L1 w9 hS9; go_simp; (try go_bits)) <;> with_reducible rfl))); (try simp only [Act.put, List.getElem_toArray, List.getElem_cons_zero, List.getElem_cons_succ, List.setIfInBounds_toArray, List.set_cons_zero, List.set_cons_succ]))))
    refine linX_call (f := 26) (args := #[.pointer (some ⟨g', 0, none⟩)]) rfl rfl (by rfl) rfl rfl (enters_of Try.func26 (by kernel_rfl) rfl) ?_ ?_
    · simp [Act.eval]
    refine (A4 _ hS2).mono ?_
    rintro e Y3 ⟨rfl, rfl⟩
    refine ⟨_, rfl, hS2, ?_⟩
    (try simp only [Act.put, List.getElem_toArray, List.getElem_cons_zero, List.getElem_cons_succ, List.setIfInBounds_toArray, List.set_cons_zero, List.set_cons_succ])
    (repeat (first | (refine linX_off rfl rfl (by rfl) ?_; (try simp only [Act.put, List.getElem_toArray, List.getElem_cons_zero, List.getElem_cons_succ, List.setIfInBounds_toArray, List.set_cons_zero, List.set_cons_succ])) | (refine linX_op (v := ?_) rfl rfl (by rfl) (fun w9 hS9 => ?_) ?_; rotate_left; (focus (((have k0 := L0 w9 hS9; have k1 := L1 w9 hS9; go_simp; (try go_bits)) <;> with_reducible rfl))); (try simp only [Act.put, List.getElem_toArray, List.getElem_cons_zero, List.getElem_cons_succ, List.setIfInBounds_toArray, List.set_cons_zero, List.set_cons_succ]))))
    refine linX_nil ?_
    have HF := Lib.hid hS2
    clear L0 L1 A1 A2 A3 A4 hSb hS0 hS1 hb1 hb2 hS2
    go_wp2_with fail
    go_ret
    refine ⟨rfl, bel_lat HS.out.2 ?_⟩
    have h9 := HF.out
    rw [HS.out.1] at h9
    exact h9
end Go.Proofs.Ytelpihlifdfgoaa
