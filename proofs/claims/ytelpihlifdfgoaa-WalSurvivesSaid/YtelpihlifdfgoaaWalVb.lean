/-
  A log whose last write was cut off: what may stand in its sectors, and what Open makes of them. Nothing here is a statement of the document.
-/
import Derived.Test.YtelpihlifdfgoaaWalTi
import Derived.Deep.Slices
import Derived.WalkKit
import Derived.ProofKit
import Derived.OpenShut
import Derived.ShutString
import Derived.ChangeOld
import Derived.Below
import Derived.DataShut
import Derived.Test.YtelpihlifdfgoaaWalOb
import Derived.Test.YtelpihlifdfgoaaWalT
import Derived.Test.YtelpihlifdfgoaaWalK
namespace Go.Proofs.Ytelpihlifdfgoaa
open Go.RowKit Go.Shelf
set_option linter.unusedVariables false
theorem txsB_split (t : Nat) : ∀ (txs : List (List Nat)) (m k : Nat), txsB t m txs = txsB t m (txs.take k) ++ txsB t (m + (txs.take k).length) (txs.drop k)
  | [], m, k => by simp [txsB]
  | x :: txs, m, 0 => by simp [txsB]
  | x :: txs, m, k + 1 => by
    simp only [List.take_succ_cons, List.drop_succ_cons, txsB, List.length_cons]
    rw [txsB_split t txs (m + 1) k, List.append_assoc, show m + 1 + (txs.take k).length = m + ((txs.take k).length + 1) from by omega]
theorem chainB_split (t : Nat) (s : List Nat) (txs : List (List Nat)) (k : Nat) : chainB t s txs = chainB t s (txs.take k) ++ txsB t ((txs.take k).length) (txs.drop k) := by
  unfold chainB
  rw [txsB_split t txs 0 k, List.append_assoc, Nat.zero_add]
set_option maxRecDepth 100000 in
set_option maxHeartbeats 4000000 in
theorem are_any {w : World} {B C p g t c : Nat} {s : List Nat} {txs : List (List Nat)} {f : Nat → Bk} {sn rv : Value} {rvs : List Value} (h : Lc B w p g 12 t c s txs) (hf : LogF f 12 t c s txs) (hs : w.ownsRow C 5 1 sn s.length (s.map byc)) (hr : w.ownsRow C 29 1 rv txs.length rvs) (hx : Txs w C rvs txs) :
    Calls Try.prog 15 #[.agg #[sn, rv], .pointer (some ⟨g, 0, none⟩)] w fun e w' => e = .returned (.bool true) ∧ Below w.heap.size w w' := by
  obtain ⟨sa, sc, rfl⟩ := wown_slice hs
  obtain ⟨ra, rc, rfl⟩ := wown_slice hr
  obtain ⟨W1, hW1⟩ : ∃ W1, w.alloc (.cells #[.slice sa s.length sc, .slice ra txs.length rc] 32) = W1 := ⟨_, rfl⟩
  have hb1 : Below w.heap.size w W1 := by rw [← hW1]; exact (Below.refl _ _).alloc (Nat.le_refl _) _
  have ht1 : Blk W1 w.heap.size 32 #[.slice sa s.length sc, .slice ra txs.length rc] := by rw [← hW1]; exact Blk.new _ _ _
  have hmn := hf.more
  have hto := told_any (h.later hb1) (by omega) (fun x hx => (hf.len.2.2 x hx).1)
  obtain ⟨m, hm⟩ : ∃ m, txs.length = m := ⟨_, rfl⟩
  obtain ⟨n, hn⟩ : ∃ n, s.length = n := ⟨_, rfl⟩
  rw [hm] at hto ht1 hr hmn
  try rw [hm] at hW1
  try rw [hm]
  rw [hn] at ht1 hs
  try rw [hn] at hW1
  try rw [hn]
  have HH := Lib.hid (And.intro h (And.intro hf (And.intro hs (And.intro hr (And.intro hx (And.intro hb1 (And.intro ht1 (And.intro hm hn))))))))
  clear h hf hs hr hx hb1 ht1 hm hn
  go_enter Try.func15, Try.ntmps15
  go_wp2_with fail
  refine hto.mono ?_
  rintro e W2 ⟨ov, ovs, rfl, ho, hox, hb2⟩
  clear hto hW1
  obtain ⟨oa, oc, rfl⟩ := wown_slice ho
  obtain ⟨h, hf, hs, hr, hx, hb1, ht1, hm, hn⟩ := HH.out
  have hb12 := bel_lat hb1 hb2
  have ht2 := ht1.kept (Kept.of_below [] hb2) (by simp)
  obtain ⟨S, hS⟩ : ∃ S : World → Prop, S = Below W2.heap.size W2 := ⟨_, rfl⟩
  have hS0 : S W2.drew := by rw [hS]; exact (Below.refl _ _).drew
  have L0 : ∀ w', S w' → w'.cell? ⟨w.heap.size, 0, none⟩ = some (.slice sa n sc) := fun w' h => by rw [hS] at h; exact (ht2.kept (Kept.of_below [] h) (by simp)).cell 0
  have L1 : ∀ w', S w' → w'.cell? ⟨w.heap.size, 1, none⟩ = some (.slice ra m rc) := fun w' h => by rw [hS] at h; exact (ht2.kept (Kept.of_below [] h) (by simp)).cell 1
  have hsnap : Calls Try.prog 20 #[.pointer (some ⟨g, 0, none⟩)] W2.drew fun e w' => ∃ va vc, e = .returned (.slice va n vc) ∧ Lies w' va s ∧ Below W2.drew.heap.size W2.drew w' := by
    obtain ⟨sv, tv, vs, q1, q2, q3, q4, q5⟩ := h.later hb12.drew
    obtain ⟨sva, svc, rfl, r1, r2, r3⟩ := own_bytes_lies q2 rfl
    refine (wsnap_any q1 r2 rfl hf.len.1 (fun h9 => ?_)).mono ?_
    · subst h9
      rcases q2.2 with ⟨_, h0⟩ | ⟨q, cap, cur, e1, _⟩
      · exact h0
      · cases e1
    · rintro e w' ⟨v, rfl, hv, hb⟩
      obtain ⟨va, vc, rfl, _, hL, _⟩ := own_bytes_lies hv rfl
      exact ⟨va, vc, by rw [hn], hL, hb⟩
  have hL2 : Lies W2 sa s := by
    obtain ⟨a', c', he, _, hL, _⟩ := own_bytes_lies hs hn
    simp only [Value.slice.injEq] at he
    obtain ⟨rfl, _, rfl⟩ := he
    exact hL.kept hb12
  have hBy := hf.len.2.1
  have heq := fun va vc w' (hL : Lies w' va s) (hL2 : Lies w' sa s) => bequal_any va sa n vc n sc s s w' hn hn hBy hBy hL hL2
  have H2 := Lib.hid (And.intro ho (And.intro hox (And.intro hb12 (And.intro ht2 (And.intro hL2 hS)))))
  clear h hf hs hr hx hb1 ht1 hm hn ho hox hb2 hb12 ht2 hL2 hS hBy
  go_wp2_with fail
  refine wp_region_linY S [12, 15] [0, 1, 2, 3, 4, 5, 6, 7, 8, 9, 10, 11, 13, 14, 12, 15, 16, 17] (by kernel_rfl) (by kernel_rfl) hS0 ?_
  (repeat (first | (refine linX_off rfl rfl (by rfl) ?_; (try simp only [Act.put, List.getElem_toArray, List.getElem_cons_zero, List.getElem_cons_succ, List.setIfInBounds_toArray, List.set_cons_zero, List.set_cons_succ])) | (refine linX_op (v := ?_) rfl rfl (by rfl) (fun w9 hS9 => ?_) ?_; rotate_left; (focus (((have k0 := L0 w9 hS9; have k1 := L1 w9 hS9; go_simp; (try go_bits)) <;> with_reducible rfl))); (try simp only [Act.put, List.getElem_toArray, List.getElem_cons_zero, List.getElem_cons_succ, List.setIfInBounds_toArray, List.set_cons_zero, List.set_cons_succ]))))
  refine linX_call (f := 20) (args := #[.pointer (some ⟨g, 0, none⟩)]) rfl rfl (by rfl) rfl rfl (enters_of Try.func20 (by kernel_rfl) rfl) ?_ ?_
  · simp [Act.eval]
  refine hsnap.mono ?_
  rintro e W3 ⟨va, vc, rfl, hL3, hb3⟩
  have hS3 : S W3 := by rw [H2.out.2.2.2.2.2]; exact (Below.refl W2.heap.size W2).drew.trans hb3
  refine ⟨_, rfl, hS3, ?_⟩
  (try simp only [Act.put, List.getElem_toArray, List.getElem_cons_zero, List.getElem_cons_succ, List.setIfInBounds_toArray, List.set_cons_zero, List.set_cons_succ])
  have heq3 := heq va vc W3 hL3 (H2.out.2.2.2.2.1.kept ((Below.refl W2.heap.size W2).drew.trans hb3))
  rw [show (s == s) = true from beq_self_eq_true s] at heq3
  refine linX_call (f := 33) (args := #[.slice va n vc, .slice sa n sc]) rfl rfl (by rfl) rfl rfl (enters_of Try.func33 (by kernel_rfl) rfl) ?_ ?_
  · simp [Act.eval]
  refine heq3.mono ?_
  rintro e w3 ⟨rfl, rfl⟩
  refine ⟨_, rfl, hS3, ?_⟩
  (try simp only [Act.put, List.getElem_toArray, List.getElem_cons_zero, List.getElem_cons_succ, List.setIfInBounds_toArray, List.set_cons_zero, List.set_cons_succ])
  (repeat (first | (refine linX_off rfl rfl (by rfl) ?_; (try simp only [Act.put, List.getElem_toArray, List.getElem_cons_zero, List.getElem_cons_succ, List.setIfInBounds_toArray, List.set_cons_zero, List.set_cons_succ])) | (refine linX_op (v := ?_) rfl rfl (by rfl) (fun w9 hS9 => ?_) ?_; rotate_left; (focus (((have k0 := L0 w9 hS9; have k1 := L1 w9 hS9; go_simp; (try go_bits)) <;> with_reducible rfl))); (try simp only [Act.put, List.getElem_toArray, List.getElem_cons_zero, List.getElem_cons_succ, List.setIfInBounds_toArray, List.set_cons_zero, List.set_cons_succ]))))
  refine linX_nil ?_
  have hb23 : Below W2.heap.size W2 W3 := (Below.refl W2.heap.size W2).drew.trans hb3
  have L03 := L0 W3 hS3
  have L13 := L1 W3 hS3
  obtain ⟨h, hf, hs, hr, hx, hb1, ht1, hm, hn⟩ := HH.out
  have hb03 := bel_lat H2.out.2.2.1 hb23
  have hse := sectors_any (n : Int)
  rw [secI_nat] at hse
  have hl3 := owns_later2 H2.out.1 hb23
  have h3 := Txs.imp (fun v l h => owns_later2 h hb23) H2.out.2.1
  have hr3 := owns_later2 hr hb03
  have hx3 := Txs.imp (fun v l h => owns_later2 h hb03) hx
  have hlf : ∀ w', Below W3.heap.size W3 w' → Calls Try.prog 25 #[.pointer (some ⟨g, 0, none⟩)] w' fun e w2 => e = .returned (.int .i64 ((12 : Int) - ((chainB t s txs).length : Int))) ∧ Below w'.heap.size w' w2 := fun w' hb => by
    obtain ⟨sv, tv, vs, q1, q2, q3, q4, q5⟩ := h.later (bel_lat hb03 hb)
    exact wleft_any q1 hf.c2 hf.fit (by decide)
  obtain ⟨SN, hSN⟩ : ∃ SN, secN n = SN := ⟨_, rfl⟩
  have hs0 : (chainB t s ([] : List (List Nat))).length = SN := by rw [chainB_one, frameB_len, hn, hSN]
  rw [hSN] at hse
  have H3 := Lib.hid (And.intro hf (And.intro hm (And.intro hb03 (And.intro hl3 (And.intro h3 (And.intro hr3 (And.intro hx3 (And.intro hs0 hlf))))))))
  clear h hf hs hr hx hb1 ht1 hm hn hb03 hb23 hl3 h3 hr3 hx3 hsnap heq heq3 hL3 hb3 hS3 L0 L1 hS0 hlf hs0 hSN
  go_wp2_with fail
  refine (hse _).mono ?_
  rintro e w3 ⟨rfl, rfl⟩
  clear hse
  go_wp2_with fail
  obtain ⟨U, hU⟩ : ∃ U : Nat → Nat, U = fun k => (chainB t s (txs.take k)).length := ⟨_, rfl⟩
  have hU0 : U 0 = SN := by rw [hU]; exact H3.out.2.2.2.2.2.2.2.1
  have hUm : U m = (chainB t s txs).length := by rw [hU, ← H3.out.2.1]; show (chainB t s (txs.take txs.length)).length = _; rw [List.take_length]
  have hUk : ∀ k, k < m → U (k + 1) = U k + secN (txs.getD k []).length ∧ (txs.getD k []).length ≤ 40000 ∧ Bys (txs.getD k []) ∧ U (k + 1) ≤ 12 := by
    intro k hk
    have hk2 : k < txs.length := by rw [H3.out.2.1]; exact hk
    have e : txs.take (k + 1) = txs.take k ++ [txs.getD k []] := by
      rw [List.take_add_one, List.getElem?_eq_getElem hk2, List.getD_eq_getElem?_getD, List.getElem?_eq_getElem hk2]; rfl
    have hmem : txs.getD k [] ∈ txs := by rw [List.getD_eq_getElem?_getD, List.getElem?_eq_getElem hk2]; exact List.getElem_mem hk2
    have e2 : U (k + 1) = U k + secN (txs.getD k []).length := by
      rw [hU]; show (chainB t s (txs.take (k + 1))).length = (chainB t s (txs.take k)).length + _
      rw [e, chainB_snoc, List.length_append, frameB_len]
    refine ⟨e2, (H3.out.1.len.2.2 _ hmem).1, (H3.out.1.len.2.2 _ hmem).2, ?_⟩
    have hfit := H3.out.1.fit
    have h9 : chainB t s txs = chainB t s (txs.take (k + 1)) ++ txsB t ((txs.take (k + 1)).length) (txs.drop (k + 1)) := chainB_split t s txs (k + 1)
    rw [h9, List.length_append] at hfit
    rw [hU]; show (chainB t s (txs.take (k + 1))).length ≤ 12
    omega
  have HU := Lib.hid (And.intro hU0 (And.intro hUm hUk))
  clear hU0 hUm hUk hU
  go_loopw [7, 39] (fun o i wr => ∃ k : Nat, k ≤ m ∧ i = .int .i64 k ∧ o = .int .i64 (U k : Int) ∧ wr = W3) (fun o i _ => m - (intOf i).toNat)
  case atStart => exact ⟨0, Nat.zero_le _, rfl, by rw [HU.out.1], rfl⟩
  case round =>
    obtain ⟨k, hk, rfl, rfl, rfl⟩ := hrel
    by_cases hlt : k < m
    · obtain ⟨v, v1, v2⟩ := txs_at (k := k) H3.out.2.2.2.2.1 (by rw [H3.out.2.1]; exact hlt)
      obtain ⟨z, z1, z2⟩ := txs_at (k := k) H3.out.2.2.2.2.2.2.1 (by rw [H3.out.2.1]; exact hlt)
      obtain ⟨u1, u2, u3, u4⟩ := HU.out.2.2 k hlt
      obtain ⟨q, hq⟩ : ∃ q, txs.getD k [] = q := ⟨_, rfl⟩
      rw [hq] at v2 z2 u1 u2 u3
      obtain ⟨len, hlen⟩ : ∃ len, q.length = len := ⟨_, rfl⟩
      obtain ⟨wa, wc, rfl, _, wL, _⟩ := own_bytes_lies v2 rfl
      obtain ⟨xa, xc, rfl, _, xL, _⟩ := own_bytes_lies z2 rfl
      have heq := bequal_any wa xa q.length wc q.length xc q q wr rfl rfl u3 u3 wL xL
      rw [show (q == q) = true from beq_self_eq_true q] at heq
      rw [hlen] at heq v1 z1 u1 u2
      have hse := sectors_any (len : Int) wr
      rw [secI_nat] at hse
      rcases H3.out.2.2.2.1.2 with h9 | ⟨og, ocap, ocur, o1, o2, o3, o4⟩
      · have : m = 0 := h9.2
        omega
      rcases H3.out.2.2.2.2.2.1.2 with h9 | ⟨rg, rcap, rcur, p1, p2, p3, p4⟩
      · have : m = 0 := h9.2
        omega
      have hoa : oa = some ⟨og, 0, none⟩ := by cases o1; rfl
      have hra : ra = some ⟨rg, 0, none⟩ := by cases p1; rfl
      subst hoa
      subst hra
      have co : wr.cell? ⟨og, k, none⟩ = some (.slice wa len wc) := by
        have := H3.out.2.2.2.1.cells (g := og) rfl k _ v1
        rw [Addr.add_lit] at this
        simpa using this
      have cr : wr.cell? ⟨rg, k, none⟩ = some (.slice xa len xc) := by
        have := H3.out.2.2.2.2.2.1.cells (g := rg) rfl k _ z1
        rw [Addr.add_lit] at this
        simpa using this
      obtain ⟨SL, hSL⟩ : ∃ SL, secN len = SL := ⟨_, rfl⟩
      rw [hSL] at hse u1
      have HK := Lib.hid (And.intro u1 u4)
      have hu4 : (U k : Int) + (SL : Int) ≤ 12 := by omega
      clear v1 v2 z1 z2 u1 u2 u3 u4 hq hlen wL xL o1 o2 o3 o4 p1 p2 p3 p4 hSL
      go_wp2_with fail
      refine heq.mono ?_
      rintro e w5 ⟨rfl, rfl⟩
      clear heq
      go_wp2_with fail
      refine hse.mono ?_
      rintro e w5 ⟨rfl, rfl⟩
      clear hse
      go_wp2_with fail
      go_roundw
      case rel => exact ⟨k + 1, by omega, by go_num, by rw [HK.out.1]; go_num, trivial⟩
      case measure => simp [intOf]; omega
    · obtain rfl : k = m := by omega
      have hlf := H3.out.2.2.2.2.2.2.2.2 wr (Below.refl _ _)
      have hum := HU.out.2.1
      rw [← hum] at hlf
      have hU12 : U k ≤ 12 := by rw [hum]; exact H3.out.1.fit
      have HB := Lib.hid H3.out.2.2.1
      go_wp2_with fail
      refine hlf.mono ?_
      rintro e w5 ⟨rfl, hb5⟩
      clear hlf
      have HB5 := Lib.hid hb5
      clear hb5 hum
      go_wp2_with fail
      go_ret
      exact ⟨rfl, bel_lat HB.out HB5.out⟩
end Go.Proofs.Ytelpihlifdfgoaa
namespace Go.Proofs.Ytelpihlifdfgoaa
open Go.ChangeShapes Go.WideShapes Go.ChangeAt Go.RowKit
set_option linter.unusedVariables false
theorem bsc_row : Try.prog.cellsOf 29 = 1 := by kernel_rfl
/-- Bytes at such a slice. -/
structure Bsl (w : World) (v : Value) (l : List Nat) : Prop where
  v : ∃ a cap, v = .slice a l.length cap ∧ Lies w a l ∧ l.length ≤ cap ∧ cap ≤ maxLen ∧ (a = none → l.length = 0)
  b : Bys l
/-- Rows of bytes at such a slice. -/
def Bss (w : World) (a : Option Addr) (ls : List (List Nat)) : Prop :=
  ls = [] ∨ ∃ x, a = some x ∧ ∀ (i : Nat) (l : List Nat), ls[i]? = some l → ∃ v, w.cell? (x.add i) = some v ∧ Bsl w v l
theorem bsl_of {H : Type} {enc : TypeId × Value → H} {W : World} {held : Bool} {fuel : Nat} {v : Value} {y : DataW H × List MemPlace} (h : DataW.trod enc Try.prog W 0 (fun _ => true) held fuel 29 [v] = some y) : ∃ l, Bsl W v l := by
  have hr : ∃ a len cap zs, v = .slice a len cap ∧ IsRow .u8 W a len cap zs ∧ cap ≤ maxLen := by
    rcases open_ints Try.underlying29 Try.underlying5 (by kernel_rfl) h with ⟨hcs, _⟩ | ⟨x, l, c, zs, hcs, _, hl, hm, hz, _, hcell, hwz⟩
    · obtain rfl : v = .slice none 0 0 := by injection hcs
      exact ⟨none, 0, 0, [], rfl, .inl ⟨rfl, rfl, rfl, rfl⟩, Nat.zero_le _⟩
    · obtain rfl : v = .slice (some x) l c := by injection hcs
      exact ⟨some x, l, c, zs, rfl, .inr ⟨_, rfl, hl, hm, by simpa using hz, hcell, hwz⟩, hm⟩
  obtain ⟨a, len, cap, zs, rfl, hR, hm⟩ := hr
  obtain ⟨l, hl, _, hL, hB⟩ := hR.bytes
  have hcap : len ≤ cap ∧ (a = none → len = 0) := by
    rcases hR with ⟨rfl, rfl, rfl, _⟩ | ⟨x, rfl, h1, _⟩
    · exact ⟨Nat.le_refl _, fun _ => rfl⟩
    · exact ⟨h1, fun h => by cases h⟩
  exact ⟨l, ⟨⟨a, cap, by rw [hl], hL, by rw [hl]; exact hcap.1, hm, by rw [hl]; exact hcap.2⟩, hB⟩⟩
theorem bss_of {H : Type} {enc : TypeId × Value → H} {W : World} {held : Bool} {a : Option Addr} {len cap : Nat} {d : DataW H} {p : List MemPlace} (h : DataW.Trod enc Try.prog W 0 (fun _ => true) held 30 (.slice a len cap) d p) :
    ∃ ls : List (List Nat), ls.length = len ∧ len ≤ 9223372036854775807 ∧ Bss W a ls := by
  obtain ⟨fuel, hf⟩ := h
  rcases Go.Deep.open_slice Try.underlying30 hf with ⟨hcs, _⟩ | ⟨x, len', cap', q, nn, Dt, Pl, hcs, _, hl, hm, hq, _, hi⟩
  · simp [Value.cells] at hcs
    obtain ⟨rfl, rfl, rfl⟩ := hcs
    exact ⟨[], rfl, by omega, .inl rfl⟩
  · simp [Value.cells] at hcs
    obtain ⟨rfl, rfl, rfl⟩ := hcs
    have hex : ∀ i, i < len → ∃ l v, W.cell? (x.add i) = some v ∧ Bsl W v l := by
      intro i hil
      obtain ⟨cs', hc', ht'⟩ := hi i (by rw [hq]; simp; omega)
      rw [bsc_row, Nat.mul_one] at hc'
      obtain ⟨_, hlen, hat⟩ := World.cells?_some hc'
      obtain ⟨v, rfl⟩ : ∃ v, cs' = [v] := by
        match cs', hlen with
        | [a], _ => exact ⟨a, rfl⟩
      obtain ⟨l, hl⟩ := bsl_of ht'
      refine ⟨l, v, ?_, hl⟩
      have h9 := hat 0 (by omega)
      rw [Go.Deep.add_add, Nat.add_zero] at h9
      rw [h9]; rfl
    obtain ⟨f, hf2⟩ : ∃ f : Nat → List Nat, ∀ i, i < len → ∃ v, W.cell? (x.add i) = some v ∧ Bsl W v (f i) :=
      ⟨fun i => if h : i < len then (hex i h).choose else [], fun i hil => by simp only [dif_pos hil]; exact (hex i hil).choose_spec⟩
    refine ⟨(List.range len).map f, by simp, by unfold maxLen at hm; omega, .inr ⟨x, rfl, fun i y hy => ?_⟩⟩
    have hil : i < len := by simpa using (List.getElem?_eq_some_iff.1 hy).1
    rw [List.getElem?_map, List.getElem?_range hil, Option.map_some] at hy
    injection hy with hy
    subst hy
    exact hf2 i hil
end Go.Proofs.Ytelpihlifdfgoaa
namespace Go.Proofs.Ytelpihlifdfgoaa
open Go.RowKit Go.Shelf
set_option linter.unusedVariables false
/-- The things that the law takes down lie in this box; their row is another one than the log's. -/
def Now (W : World) (C q : Nat) (s : List Nat) (txs : List (List Nat)) (sn rv : Value) (rvs : List Value) : Prop :=
  Blk W q 32 #[sn, rv] ∧ W.ownsRow C 5 1 sn s.length (s.map byc) ∧ W.ownsRow C 29 1 rv txs.length rvs ∧ Txs W C rvs txs
theorem things_far {W : World} {B p pb q : Nat} {bv : Value} {D : Dk} {cs : Array Value} (h : Dsk W B p pb bv D) (hq : Blk W q 32 cs) : q ∉ fp p pb bv := by
  intro hm
  simp only [fp, List.mem_cons, Option.mem_toList] at hm
  rcases hm with h9 | h9 | h9
  · exact hq.ne h.cells (by decide) h9
  · exact hq.ne h.plate (by decide) h9
  · rcases h.buf.2 with h8 | ⟨g, cap, cur, e1, e2, e3, e4⟩
    · rw [h8.1] at h9; cases h9
    · rw [e1] at h9
      obtain rfl : g = q := by simpa [Value.ownBlock] using h9
      unfold Blk at hq
      rw [e3] at hq
      have := Option.some.inj hq
      simp only [Obj.cells.injEq] at this
      exact absurd this.2.1 (by decide)
section
variable {C B p pb g q n N t c : Nat} {W W' : World} {s s' : List Nat} {txs txs' : List (List Nat)} {bv sv tv sn rv : Value} {vs rvs : List Value} {D : Dk} {f : Nat → Bk}
/-- What a call on the log leaves of the things. -/
theorem Now.beside (h : Now W C q s' txs' sn rv rvs) (hD : Dsk W B p pb bv D) (hL : LcX B W p g n t c s txs sv tv vs) (hap : ∀ i, rv.ownBlock = some i → tv.ownBlock ≠ some i) (k : Kept (g :: (tv.ownBlock.toList ++ fp p pb bv)) W W') : Now W' C q s' txs' sn rv rvs := by
  obtain ⟨h1, h2, h3, h4⟩ := h
  obtain ⟨l1, l2, l3, l4, l5⟩ := hL
  have u8 : ∀ (v : Value) (m : Nat) (xs : List Value), W.ownsRow C 5 1 v m xs → W'.ownsRow C 5 1 v m xs := fun v m xs h => own_far h k (fun i hi hm => by
    simp only [List.mem_cons, List.mem_append, Option.mem_toList] at hm
    rcases hm with h9 | h9 | h9
    · exact own_apart h hD l1 (.inl rfl) i hi (by simp [h9])
    · exact own_two h l3 (by decide) i hi h9
    · exact own_apart h hD l1 (.inl rfl) i hi (by simp [h9]))
  refine ⟨h1.kept k (fun hm => ?_), u8 _ _ _ h2, own_far h3 k (fun i hi hm => ?_), Txs.imp (fun v l h => u8 _ _ _ h) h4⟩
  · simp only [List.mem_cons, List.mem_append, Option.mem_toList] at hm
    rcases hm with h9 | h9 | h9
    · exact h1.ne l1 (by decide) h9
    · exact row_ne l3 h1 (by decide) h9
    · exact things_far hD h1 h9
  · simp only [List.mem_cons, List.mem_append, Option.mem_toList] at hm
    rcases hm with h9 | h9 | h9
    · exact own_apart h3 hD l1 (.inr rfl) i hi (by simp [h9])
    · exact hap i hi h9
    · exact own_apart h3 hD l1 (.inr rfl) i hi (by simp [h9])
theorem Now.later (h : Now W C q s' txs' sn rv rvs) (k : Below W.heap.size W W') : Now W' C q s' txs' sn rv rvs :=
  ⟨h.1.kept (Kept.of_below [] k) (by simp), owns_later2 h.2.1 k, owns_later2 h.2.2.1 k, Txs.imp (fun v l h => owns_later2 h k) h.2.2.2⟩
/-- What a store into the things' box leaves of the log. -/
theorem Lk.box (h : Lk B W p pb N bv D f) {cs : Array Value} (hq : Blk W q 32 cs) (k : Kept [q] W W') : Lk B W' p pb N bv D f :=
  ⟨h.1.apart k (fun i hi hm => things_far h.1 hq (by rw [← List.mem_singleton.1 hi]; exact hm)), h.2⟩
theorem LcX.box (h : LcX B W p g n t c s txs sv tv vs) {cs : Array Value} (hq : Blk W q 32 cs) (k : Kept [q] W W') : LcX B W' p g n t c s txs sv tv vs := by
  obtain ⟨h1, h2, h3, h4, h5⟩ := h
  have u8 : ∀ (e : TypeId) (v : Value) (m : Nat) (xs : List Value), e ≠ 32 → W.ownsRow B e 1 v m xs → W'.ownsRow B e 1 v m xs := fun e v m xs he h => own_far h k (fun i hi hm => by
    rw [List.mem_singleton.1 hm] at hi
    exact row_ne h hq (fun e' => he e'.symm) hi)
  exact ⟨h1.kept k (fun hm => h1.ne hq (by decide) (List.mem_singleton.1 hm)), u8 _ _ _ _ (by decide) h2, u8 _ _ _ _ (by decide) h3, Txs.imp (fun v l h => u8 _ _ _ _ (by decide) h) h4, h5⟩
end
/-- All that the law has behind so many rounds. -/
def Trn (W : World) (C B p pb g q k t : Nat) : Prop :=
  ∃ (bv : Value) (D : Dk) (f : Nat → Bk) (c : Nat) (s : List Nat) (txs : List (List Nat)) (sv tv : Value) (vs : List Value) (sn rv : Value) (rvs : List Value),
    Lk B W p pb 26 bv D f ∧ LogF f 12 t c s txs ∧ LcX B W p g 12 t c s txs sv tv vs ∧ Now W C q s txs sn rv rvs ∧ (∀ i, rv.ownBlock = some i → tv.ownBlock ≠ some i) ∧ t ≤ k + 1
theorem Bsl.later {W W' : World} {v : Value} {l : List Nat} (h : Bsl W v l) (k : Below W.heap.size W W') : Bsl W' v l := by
  obtain ⟨a, cap, h1, h2, h3⟩ := h.v
  exact ⟨⟨a, cap, h1, h2.kept k, h3⟩, h.b⟩
theorem cell_lt9 {W : World} {x : Addr} {v : Value} (h : W.cell? x = some v) : x.block < W.heap.size := by
  unfold World.cell? at h
  split at h
  · rename_i hh; exact (Array.getElem?_eq_some_iff.1 hh).1
  · cases h
/-- The i-th row, at a later world. -/
theorem Bss.at' {W W' : World} {a : Option Addr} {ls : List (List Nat)} (h : Bss W a ls) (k : Below W.heap.size W W') {i : Nat} (hi : i < ls.length) : ∃ b o v, a = some ⟨b, o, none⟩ ∧ W'.cell? ⟨b, o + i, none⟩ = some v ∧ Bsl W v ls[i] := by
  rcases h with h | ⟨x, h1, h2⟩
  · subst h; simp at hi
  · obtain ⟨b, o, sp⟩ := x
    obtain ⟨v, h3, h4⟩ := h2 i _ (List.getElem?_eq_getElem hi)
    obtain ⟨v0, h5, _⟩ := h2 0 _ (List.getElem?_eq_getElem (by omega))
    obtain rfl : sp = none := by simpa [Addr.add] using World.cell?_spot h5
    rw [Addr.add_lit] at h3
    exact ⟨b, o, v, h1, (k.cell (p := ⟨b, o + i, none⟩) (cell_lt9 h3)).trans h3, h4⟩
theorem store_deed_rule (p v : Value) : Instr.storeAt 35 p v = storeSem 35 p v := rfl
theorem st_deed {w : World} {g : Nat} {x0 x1 x2 x3 y0 y1 y2 y3 : Value} (h : Blk w g 35 #[x0, x1, x2, x3]) (h0 : y0.oneCell' = true) (h1 : y1.oneCell' = true) (h2 : y2.oneCell' = true) (h3 : y3.oneCell' = true) : (storeSem 35 (.pointer (some ⟨g, 0, none⟩)) (.agg #[y0, y1, y2, y3])).run Try.prog w = .ok () (w.setRow g #[y0, y1, y2, y3]) := by
  have S := storeRes_of (P := Try.prog) (ty := 35) (o := 0) (vs := #[y0, y1, y2, y3]) h (by simp) (s_deed _ _ _ _) (by simp [h0, h1, h2, h3])
  rwa [over_all (by simp)] at S
/-- A deed laid into a new box. -/
theorem st_deed_new (w : World) {y0 y1 y2 y3 : Value} (h0 : y0.oneCell' = true) (h1 : y1.oneCell' = true) (h2 : y2.oneCell' = true) (h3 : y3.oneCell' = true) : (storeSem 35 (.pointer (some ⟨w.heap.size, 0, none⟩)) (.agg #[y0, y1, y2, y3])).run Try.prog (w.alloc (.cells #[.int .i64 0, .int .i64 0, .slice none 0 0, .slice none 0 0] 35)) = .ok () (w.alloc (.cells #[y0, y1, y2, y3] 35)) := by
  have S := st_deed (Blk.new w 35 #[.int .i64 0, .int .i64 0, .slice none 0 0, .slice none 0 0]) h0 h1 h2 h3
  rwa [World.setRow_alloc_new] at S
theorem load_things_rule (v : Value) : Instr.loadAt 32 v = loadSem 32 v := rfl
theorem ld_things {w : World} {g : Nat} {x0 x1 : Value} (h : Blk w g 32 #[x0, x1]) : (loadSem 32 (.pointer (some ⟨g, 0, none⟩))).run Try.prog w = .ok (.agg #[x0, x1]) w :=
  loadRes_of (o := 0) h (fun j hj => by rw [Nat.zero_add]) _ Try.underlying32 rfl (s_things x0 x1)
end Go.Proofs.Ytelpihlifdfgoaa
namespace Go.Proofs.Ytelpihlifdfgoaa
open Go.RowKit Go.Shelf
set_option linter.unusedVariables false
/-- What may stand in a sector behind a loss of power. -/
def Poss (D : Dk) (i : Nat) (b : Bk) : Prop := b = D.plate.getD i Bk.zero ∨ ∃ r ∈ D.rows, r.s = i ∧ r.b = b
theorem poss_shows (D : Dk) (i : Nat) : Poss D i (showsM D i) := by
  unfold showsM
  split
  · rename_i r hr
    exact .inr ⟨r, List.mem_of_find?_eq_some hr, by simpa using List.find?_some hr, rfl⟩
  · exact .inl rfl
theorem poss_none {D : Dk} (h : D.rows = []) {i : Nat} {b : Bk} (hp : Poss D i b) : b = showsM D i := by
  rcases hp with h1 | ⟨r, hr, _⟩
  · rw [h1]; unfold showsM; rw [h]; rfl
  · rw [h] at hr; cases hr
theorem poss_turn {D E : Dk} (h1 : E.plate = D.plate) (h2 : E.rows = D.rows) {i : Nat} {b : Bk} (hp : Poss E i b) : Poss D i b := by
  unfold Poss at hp ⊢
  rw [h1, h2] at hp
  exact hp
theorem set_at (l : List Bk) (s i : Nat) (b : Bk) : (l.set s b).getD i Bk.zero = l.getD i Bk.zero ∨ (s = i ∧ (l.set s b).getD i Bk.zero = b) := by
  simp only [List.getD_eq_getElem?_getD]
  by_cases h : s = i
  · subst h
    by_cases h2 : s < l.length
    · right; simp [h2]
    · left; rw [List.set_eq_of_length_le (by omega)]
  · left; rw [List.getElem?_set_ne h]
theorem downs_poss : ∀ (l : List Rw) (D : Dk) (i : Nat), (downsM D l).plate.getD i Bk.zero = D.plate.getD i Bk.zero ∨ ∃ r ∈ l, r.s = i ∧ r.b = (downsM D l).plate.getD i Bk.zero
  | [], D, i => .inl rfl
  | r :: l, D, i => by
    show (downsM (downM D r) l).plate.getD i Bk.zero = _ ∨ ∃ x ∈ r :: l, x.s = i ∧ x.b = (downsM (downM D r) l).plate.getD i Bk.zero
    rcases downs_poss l (downM D r) i with h | ⟨x, hx, h1, h2⟩
    · rw [h]
      rcases set_at D.plate r.s i r.b with h3 | ⟨h3, h4⟩
      · exact .inl h3
      · exact .inr ⟨r, by simp, h3, h4.symm⟩
    · exact .inr ⟨x, by simp [hx], h1, h2⟩
theorem poss_drain {D : Dk} (n : Nat) {i : Nat} {b : Bk} (hp : Poss (drainM D n) i b) : Poss D i b := by
  rcases hp with h1 | ⟨r, hr, h2⟩
  · rcases downs_poss (D.rows.take n) D i with h3 | ⟨r, hr, h3, h4⟩
    · exact .inl (h1.trans h3)
    · exact .inr ⟨r, List.mem_of_mem_take hr, h3, h4.trans h1.symm⟩
  · exact .inr ⟨r, List.mem_of_mem_drop hr, h2⟩
theorem poss_hold {D : Dk} (r : Rw) {i : Nat} {b : Bk} (hp : Poss (holdM D r) i b) : Poss D i b ∨ (i = r.s ∧ b = r.b) := by
  unfold holdM at hp
  split at hp
  · rcases hp with h1 | ⟨x, hx, h2, h3⟩
    · exact .inl (.inl h1)
    · rcases List.mem_or_eq_of_mem_set hx with h4 | h4
      · exact .inl (.inr ⟨x, h4, h2, h3⟩)
      · subst h4; exact .inr ⟨h2.symm, h3.symm⟩
  · have hE : ∀ b, Poss (if D.rows.length = 8 then drainM D 1 else D) i b → Poss D i b := by
      intro b h
      split at h
      · exact poss_drain 1 h
      · exact h
    rcases hp with h1 | ⟨x, hx, h2, h3⟩
    · exact .inl (hE _ (.inl h1))
    · rcases List.mem_append.1 hx with h4 | h4
      · exact .inl (hE _ (.inr ⟨x, h4, h2, h3⟩))
      · rw [List.mem_singleton] at h4; subst h4; exact .inr ⟨h2.symm, h3.symm⟩
section
variable {D : Dk} {N : Nat}
theorem write_poss {i : Nat} {b : Bk} {j : Nat} {x : Bk} (hp : Poss (writeM D (i : Int) b).1 j x) : Poss D j x ∨ (j = i ∧ x = b) := by
  unfold writeM at hp
  split at hp
  · exact .inl hp
  · split at hp
    · exact .inl (poss_turn rfl rfl hp)
    · split at hp
      · exact .inl (poss_turn rfl rfl hp)
      · rcases poss_hold (D := fuseM (flawM D)) ⟨(i : Int).toNat, b⟩ (poss_turn rfl rfl hp) with h | ⟨h1, h2⟩
        · exact .inl (poss_turn rfl rfl h)
        · exact .inr ⟨by simpa using h1, h2⟩
theorem sync_poss {j : Nat} {x : Bk} (hp : Poss (syncM D).1 j x) : Poss D j x := by
  unfold syncM at hp
  split at hp
  · exact hp
  · split at hp
    · exact poss_turn rfl rfl hp
    · split at hp
      · exact poss_turn rfl rfl hp
      · exact poss_turn (D := D) rfl rfl (poss_drain (D := fuseM (flawM D)) D.rows.length (poss_turn rfl rfl hp))
theorem puts_poss : ∀ (l : List (Nat × Bk)) {D : Dk} {j : Nat} {x : Bk}, Poss (putsM D l).1 j x → Poss D j x ∨ ∃ y ∈ l, j = y.1 ∧ x = y.2
  | [], D, j, x, hp => .inl hp
  | y :: l, D, j, x, hp => by
    unfold putsM at hp
    have hw : Poss (writeM D (y.1 : Int) y.2).1 j x → Poss D j x ∨ ∃ z ∈ y :: l, j = z.1 ∧ x = z.2 := fun h => by
      rcases write_poss h with h1 | h1
      · exact .inl h1
      · exact .inr ⟨y, by simp, h1⟩
    split at hp
    · rcases puts_poss l hp with h | ⟨z, hz, h1⟩
      · exact hw h
      · exact .inr ⟨z, by simp [hz], h1⟩
    · exact hw hp
theorem lay_poss {l : List (Nat × Bk)} {j : Nat} {x : Bk} (hp : Poss (layM D l).1 j x) : Poss D j x ∨ ∃ y ∈ l, j = y.1 ∧ x = y.2 := by
  unfold layM at hp
  split at hp
  · exact puts_poss l (sync_poss hp)
  · exact puts_poss l hp
/-- What is kept of a disk, come what may. -/
theorem reach_low {i : Nat} (h : reachE D (i : Int) = 0) : D.dead = false ∧ i < D.plate.length := by
  unfold reachE at h
  cases hd : D.dead with
  | true => rw [hd] at h; simp at h
  | false =>
    rw [hd] at h
    refine ⟨rfl, ?_⟩
    by_cases hi : i < D.plate.length
    · exact hi
    · exfalso
      simp at h
      omega
theorem write_keeps (hn : D.Nod N) (i : Nat) (b : Bk) : (writeM D (i : Int) b).1.Nod N ∧ ((writeM D (i : Int) b).2 = 0 → (writeM D (i : Int) b).1.dead = false ∧ showsM (writeM D (i : Int) b).1 = setF (showsM D) (i, b)) ∧ (D.fuse = none → (writeM D (i : Int) b).1.fuse = none ∧ (writeM D (i : Int) b).1.dead = D.dead) := by
  unfold writeM
  by_cases hr : reachE D (i : Int) ≠ 0
  · rw [if_pos hr]
    exact ⟨hn, fun h => absurd h hr, fun h => ⟨h, rfl⟩⟩
  · rw [if_neg hr]
    obtain ⟨hd, hi⟩ := reach_low (by simpa using hr)
    by_cases hf : D.fuse = some 0
    · rw [if_pos hf]
      exact ⟨nod_turn hn rfl rfl, fun h => by simp at h, fun h => by rw [h] at hf; cases hf⟩
    · rw [if_neg hf]
      by_cases hl : D.flaw = some 0
      · rw [if_pos hl]
        exact ⟨nod_turn hn rfl rfl, fun h => by simp at h, fun h => ⟨h, rfl⟩⟩
      · rw [if_neg hl]
        have h1 := shows_hold (D := fuseM (flawM D)) (i := i) (nod_turn hn rfl rfl) (by rw [← hn.len]; exact hi) b
        have h2 : (i : Int).toNat = i := by simp
        rw [h2]
        have hdd : ∀ (E : Dk) (r : Rw), (holdM E r).dead = E.dead ∧ (holdM E r).fuse = E.fuse := by
          have hds : ∀ (l : List Rw) (E : Dk), (downsM E l).dead = E.dead ∧ (downsM E l).fuse = E.fuse := by
            intro l
            induction l with
            | nil => exact fun E => ⟨rfl, rfl⟩
            | cons r l ih => exact fun E => ih (downM E r)
          intro E r
          unfold holdM
          split
          · exact ⟨rfl, rfl⟩
          · split
            · exact hds _ E
            · exact ⟨rfl, rfl⟩
        refine ⟨nod_turn h1.1 rfl rfl, fun _ => ⟨(hdd _ _).1.trans hd, (shows_turn rfl rfl).trans (h1.2.trans (by rw [shows_turn (D := D) (E := fuseM (flawM D)) rfl rfl]))⟩, fun h => ⟨?_, (hdd _ _).1⟩⟩
        refine (hdd _ _).2.trans ?_
        show passO D.fuse = none
        rw [h]; rfl
theorem sync_keeps (hn : D.Nod N) : (syncM D).1.Nod N ∧ showsM (syncM D).1 = showsM D ∧ ((syncM D).2 = 0 → (syncM D).1.dead = false ∧ (syncM D).1.rows = []) ∧ (D.fuse = none → (syncM D).1.fuse = none ∧ (syncM D).1.dead = D.dead) := by
  unfold syncM
  by_cases hd : D.dead = true
  · rw [if_pos hd]
    exact ⟨hn, rfl, fun h => by simp at h, fun h => ⟨h, rfl⟩⟩
  · rw [if_neg hd]
    by_cases hf : D.fuse = some 0
    · rw [if_pos hf]
      exact ⟨nod_turn hn rfl rfl, shows_turn rfl rfl, fun h => by simp at h, fun h => by rw [h] at hf; cases hf⟩
    · rw [if_neg hf]
      by_cases hl : D.flaw = some 0
      · rw [if_pos hl]
        exact ⟨nod_turn hn rfl rfl, shows_turn rfl rfl, fun h => by simp at h, fun h => ⟨h, rfl⟩⟩
      · rw [if_neg hl]
        have h0 : (fuseM (flawM D)).Nod N := nod_turn hn rfl rfl
        have hds : ∀ (l : List Rw) (E : Dk), (downsM E l).dead = E.dead ∧ (downsM E l).fuse = E.fuse := by
          intro l
          induction l with
          | nil => exact fun E => ⟨rfl, rfl⟩
          | cons r l ih => exact fun E => ih (downM E r)
        have hdf : D.dead = false := by simpa using hd
        refine ⟨nod_turn (nod_drain h0 D.rows.length) rfl rfl, (shows_turn rfl rfl).trans (funext fun j => (shows_drain h0 D.rows.length j).trans (by rw [shows_turn (D := D) (E := fuseM (flawM D)) rfl rfl])), fun _ => ⟨(hds _ _).1.trans hdf, ?_⟩, fun h => ⟨?_, (hds _ _).1⟩⟩
        · show (fuseM (flawM D)).rows.drop D.rows.length = []
          exact List.drop_eq_nil_of_le (Nat.le_refl _)
        · refine (hds _ _).2.trans ?_
          show passO D.fuse = none
          rw [h]; rfl
theorem puts_keeps : ∀ (l : List (Nat × Bk)) {D : Dk}, D.Nod N → (putsM D l).1.Nod N ∧ ((putsM D l).2 = 0 → (D.dead = false → (putsM D l).1.dead = false) ∧ showsM (putsM D l).1 = putF (showsM D) l) ∧ (D.fuse = none → (putsM D l).1.fuse = none ∧ (putsM D l).1.dead = D.dead)
  | [], D, hn => ⟨hn, fun _ => ⟨fun h => h, rfl⟩, fun h => ⟨h, rfl⟩⟩
  | x :: l, D, hn => by
    obtain ⟨h1, h2, h3⟩ := write_keeps hn x.1 x.2
    unfold putsM
    by_cases h : (writeM D (x.1 : Int) x.2).2 = 0
    · rw [if_pos h]
      obtain ⟨h4, h5, h6⟩ := puts_keeps l h1
      refine ⟨h4, fun h7 => ⟨fun _ => (h5 h7).1 (h2 h).1, ?_⟩, fun h7 => ?_⟩
      · rw [(h5 h7).2, (h2 h).2]; rfl
      · obtain ⟨h8, h9⟩ := h6 (h3 h7).1
        exact ⟨h8, h9.trans (h3 h7).2⟩
    · rw [if_neg h]
      exact ⟨h1, fun h7 => absurd h7 h, h3⟩
theorem lay_keeps (l : List (Nat × Bk)) (hn : D.Nod N) : (layM D l).1.Nod N ∧ ((layM D l).2 = 0 → (layM D l).1.dead = false ∧ (layM D l).1.rows = [] ∧ showsM (layM D l).1 = putF (showsM D) l) ∧ (D.fuse = none → (layM D l).1.fuse = none ∧ (layM D l).1.dead = D.dead) := by
  obtain ⟨h1, h2, h3⟩ := puts_keeps l hn
  unfold layM
  by_cases h : (putsM D l).2 = 0
  · rw [if_pos h]
    obtain ⟨h4, h5, h6, h7⟩ := sync_keeps h1
    exact ⟨h4, fun h8 => ⟨(h6 h8).1, (h6 h8).2, h5.trans (h2 h).2⟩, fun h8 => by
      obtain ⟨h9, h10⟩ := h7 (h3 h8).1
      exact ⟨h9, h10.trans (h3 h8).2⟩⟩
  · rw [if_neg h]
    exact ⟨h1, fun h7 => absurd h7 h, h3⟩
theorem read_keeps (hn : D.Nod N) (i : Nat) : (readM D (i : Int)).1.plate = D.plate ∧ (readM D (i : Int)).1.rows = D.rows ∧ (readM D (i : Int)).1.dead = D.dead ∧ (readM D (i : Int)).1.fuse = D.fuse ∧ ((readM D (i : Int)).2.2 = 0 → (readM D (i : Int)).2.1 = showsM D i) := by
  unfold readM
  by_cases hr : reachE D (i : Int) ≠ 0
  · rw [if_pos hr]
    exact ⟨rfl, rfl, rfl, rfl, fun h => absurd h hr⟩
  · rw [if_neg hr]
    by_cases hl : D.flaw = some 0
    · rw [if_pos hl]
      exact ⟨rfl, rfl, rfl, rfl, fun h => by simp at h⟩
    · rw [if_neg hl]
      exact ⟨rfl, rfl, rfl, rfl, fun _ => by simp⟩
theorem reads_keeps (hn : D.Nod N) (first : Nat) : ∀ k, (readsM D first k).1.plate = D.plate ∧ (readsM D first k).1.rows = D.rows ∧ (readsM D first k).1.dead = D.dead ∧ (readsM D first k).1.fuse = D.fuse ∧ ((readsM D first k).2.2 = 0 → (readsM D first k).2.1 = (List.range k).map (fun i => showsM D (first + i)))
  | 0 => ⟨rfl, rfl, rfl, rfl, fun _ => rfl⟩
  | k + 1 => by
    obtain ⟨h1, h2, h3, h4, h5⟩ := reads_keeps hn first k
    obtain ⟨⟨E, L, e⟩, hE⟩ : ∃ x, readsM D first k = x := ⟨_, rfl⟩
    rw [hE] at h1 h2 h3 h4 h5
    have hn2 : E.Nod N := nod_turn hn h1 h2
    obtain ⟨g1, g2, g3, g4, g5⟩ := read_keeps hn2 (first + k)
    obtain ⟨⟨E2, b, er⟩, hE2⟩ : ∃ x, readM E ((first + k : Nat) : Int) = x := ⟨_, rfl⟩
    rw [hE2] at g1 g2 g3 g4 g5
    by_cases he : e = 0
    · subst he
      have hx := readsM_next hE hE2
      by_cases her : er = 0
      · rw [if_neg (by simpa using her)] at hx
        rw [hx]
        refine ⟨g1.trans h1, g2.trans h2, g3.trans h3, g4.trans h4, fun _ => ?_⟩
        show L ++ [b] = _
        rw [show L = _ from h5 rfl, show b = _ from g5 her, List.range_succ, List.map_append, shows_turn (D := D) (E := E) h1 h2]
        rfl
      · rw [if_pos her] at hx
        rw [hx]
        exact ⟨g1.trans h1, g2.trans h2, g3.trans h3, g4.trans h4, fun h => absurd h her⟩
    · have hx : readsM D first (k + 1) = (E, L, e) := by
        unfold readsM
        rw [hE]
        exact if_pos he
      rw [hx]
      exact ⟨h1, h2, h3, h4, fun h => absurd h he⟩
theorem crash_poss (ks : List Bool) {i : Nat} {b : Bk} (hp : Poss (crashM D ks) i b) : Poss D i b := by
  have h0 : b = (crashM D ks).plate.getD i Bk.zero := by
    rcases hp with h | ⟨r, hr, _⟩
    · exact h
    · cases hr
  have hf : ∀ (l : List (Nat × Rw)) (E : Dk), (crashF E ks l).plate.getD i Bk.zero = E.plate.getD i Bk.zero ∨ ∃ x ∈ l, x.2.s = i ∧ x.2.b = (crashF E ks l).plate.getD i Bk.zero := by
    intro l
    induction l with
    | nil => exact fun E => .inl rfl
    | cons x l ih =>
      intro E
      have e : crashF E ks (x :: l) = crashF (if ks.getD x.1 false = true then downM E x.2 else E) ks l := rfl
      rw [e]
      rcases ih (if ks.getD x.1 false = true then downM E x.2 else E) with h | ⟨y, hy, h1, h2⟩
      · rw [h]
        split
        · rcases set_at E.plate x.2.s i x.2.b with h3 | ⟨h3, h4⟩
          · exact .inl h3
          · exact .inr ⟨x, by simp, h3, h4.symm⟩
        · exact .inl rfl
      · exact .inr ⟨y, by simp [hy], h1, h2⟩
  rcases hf ((upTo D.rows D.rows.length).map (·.1)) D with h | ⟨x, hx, h1, h2⟩
  · exact .inl (h0.trans h)
  · refine .inr ⟨x.2, ?_, h1, h2.trans h0.symm⟩
    obtain ⟨y, hy, rfl⟩ := List.mem_map.1 hx
    exact List.mem_of_getElem? y.2
theorem crash_keeps (hn : D.Nod N) (ks : List Bool) : (crashM D ks).Nod N ∧ (crashM D ks).Well N ∧ (crashM D ks).rows = [] := by
  have hl : (crashM D ks).plate.length = N := (crashF_len D ks _).trans hn.len
  exact ⟨⟨by show ([] : List Nat).Nodup; simp, (by intro r hr; cases hr), hl⟩, ⟨rfl, rfl, rfl, hl⟩, rfl⟩
end
end Go.Proofs.Ytelpihlifdfgoaa
namespace Go.Proofs.Ytelpihlifdfgoaa
open Go.RowKit Go.Shelf
set_option linter.unusedVariables false
/-- The numbers of a log. -/
structure LogN (n t c : Nat) (s : List Nat) (txs : List (List Nat)) : Prop where
  t0 : 0 < t ∧ t ≤ 4294967295
  c2 : c < 2
  n4 : 4 ≤ n ∧ n ≤ 1000
  fit : (chainB t s txs).length ≤ n
  len : s.length ≤ 40000 ∧ Bys s ∧ ∀ x ∈ txs, x.length ≤ 40000 ∧ Bys x
/-- What a sector of a log may be. -/
structure Per (n t c : Nat) (s : List Nat) (txs : List (List Nat)) (i : Nat) (b : Bk) : Prop where
  byt : b.Byt
  lab : i < 2 → b = labL n
  chain : ∀ k x, i = 2 + c * n + k → (chainB t s txs)[k]? = some x → b = x
  rest : 2 ≤ i → ¬ (2 + c * n ≤ i ∧ i < 2 + c * n + (chainB t s txs).length) → num4 b.n 0 < t
section
variable {f : Nat → Bk} {n t c : Nat} {s : List Nat} {txs : List (List Nat)}
theorem LogN.cn (h : LogN n t c s txs) : c * n + n ≤ 2 * n := by
  have := h.c2
  rcases (show c = 0 ∨ c = 1 by omega) with rfl | rfl <;> omega
theorem LogN.more (h : LogN n t c s txs) : txs.length ≤ n := by
  have h1 := h.fit
  have h2 := txs_le t 0 txs h.len.2.2
  unfold chainB at h1
  rw [List.length_append] at h1
  omega
theorem LogF.nums (h : LogF f n t c s txs) : LogN n t c s txs := ⟨h.t0, h.c2, h.n4, h.fit, h.len⟩
theorem LogF.per (h : LogF f n t c s txs) {i : Nat} (hi : i < 2 + 2 * n) : Per n t c s txs i (f i) := by
  refine ⟨h.byt i hi, fun hl => ?_, fun k x e hx => ?_, fun h2 hno => ?_⟩
  · rcases (show i = 0 ∨ i = 1 by omega) with rfl | rfl
    · exact h.lab.1
    · exact h.lab.2
  · rw [e]; exact h.chain k x hx
  · have := h.rest (i - 2) (by omega) (by omega)
    rwa [show 2 + (i - 2) = i by omega] at this
theorem logf_per (hN : LogN n t c s txs) (h : ∀ i, i < 2 + 2 * n → Per n t c s txs i (f i)) : LogF f n t c s txs := by
  have hn4 := hN.n4
  have hcn := hN.cn
  have hfit := hN.fit
  refine ⟨⟨(h 0 (by omega)).lab (by omega), (h 1 (by omega)).lab (by omega)⟩, hN.t0, hN.c2, hN.n4, hN.fit, hN.len, fun k b hk => ?_, fun i hi hno => (h (2 + i) (by omega)).rest (by omega) (by omega), fun i hi => (h i hi).byt⟩
  have hk2 := (List.getElem?_eq_some_iff.1 hk).1
  exact (h (2 + c * n + k) (by omega)).chain k b rfl hk
/-- A frame on its way: an append's, or a checkpoint's. -/
structure Pend (n t c : Nat) (s : List Nat) (txs : List (List Nat)) (q t' m' : Nat) (l : List Nat) : Prop where
  nums : LogN n t c s txs
  len : l.length ≤ 40000
  bys : Bys l
  kind : (t' = t ∧ m' = txs.length + 1 ∧ q = 2 + c * n + (chainB t s txs).length ∧ (chainB t s txs).length + secN l.length ≤ n) ∨ (t' = t + 1 ∧ t < 4294967295 ∧ m' = 0 ∧ q = 2 + (1 - c) * n ∧ secN l.length ≤ n)
def PerP (n t c : Nat) (s : List Nat) (txs : List (List Nat)) (q t' m' : Nat) (l : List Nat) (i : Nat) (b : Bk) : Prop :=
  Per n t c s txs i b ∨ (q ≤ i ∧ i < q + secN l.length ∧ b = (partAt t' m' l (i - q)).blk)
variable {q t' m' : Nat} {l : List Nat}
theorem Pend.nums4 (h : Pend n t c s txs q t' m' l) : t ≤ t' ∧ t' ≤ 4294967295 ∧ m' ≤ 4294967295 := by
  have h1 := h.nums.t0
  have h2 := h.nums.more
  have h3 := h.nums.n4
  rcases h.kind with h | h <;> omega
theorem Pend.far (h : Pend n t c s txs q t' m' l) : 2 ≤ q ∧ q + secN l.length ≤ 2 + 2 * n ∧ (2 + c * n + (chainB t s txs).length ≤ q ∨ q + secN l.length ≤ 2 + c * n) := by
  have h1 := h.nums.c2
  have h2 := h.nums.fit
  rcases (show c = 0 ∨ c = 1 by omega) with rfl | rfl <;> rcases h.kind with ⟨a1, a2, a3, a4⟩ | ⟨a1, a2, a3, a4, a5⟩ <;> omega
theorem Pend.turn (h : Pend n t c s txs q t' m' l) (k : Nat) : num4 (partAt t' m' l k).blk.n 0 = t' := part_turn h.nums4.2.1 h.nums4.2.2 h.bys
theorem PerP.byt (h : Pend n t c s txs q t' m' l) {i : Nat} {b : Bk} (hp : PerP n t c s txs q t' m' l i b) : b.Byt := by
  rcases hp with hp | ⟨_, _, rfl⟩
  · exact hp.byt
  · exact part_byt h.nums4.2.1 h.nums4.2.2 h.bys
/-- A frame whose first sector is the other's has as many. -/
theorem part_same {t1 m1 : Nat} {x : List Nat} (h1 : t1 ≤ 4294967295 ∧ m1 ≤ 4294967295 ∧ Bys x ∧ x.length ≤ 40000) (h2 : t' ≤ 4294967295 ∧ m' ≤ 4294967295 ∧ Bys l ∧ l.length ≤ 40000) (h : (partAt t1 m1 x 0).blk = (partAt t' m' l 0).blk) : t1 = t' ∧ m1 = m' ∧ secN x.length = secN l.length := by
  have e1 := pqOf_blk (partAt_ok (n := m1) (l := x) h1.1 h1.2.1 h1.2.2.1 0)
  have e2 := pqOf_blk (partAt_ok (n := m') (l := l) h2.1 h2.2.1 h2.2.2.1 0)
  rw [h, e2] at e1
  have p1 := (secN_pos h1.2.2.2).1
  have p2 := (secN_pos h2.2.2.2).1
  have a1 : t' = t1 := congrArg Pt.t e1
  have a2 : m' = m1 := congrArg Pt.n e1
  have a3 : secN l.length - 1 - 0 = secN x.length - 1 - 0 := congrArg Pt.bh e1
  omega
/-- Where a frame of that turn, or a later one, stands from its place on, the pending one does, whole. -/
theorem pend_whole (h : Pend n t c s txs q t' m' l) (hP : ∀ i, i < 2 + 2 * n → PerP n t c s txs q t' m' l i (f i)) {t1 m1 : Nat} {x : List Nat} (h1 : t1 ≤ 4294967295 ∧ m1 ≤ 4294967295 ∧ Bys x ∧ x.length ≤ 40000) (ht : t ≤ t1) (hx : ∀ k, k < secN x.length → f (q + k) = (partAt t1 m1 x k).blk) :
    ∀ k, k < secN l.length → f (q + k) = (partAt t' m' l k).blk := by
  have hf := h.far
  have p1 := (secN_pos h1.2.2.2).1
  have p2 := (secN_pos h.len).1
  have pend : ∀ k, k < secN x.length → q + k < 2 + 2 * n → q + k < q + secN l.length ∧ f (q + k) = (partAt t' m' l k).blk := by
    intro k hk hk2
    rcases hP (q + k) hk2 with hp | ⟨g1, g2, g3⟩
    · exfalso
      by_cases hr : q + k < q + secN l.length
      · have := hp.rest (by omega) (by omega)
        rw [hx k hk, part_turn h1.1 h1.2.1 h1.2.2.1] at this
        omega
      · exact absurd hr (by
          have h0 := hP q (by omega)
          rcases h0 with h0 | ⟨g1, g2, g3⟩
          · have := h0.rest (by omega) (by omega)
            have e := hx 0 (by omega)
            rw [Nat.add_zero] at e
            rw [e, part_turn h1.1 h1.2.1 h1.2.2.1] at this
            omega
          · have e := hx 0 (by omega)
            rw [Nat.add_zero] at e
            rw [e, Nat.sub_self] at g3
            have := (part_same h1 ⟨h.nums4.2.1, h.nums4.2.2, h.bys, h.len⟩ g3).2.2
            omega)
    · refine ⟨g2, ?_⟩
      rw [g3, show q + k - q = k by omega]
  have h0 := pend 0 (by omega) (by omega)
  have e0 := hx 0 (by omega)
  rw [h0.2] at e0
  have hs := (part_same h1 ⟨h.nums4.2.1, h.nums4.2.2, h.bys, h.len⟩ e0.symm).2.2
  intro k hk
  exact (pend k (by omega) (by omega)).2
/-- All of it stands: the log with it. -/
theorem whole_app (h : Pend n t c s txs q t m' l) (hk : m' = txs.length + 1 ∧ q = 2 + c * n + (chainB t s txs).length ∧ (chainB t s txs).length + secN l.length ≤ n) (hP : ∀ i, i < 2 + 2 * n → PerP n t c s txs q t m' l i (f i)) (hw : ∀ k, k < secN l.length → f (q + k) = (partAt t m' l k).blk) : LogF f n t c s (txs ++ [l]) := by
  obtain ⟨rfl, rfl, hfit⟩ := hk
  have hN := h.nums
  have hlen : (chainB t s (txs ++ [l])).length = (chainB t s txs).length + secN l.length := by rw [chainB_snoc, List.length_append, frameB_len]
  refine logf_per ⟨hN.t0, hN.c2, hN.n4, by rw [hlen]; exact hfit, hN.len.1, hN.len.2.1, fun x hx => ?_⟩ (fun i hi => ⟨(hP i hi).byt h, fun hl => ?_, fun k x e hx => ?_, fun h2 hno => ?_⟩)
  · rcases List.mem_append.1 hx with h1 | h1
    · exact hN.len.2.2 x h1
    · rw [List.mem_singleton.1 h1]; exact ⟨h.len, h.bys⟩
  · rcases hP i hi with hp | ⟨g1, _, _⟩
    · exact hp.lab hl
    · omega
  · subst e
    rw [chainB_snoc] at hx
    by_cases h1 : k < (chainB t s txs).length
    · rw [List.getElem?_append_left h1] at hx
      rcases hP _ hi with hp | ⟨g1, _, _⟩
      · exact hp.chain k x rfl hx
      · omega
    · rw [List.getElem?_append_right (by omega)] at hx
      obtain ⟨h2, rfl⟩ := frameB_get hx
      have := hw _ h2
      rwa [show 2 + c * n + (chainB t s txs).length + (k - (chainB t s txs).length) = 2 + c * n + k by omega] at this
  · rw [hlen] at hno
    rcases hP i hi with hp | ⟨g1, g2, _⟩
    · exact hp.rest h2 (by omega)
    · omega
theorem whole_chk (h : Pend n t c s txs q (t + 1) m' l) (hk : t < 4294967295 ∧ m' = 0 ∧ q = 2 + (1 - c) * n ∧ secN l.length ≤ n) (hP : ∀ i, i < 2 + 2 * n → PerP n t c s txs q (t + 1) m' l i (f i)) (hw : ∀ k, k < secN l.length → f (q + k) = (partAt (t + 1) m' l k).blk) : LogF f n (t + 1) (1 - c) l [] := by
  obtain ⟨ht, rfl, rfl, hfit⟩ := hk
  have hN := h.nums
  have hc := hN.c2
  have hlen : (chainB (t + 1) l []).length = secN l.length := by rw [chainB_one, frameB_len]
  refine logf_per ⟨by omega, by omega, hN.n4, by rw [hlen]; exact hfit, h.len, h.bys, by simp⟩ (fun i hi => ⟨(hP i hi).byt h, fun hl => ?_, fun k x e hx => ?_, fun h2 hno => ?_⟩)
  · rcases hP i hi with hp | ⟨g1, _, _⟩
    · exact hp.lab hl
    · omega
  · subst e
    rw [chainB_one] at hx
    obtain ⟨h2, rfl⟩ := frameB_get hx
    exact hw _ h2
  · rw [hlen] at hno
    rcases hP i hi with hp | ⟨g1, g2, _⟩
    · by_cases h1 : 2 + c * n ≤ i ∧ i < 2 + c * n + (chainB t s txs).length
      · have hx : (chainB t s txs)[i - (2 + c * n)]? = some ((chainB t s txs)[i - (2 + c * n)]'(by omega)) := List.getElem?_eq_getElem (by omega)
        have h3 := hp.chain _ _ (by omega) hx
        have h4 := chain_turn hN.t0.2 hN.len.2.1 hN.len.2.2 (by have := hN.more; have := hN.n4; omega) _ (List.mem_of_getElem? hx)
        rw [h3]
        omega
      · have := hp.rest h2 h1
        omega
    · omega
theorem best_of (ht : 0 < t) (hc : c < 2) (h1 : chainR (areaL f (2 + c * n) n) = some (t, s, txs, (chainB t s txs).length)) (h2 : ∀ d, d < 2 → d ≠ c → turnOf (chainR (areaL f (2 + d * n) n)) < t) : bestR (areaL f 2 n) (areaL f (2 + n) n) 2 = (some (t, s, txs, (chainB t s txs).length), c) := by
  show better (better (none, 0) (areaL f 2 n) 0) (areaL f (2 + n) n) 1 = _
  rcases (show c = 0 ∨ c = 1 by omega) with rfl | rfl
  · have h2 := h2 1 (by omega) (by omega)
    rw [Nat.zero_mul, Nat.add_zero] at h1
    rw [Nat.one_mul] at h2
    unfold better
    rw [h1]
    have e : turnOf (none, 0).1 < turnOf (some (t, s, txs, (chainB t s txs).length)) := ht
    rw [if_pos e]
    exact if_neg (Nat.not_lt.2 (Nat.le_of_lt h2))
  · have h2 := h2 0 (by omega) (by omega)
    rw [Nat.zero_mul, Nat.add_zero] at h2
    rw [Nat.one_mul] at h1
    unfold better
    rw [h1]
    by_cases h3 : turnOf ((none, 0) : Option (Nat × List Nat × List (List Nat) × Nat) × Nat).1 < turnOf (chainR (areaL f 2 n))
    · rw [if_pos h3]
      exact if_pos h2
    · rw [if_neg h3]
      exact if_pos ht
/-- Not all of it stands: the log is what it was. -/
theorem part_counts (h : Pend n t c s txs q t' m' l) (hP : ∀ i, i < 2 + 2 * n → PerP n t c s txs q t' m' l i (f i)) (hw : ¬ ∀ k, k < secN l.length → f (q + k) = (partAt t' m' l k).blk) : chainR (areaL f (2 + c * n) n) = some (t, s, txs, (chainB t s txs).length) := by
  have hN := h.nums
  have hfit := hN.fit
  have hcn := hN.cn
  have hf := h.far
  have hL : areaL f (2 + c * n) n = chainB t s txs ++ (areaL f (2 + c * n) n).drop (chainB t s txs).length := by
    have ht : (areaL f (2 + c * n) n).take (chainB t s txs).length = chainB t s txs := by
      apply List.ext_getElem?
      intro k
      rw [List.getElem?_take]
      by_cases hk : k < (chainB t s txs).length
      · rw [if_pos hk, areaL_at _ _ _ _ (by omega), List.getElem?_eq_getElem hk]
        rcases hP (2 + c * n + k) (by omega) with hp | ⟨g1, g2, _⟩
        · rw [hp.chain k _ rfl (List.getElem?_eq_getElem hk)]
        · omega
      · rw [if_neg hk, List.getElem?_eq_none (by omega)]
    conv => lhs; rw [← List.take_append_drop (chainB t s txs).length (areaL f (2 + c * n) n), ht]
  have hbyt : ∀ b ∈ areaL f (2 + c * n) n, b.Byt := fun b hb => by
    obtain ⟨k, hk, rfl⟩ := List.mem_map.1 hb
    have := List.mem_range.1 hk
    exact (hP _ (by omega)).byt h
  refine chain_stands hN.t0.1 hN.t0.2 hN.len.1 hN.len.2.1 hN.len.2.2 (by have := hN.more; have := hN.n4; omega) hL (fun x hx => ?_)
  have hb2 : ∀ b ∈ (areaL f (2 + c * n) n).drop (chainB t s txs).length, b.Byt := fun b hb => hbyt b (List.mem_of_mem_drop hb)
  have hnum := foundR_nums hb2 hx
  have hfits := foundR_fits hx
  obtain ⟨_, R, hR⟩ := frame_found hb2 hx
  have hat : ∀ k, k < secN x.length → f (2 + c * n + (chainB t s txs).length + k) = (partAt t (txs.length + 1) x k).blk ∧ (chainB t s txs).length + k < n := by
    intro k hk
    have h0 : ((areaL f (2 + c * n) n).drop (chainB t s txs).length)[k]? = some (partAt t (txs.length + 1) x k).blk := by rw [hR, List.getElem?_append_left (by rw [frameB_len]; exact hk)]; exact frameB_at hk
    rw [List.getElem?_drop] at h0
    have hlt : (chainB t s txs).length + k < n := by
      have := (List.getElem?_eq_some_iff.1 h0).1
      rwa [areaL_len] at this
    rw [areaL_at _ _ _ _ hlt] at h0
    refine ⟨?_, hlt⟩
    rw [Nat.add_assoc]
    exact Option.some.inj h0
  rcases h.kind with ⟨a1, a2, a3, a4⟩ | ⟨a1, a2, a3, a4, a5⟩
  · exact hw (pend_whole h hP ⟨hnum.1, hnum.2.1, hnum.2.2, hfits.1⟩ (Nat.le_refl _) (fun k hk => by rw [a3]; exact (hat k hk).1))
  · have h0 := hat 0 hfits.2.2
    rw [Nat.add_zero, Nat.add_zero] at h0
    have hc := hN.c2
    rcases hP (2 + c * n + (chainB t s txs).length) (by omega) with hp | ⟨g1, g2, _⟩
    · have h1 := hp.rest (by omega) (by omega)
      rw [h0.1, part_turn hnum.1 hnum.2.1 hnum.2.2] at h1
      omega
    · rcases (show c = 0 ∨ c = 1 by omega) with rfl | rfl <;> omega
theorem part_other (h : Pend n t c s txs q t' m' l) (hP : ∀ i, i < 2 + 2 * n → PerP n t c s txs q t' m' l i (f i)) (hw : ¬ ∀ k, k < secN l.length → f (q + k) = (partAt t' m' l k).blk) {d : Nat} (hd : d < 2) (hdc : d ≠ c) : turnOf (chainR (areaL f (2 + d * n) n)) < t := by
  have hN := h.nums
  have h0 := hN.t0
  have hn := hN.n4
  have hc := hN.c2
  have hfit := hN.fit
  cases hch : chainR (areaL f (2 + d * n) n) with
  | none => exact h0.1
  | some y =>
    obtain ⟨t1, l1, x1, u1⟩ := y
    have hdn : d * n + n ≤ 2 * n := by rcases (show d = 0 ∨ d = 1 by omega) with rfl | rfl <;> omega
    have hbyt : ∀ b ∈ areaL f (2 + d * n) n, b.Byt := fun b hb => by
      obtain ⟨k, hk, rfl⟩ := List.mem_map.1 hb
      have := List.mem_range.1 hk
      exact (hP _ (by omega)).byt h
    obtain ⟨g1, g2, g3, g4, g5, R, hR, g7, g8⟩ := chain_found hbyt hch
    have hat : ∀ k, k < secN l1.length → f (2 + d * n + k) = (partAt t1 0 l1 k).blk ∧ k < n := by
      intro k hk
      have h1 : (areaL f (2 + d * n) n)[k]? = some (partAt t1 0 l1 k).blk := by
        rw [hR]
        unfold chainB
        rw [List.append_assoc, List.getElem?_append_left (by rw [frameB_len]; exact hk)]
        exact frameB_at hk
      have hlt : k < n := by
        have := (List.getElem?_eq_some_iff.1 h1).1
        rwa [areaL_len] at this
      rw [areaL_at _ _ _ _ hlt] at h1
      exact ⟨Option.some.inj h1, hlt⟩
    have hs := (secN_pos g3).1
    have e0 := (hat 0 (by omega)).1
    rw [Nat.add_zero] at e0
    show t1 < t
    by_cases htt : t1 < t
    · exact htt
    · exfalso
      rcases hP (2 + d * n) (by omega) with hp | ⟨k1, k2, _⟩
      · have h1 := hp.rest (by omega) (by rcases (show d = 0 ∧ c = 1 ∨ d = 1 ∧ c = 0 by omega) with ⟨rfl, rfl⟩ | ⟨rfl, rfl⟩ <;> omega)
        rw [e0, part_turn g2 (by omega) g4] at h1
        omega
      · rcases h.kind with ⟨a1, a2, a3, a4⟩ | ⟨a1, a2, a3, a4, a5⟩
        · rcases (show d = 0 ∧ c = 1 ∨ d = 1 ∧ c = 0 by omega) with ⟨rfl, rfl⟩ | ⟨rfl, rfl⟩ <;> omega
        · have hq : q = 2 + d * n := by rw [a4]; rcases (show d = 0 ∧ c = 1 ∨ d = 1 ∧ c = 0 by omega) with ⟨rfl, rfl⟩ | ⟨rfl, rfl⟩ <;> rfl
          exact hw (pend_whole (t1 := t1) (m1 := 0) (x := l1) h hP ⟨g2, by omega, g4, g3⟩ (by omega) (fun k hk => by rw [hq]; exact (hat k hk).1))
/-- What is wiped. -/
theorem told_mem {L : List Bk} {first t u i : Nat} {cs : Bool} : i ∈ toldL L first t u cs L.length ↔ ∃ k, k < L.length ∧ keepL L t u cs k = true ∧ first + k = i := by
  unfold toldL
  simp only [List.mem_map, List.mem_filter, List.mem_range]
  constructor
  · rintro ⟨k, ⟨h1, h2⟩, h3⟩; exact ⟨k, h1, h2, h3⟩
  · rintro ⟨k, h1, h2, h3⟩; exact ⟨k, ⟨h1, h2⟩, h3⟩
theorem keep_at {f : Nat → Bk} {first n t u k : Nat} {cs : Bool} (hk : k < n) : keepL (areaL f first n) t u cs k = (!(cs && decide (k < u)) && !decide (num4 (f (first + k)).n 0 < t)) := by
  unfold keepL
  rw [List.getD_eq_getElem?_getD, areaL_at _ _ _ _ hk, Option.getD_some]
theorem left_mem {u i : Nat} (hc : c < 2) (hu : u ≤ n) : i ∈ leftPl (areaL f 2 n) (areaL f (2 + n) n) t u n c ↔ 2 ≤ i ∧ i < 2 + 2 * n ∧ ¬ (2 + c * n ≤ i ∧ i < 2 + c * n + u) ∧ t ≤ num4 (f i).n 0 := by
  unfold leftPl
  rw [List.mem_append, told_mem, told_mem, areaL_len, areaL_len]
  constructor
  · rintro (⟨k, h1, h2, rfl⟩ | ⟨k, h1, h2, rfl⟩)
    · rw [keep_at h1] at h2
      simp at h2
      rcases (show c = 0 ∨ c = 1 by omega) with rfl | rfl
      · simp at h2; omega
      · simp at h2; omega
    · rw [keep_at h1] at h2
      simp at h2
      rcases (show c = 0 ∨ c = 1 by omega) with rfl | rfl
      · simp at h2; omega
      · simp at h2; omega
  · rintro ⟨h1, h2, h3, h4⟩
    by_cases hi : i < 2 + n
    · left
      refine ⟨i - 2, by omega, ?_, by omega⟩
      rw [keep_at (by omega), show 2 + (i - 2) = i by omega]
      rcases (show c = 0 ∨ c = 1 by omega) with rfl | rfl
      · simp; omega
      · simp; omega
    · right
      refine ⟨i - (2 + n), by omega, ?_, by omega⟩
      rw [keep_at (by omega), show 2 + n + (i - (2 + n)) = i by omega]
      rcases (show c = 0 ∨ c = 1 by omega) with rfl | rfl
      · simp; omega
      · simp; omega
theorem put_wipe (f : Nat → Bk) (P : List Nat) (i : Nat) : putF f (openL P) i = if i ∈ P then Bk.zero else f i := by
  have h : ∀ (P : List Nat) (f : Nat → Bk), putF f (openL P) i = if i ∈ P then Bk.zero else f i := by
    intro P
    induction P with
    | nil => intro f; simp [openL, putF]
    | cons p P ih =>
      intro f
      show putF (setF f (p, Bk.zero)) (openL P) i = _
      rw [ih]
      by_cases h1 : i ∈ P
      · rw [if_pos h1, if_pos (by simp [h1])]
      · rw [if_neg h1]
        show (if i = p then Bk.zero else f i) = _
        by_cases h2 : i = p
        · rw [if_pos h2, if_pos (by simp [h2])]
        · rw [if_neg h2, if_neg (by simp [h1, h2])]
  exact h P f
/-- What is left over, wiped: the log that it was, whole. -/
theorem part_wiped (h : Pend n t c s txs q t' m' l) (hP : ∀ i, i < 2 + 2 * n → PerP n t c s txs q t' m' l i (f i)) : LogF (putF f (openL (leftPl (areaL f 2 n) (areaL f (2 + n) n) t (chainB t s txs).length n c))) n t c s txs := by
  have hN := h.nums
  have hf := h.far
  refine logf_per hN (fun i hi => ?_)
  rw [put_wipe]
  split
  · rename_i hm
    obtain ⟨h1, h2, h3, h4⟩ := (left_mem hN.c2 hN.fit).1 hm
    refine ⟨byt_zero, fun hl => by omega, fun k x e hx => ?_, fun _ _ => by rw [zero_turn]; exact hN.t0.1⟩
    have := (List.getElem?_eq_some_iff.1 hx).1
    omega
  · rename_i hm
    rcases hP i hi with hp | ⟨g1, g2, g3⟩
    · exact hp
    · exfalso
      refine hm ((left_mem hN.c2 hN.fit).2 ⟨by omega, hi, by omega, ?_⟩)
      rw [g3, h.turn]
      exact h.nums4.1
end
end Go.Proofs.Ytelpihlifdfgoaa
