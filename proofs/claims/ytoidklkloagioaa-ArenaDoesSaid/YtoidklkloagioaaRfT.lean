/-
  The document's arena: its bytes. Nothing here is a statement of the document.
-/
import Derived.Test.YtoidklkloagioaaRfS
import Derived.Test.YtoidklkloagioaaOctI
namespace Go.Proofs.Ytoidklkloagioaa
open Go.RowKit Go.Shelf
set_option linter.unusedVariables false
section
attribute [local go_sem ↓] load_ra_rule store_ra_rule load_rb_rule store_rb_rule
variable {w W W' : World} {g z lo : Nat} {bv : Value} {ls : Nat → Value} {vs : List Value} {M : Mo}
set_option maxRecDepth 100000 in
set_option maxHeartbeats 2000000 in
theorem rbytes_any (h : Rfa w lo bv ls vs M) {ws : List Nat} {bs : List Bool} (hS : Same ws M) (hI : Inv ws bs M.B M.L) (hN : Nice ws M.B) (hlo : 64 ≤ ws.length) (hhi : ws.length ≤ 16384) (hsm : ∀ n ∈ ws, n < 4294967296) : Calls Try.prog 39 #[.agg (M.vals bv ls)] w fun e w' => ∃ b c, e = .returned (.slice (some ⟨b, 0, none⟩) (4 * ws.length) c) ∧ Lies w' (some ⟨b, 0, none⟩) (wbytes ws) ∧ Below w.heap.size w w' := by
  have hB := bx_new h
  obtain ⟨i0, hi, hz0, hz1, hz2⟩ := info_parts Try.info5
  obtain ⟨W1, hW1⟩ : ∃ W1, w.alloc (.cells (M.vals bv ls) 36) = W1 := ⟨_, rfl⟩
  rw [hW1] at hB
  have hl := hB.ld
  have hw := rwords_any hB.rf hS hI hN hlo hhi hsm
  have HB := Lib.hid (And.intro hB.hb hsm)
  clear hB h hS hI hN
  obtain ⟨V, hV⟩ : ∃ V, M.vals bv ls = V := ⟨_, rfl⟩
  rw [hV] at hW1 hl hw ⊢
  clear hV
  obtain ⟨n, hn⟩ : ∃ n, ws.length = n := ⟨_, rfl⟩
  rw [hn] at hw hlo hhi ⊢
  have Hn := Lib.hid hn
  clear hn
  go_enter Try.func39, Try.ntmps39
  go_wp2_with fail
  refine hw.mono ?_
  rintro e W2 ⟨v, rfl, how, hb2⟩
  obtain ⟨gw, cw, rfl, hcw, hmw, hcl⟩ := owns_cell how (by omega)
  have hB2 := bel_later HB.out.1 hb2
  have hgw := how.lt gw rfl
  have HK := Lib.hid (And.intro hB2 (And.intro hcl hgw))
  clear hw hb2 hl hW1 how hB2 hcl hgw
  go_wp2_with fail
  go_loopw [3, 9] (fun o i wr => ∃ k : Nat, k ≤ n ∧ i = .int .i64 k ∧ wr.ownsRow W2.heap.size 5 1 o (4 * k) ((wbytes (ws.take k)).map byc) ∧ Below W2.heap.size W2 wr) (fun _ i _ => n - (intOf i).toNat)
  case atStart => exact ⟨0, Nat.zero_le _, rfl, World.ownsRow_nil _ _ _ _, Below.refl _ _⟩
  case round =>
    obtain ⟨k, hk, rfl, how, hbe⟩ := hrel
    have hlw : ws.length = n := Hn.out
    by_cases hlt : k < n
    · have hki : (k : Int) < (n : Int) := by omega
      have hx : ws.getD k 0 < 4294967296 := word_lt HB.out.2 k
      have cx : wr.cell? ⟨gw, k, none⟩ = some (.int .u32 ((ws.getD k 0 : Nat) : Int)) := (World.cell?_of_block (hbe.block gw HK.out.2.2.2)).trans (HK.out.2.1 k _ (wvl_get (by omega)))
      have htk := wbytes_take (ws := ws) (k := k) (by omega)
      have hgh := fun w' => high_any (ws.getD k 0) 4 w' (by omega) (by omega) (by omega)
      have HX := Lib.hid (And.intro how (And.intro htk hbe))
      clear how hbe htk
      have hln : (4 : Int).toNat = 4 := rfl
      rw [hln] at hgh
      generalize ws.getD k 0 = x at *
      go_wp2_with fail
      refine (hgh wr).mono ?_
      rintro e w2 ⟨rfl, hO, hb2⟩
      have how2 := owns_later HX.out.1 hb2
      have hL := hO.lies
      have hB2 := bel_later HX.out.2.2 hb2
      have hlt0 := hB2.size
      have hbw := HX.out.2.2.size
      have hsz : (highB x 4).length = 4 := length_highB _ _
      obtain ⟨ad, had, hcl⟩ := hL.cells (by rw [hsz]; omega)
      cases had
      have HY := Lib.hid HX.out.2.1
      clear hgh cx
      generalize hbx : highB x 4 = bx at *
      clear hbx hO hL
      generalize wr.heap.size = pb at *
      go_wp2_with (at_builtin; refine wpList_append_own _ rfl _ _ 44 rfl W2.heap.size 5 i0 (.int .u8 0) 1 1 Try.underlying44 hi hz0 hz1 hz2 rfl (by decide) _ _ _ rfl how2 ⟨pb, 0, none⟩ 4 4 (bx.map byc) rfl ?c0 ?c1 ?c2 ?c3 ?c4 ?c5 ?_)
      case c0 => rw [List.length_map, hsz]
      case c1 => exact hcl
      case c2 => exact byc_one _
      case c3 => unfold maxLen; omega
      case c4 => omega
      case c5 => exact hlt0
      intro v' w3 how3 hg3 _
      have hb3 : Below W2.heap.size W2 w3 := hB2.grown hg3 hlt0 (fun j hj => (how2.lt j hj).1)
      go_wp2_with fail
      go_roundw
      case rel => exact ⟨k + 1, by omega, by go_num, by rw [HY.out, List.map_append]; exact how3, hb3⟩
      case measure => simp [intOf]; omega
    · obtain rfl : k = n := by omega
      have hfull : ws.take k = ws := List.take_of_length_le (by omega)
      rw [hfull] at how
      obtain ⟨g9, c9, rfl, hc9, hm9, hcl⟩ := owns_cell how (by omega)
      have hfin : Lies wr (some ⟨g9, 0, none⟩) (wbytes ws) := .inr ⟨g9, 0, rfl, (how.lt g9 rfl).2, fun i hi => by
        rw [Nat.zero_add]
        refine hcl i _ ?_
        simp [byc, hi]⟩
      have HZ := Lib.hid (And.intro hfin (bel_later HK.out.1 hbe))
      clear hfin hbe how hcl
      go_wp2_with fail
      go_ret
      exact ⟨g9, c9, rfl, HZ.out.1, HZ.out.2⟩
end
end Go.Proofs.Ytoidklkloagioaa
