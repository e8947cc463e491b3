/-
  The contract of Encode. Nothing here is a statement of the document.
-/
import Derived.Test.YtoidklkloagioaaArnS
import Derived.Test.YtoidklkloagioaaOctJ
import Derived.Laws.AppendOwn
namespace Go.Proofs.Ytoidklkloagioaa
open Go.RowKit Go.Shelf
set_option linter.unusedVariables false

/-- The words as bytes. -/
def wbytes (ws : List Nat) : List Nat := ws.flatMap fun x => highB x 4
theorem wbytes_snoc (ws : List Nat) (x : Nat) : wbytes (ws ++ [x]) = wbytes ws ++ highB x 4 := by simp [wbytes]
theorem wbytes_len : ∀ ws : List Nat, (wbytes ws).length = 4 * ws.length
  | [] => rfl
  | x :: r => by
    have := wbytes_len r
    have e : wbytes (x :: r) = highB x 4 ++ wbytes r := by simp [wbytes]
    rw [e, List.length_append, length_highB, this, List.length_cons]; omega
theorem wbytes_bys (ws : List Nat) : Bys (wbytes ws) := fun n hn => by
  obtain ⟨x, _, hx⟩ := List.mem_flatMap.1 hn
  exact highB_bys x 4 n hx
theorem wbytes_take {ws : List Nat} {k : Nat} (hk : k < ws.length) : wbytes (ws.take (k + 1)) = wbytes (ws.take k) ++ highB (ws.getD k 0) 4 := by
  rw [List.take_succ_eq_append_getElem hk, wbytes_snoc]
  simp [hk]
theorem owns_later {w w' : World} {B : Nat} {e : TypeId} {z : Nat} {v : Value} {n : Nat} {xs : List Value} (h : w.ownsRow B e z v n xs) (hb : Below w.heap.size w w') : w'.ownsRow B e z v n xs :=
  h.kept (row := none) ⟨hb.os, hb.tape, hb.output, hb.size, fun k hk _ => hb.block k hk⟩ (by cases v.ownBlock <;> simp)
section
variable {w : World} {g p q : Nat} {ws : List Nat} {bs : List Bool}
set_option maxRecDepth 100000 in
set_option maxHeartbeats 2000000 in
theorem encode_cap (h : Ar w g p q ws bs) : Calls Try.prog 38 #[.pointer (some ⟨g, 0, none⟩)] w fun e w' => ∃ b c, e = .returned (.slice (some ⟨b, 0, none⟩) (4 * ws.length) c) ∧ Lies w' (some ⟨b, 0, none⟩) (wbytes ws) ∧ w.heap.size ≤ b ∧ Below w.heap.size w w' ∧ 4 * ws.length ≤ c := by
  obtain ⟨i0, hi, hz0, hz1, hz2⟩ := info_parts Try.info5
  have hlo := h.lo
  have hhi := h.hi
  obtain ⟨n, hn⟩ : ∃ n, ws.length = n := ⟨_, rfl⟩
  have hmk := run_make (P := Try.prog) w 44 5 i0 (.int .u8 0) Try.underlying44 hi hz0 .i64 .i64 0 (4 * (n : Int)) (by omega) (by omega) (by rw [hz2]; omega) (by omega)
  rw [hz1, show (4 * (n : Int)).toNat = 4 * n from by omega, Nat.mul_one, show (0 : Int).toNat = 0 from rfl] at hmk
  obtain ⟨W1, hW1⟩ : ∃ W1, w.alloc (.cells (madeCells (Value.int .u8 0).cells (4 * n)) 5) = W1 := ⟨_, rfl⟩
  rw [hW1] at hmk
  have hb1 : Below w.heap.size w W1 := by rw [← hW1]; exact (Below.refl _ _).alloc (Nat.le_refl _) _
  have hs1 : (madeCells (Value.int .u8 0).cells (4 * n)).size = 4 * n * 1 := by rw [made_bytes]; simp
  have how : W1.ownsRow w.heap.size 5 1 (.slice (some ⟨w.heap.size, 0, none⟩) 0 (4 * n)) 0 ((wbytes (ws.take 0)).map byc) := by rw [← hW1]; exact World.ownsRow_made w _ _ (Nat.le_refl _) (by unfold maxLen; omega) hs1
  have A1 := h.later hb1
  have c0 := h.c0
  have c01 := A1.c0
  rw [hn] at c0 c01 hlo hhi ⊢
  have HA := Lib.hid (And.intro h (And.intro how (And.intro hb1 hn)))
  clear h A1 how hb1 hn hs1
  generalize madeCells (Value.int .u8 0).cells (4 * n) = mc at *
  go_enter Try.func38, Try.ntmps38
  go_wp2_with fail
  clear hmk hW1 c0 c01
  go_loopw [3, 20] (fun o i wr => ∃ k : Nat, k ≤ n ∧ i = .int .i64 k ∧ wr.ownsRow w.heap.size 5 1 o (4 * k) ((wbytes (ws.take k)).map byc) ∧ Below w.heap.size w wr) (fun o i _ => n - (intOf i).toNat)
  case atStart => exact ⟨0, Nat.zero_le _, rfl, HA.out.2.1, HA.out.2.2.1⟩
  case round =>
    obtain ⟨k, hk, rfl, how, hb⟩ := hrel
    have hA := HA.out.1.later hb
    by_cases hlt : k < n
    · have hki : (k : Int) < (n : Int) := by omega
      have cx := hA.word (i := k) (by rw [HA.out.2.2.2]; exact hlt)
      have hsm := hA.small k
      have hsn := wbytes_take (ws := ws) (k := k) (by rw [HA.out.2.2.2]; exact hlt)
      generalize ws.getD k 0 = x at *
      have hp := put32_any none 0 0 [] x wr rfl (by omega) (.inl rfl) (by omega)
      rw [List.nil_append, Nat.zero_add] at hp
      have HX := Lib.hid (And.intro how (And.intro hA (And.intro hb hsn)))
      clear how hA hb hsn
      go_wp2_with fail
      refine hp.mono ?_
      rintro e w2 ⟨rfl, hO, hb2⟩
      have how2 := owns_later HX.out.1 hb2
      have hL := hO.lies
      have hB2 := bel_later HX.out.2.2.1 hb2
      have hlt0 := hB2.size
      have hbw := HX.out.2.2.1.size
      have hsz : (highB x 4).length = 4 := length_highB _ _
      obtain ⟨ad, had, hcl⟩ := hL.cells (by rw [hsz]; omega)
      cases had
      clear hp cx
      generalize hbx : highB x 4 = bx at *
      clear hbx hO hL
      generalize wr.heap.size = pb at *
      go_wp2_with (at_builtin; refine wpList_append_own _ rfl _ _ 44 rfl w.heap.size 5 i0 (.int .u8 0) 1 1 Try.underlying44 hi hz0 hz1 hz2 rfl (by decide) _ _ _ rfl how2 ⟨pb, 0, none⟩ 4 4 (bx.map byc) rfl ?c0 ?c1 ?c2 ?c3 ?c4 ?c5 ?_)
      case c0 => rw [List.length_map, hsz]
      case c1 => exact hcl
      case c2 => exact byc_one _
      case c3 => unfold maxLen; omega
      case c4 => omega
      case c5 => exact hlt0
      intro v' w3 how3 hg3 _
      have hb3 : Below w.heap.size w w3 := hB2.grown hg3 hlt0 (fun j hj => (how2.lt j hj).1)
      go_wp2_with fail
      go_roundw
      case rel => exact ⟨k + 1, by omega, by go_num, by rw [HX.out.2.2.2, List.map_append]; exact how3, hb3⟩
      case measure => simp [intOf]; omega
    · obtain rfl : k = n := by omega
      have hfull : ws.take k = ws := List.take_of_length_le (by have := HA.out.2.2.2; omega)
      rw [hfull] at how
      obtain ⟨g9, c9, rfl, hc9, hm9, hcl⟩ := owns_cell how (by omega)
      have hfin : Lies wr (some ⟨g9, 0, none⟩) (wbytes ws) := .inr ⟨g9, 0, rfl, (how.lt g9 rfl).2, fun i hi => by
        rw [Nat.zero_add]
        refine hcl i _ ?_
        simp [byc, hi]⟩
      have hge := (how.lt g9 rfl).1
      have HZ := Lib.hid (And.intro hfin (And.intro hge hb))
      have hc10 := hc9
      clear hfin hge hb how hA hcl
      go_wp2_with fail
      go_ret
      exact ⟨g9, c9, rfl, HZ.out.1, HZ.out.2.1, HZ.out.2.2, by have := HA.out.2.2.2; omega⟩
theorem encode_any (h : Ar w g p q ws bs) : Calls Try.prog 38 #[.pointer (some ⟨g, 0, none⟩)] w fun e w' => ∃ b c, e = .returned (.slice (some ⟨b, 0, none⟩) (4 * ws.length) c) ∧ Lies w' (some ⟨b, 0, none⟩) (wbytes ws) ∧ w.heap.size ≤ b ∧ Below w.heap.size w w' :=
  (encode_cap h).mono fun e w' ⟨b, c, h1, h2, h3, h4, _⟩ => ⟨b, c, h1, h2, h3, h4⟩
end
end Go.Proofs.Ytoidklkloagioaa
