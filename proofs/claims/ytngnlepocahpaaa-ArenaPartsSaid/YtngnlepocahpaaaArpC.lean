/-
  Decode, in parts: iterators over blocks and over lists, while something else turns. Nothing here is a statement of the document.
-/
import Derived.Test.YtngnlepocahpaaaArpB
import Derived.Test.YtngnlepocahpaaaItB
import Derived.Test.YtngnlepocahpaaaArnI
import Derived.Test.YtngnlepocahpaaaArnP
namespace Go.Proofs.Ytngnlepocahpaaa
open Go.RowKit Go.Shelf
set_option linter.unusedVariables false

/-- An arena's words lie at p; of where blocks begin nothing is said. -/
structure Aw (w : World) (g p : Nat) (qv : Value) (ws : List Nat) : Prop where
  box : Blk w g 70 #[.slice (some ⟨p, 0, none⟩) ws.length ws.length, qv]
  wds : Blk w p 59 (wcs ws)
  lo : 64 ≤ ws.length
  hi : ws.length ≤ 16384
  sml : ∀ n ∈ ws, n < 4294967296
theorem Ar.aw {w : World} {g p q : Nat} {ws : List Nat} {bs : List Bool} (h : Ar w g p q ws bs) : Aw w g p (.slice (some ⟨q, 0, none⟩) ws.length ws.length) ws := ⟨h.box, h.wds, h.lo, h.hi, h.sml⟩
section
variable {w : World} {g p : Nat} {qv : Value} {ws : List Nat}
theorem Aw.low (h : Aw w g p qv ws) {B : Nat} {S : List Nat} {w' : World} (k : KL B S w w') (hg : g ∉ S) (hp : p ∉ S) (hgB : g < B) (hpB : p < B) : Aw w' g p qv ws :=
  ⟨k.blk h.box hg hgB, k.blk h.wds hp hpB, h.lo, h.hi, h.sml⟩
theorem Aw.small (h : Aw w g p qv ws) (i : Nat) : ws.getD i 0 < 4294967296 := by
  by_cases hi : i < ws.length
  · have : ws.getD i 0 = ws[i] := by simp [hi]
    rw [this]; exact h.sml _ (List.getElem_mem hi)
  · have : ws.getD i 0 = 0 := by simp [List.getElem?_eq_none (by omega : ws.length ≤ i)]
    omega
theorem Aw.c0 (h : Aw w g p qv ws) : w.cell? ⟨g, 0, none⟩ = some (.slice (some ⟨p, 0, none⟩) ws.length ws.length) := h.box.cell 0
theorem Aw.word (h : Aw w g p qv ws) {i : Nat} (hi : i < ws.length) : w.cell? ⟨p, i, none⟩ = some (.int .u32 ((ws.getD i 0 : Nat) : Int)) := (h.wds.cell i).trans (wcs_get hi)
set_option maxHeartbeats 400000 in
theorem edge_w (h : Aw w g p qv ws) : Calls Try.prog 61 #[.pointer (some ⟨g, 0, none⟩)] w fun e w' => e = .returned (.int .i64 ((ws.getD 15 0 : Nat) : Int)) ∧ w = w' := by
  have c0 := h.c0
  have c15 := h.word (i := 15) (by have := h.lo; omega)
  have hx := h.small 15
  have h1 := h.lo
  have h2 := h.hi
  clear h
  generalize ws.getD 15 0 = x at *
  generalize ws.length = n at *
  go_enter Try.func61, Try.ntmps61
  go_wp2
  go_ret
  exact ⟨rfl, rfl⟩
set_option maxHeartbeats 400000 in
theorem head_w (h : Aw w g p qv ws) (x : Nat) (h1 : 1 ≤ x) (h2 : x < ws.length) : Calls Try.prog 65 #[.pointer (some ⟨g, 0, none⟩), .int .i64 (x : Int)] w fun e w' => e = .returned (.int .u32 ((ws.getD (x - 1) 0 : Nat) : Int)) ∧ w = w' := by
  have c0 := h.c0
  have cx := h.word (i := x - 1) (by omega)
  have h3 := h.lo
  have h4 := h.hi
  clear h
  generalize ws.getD (x - 1) 0 = y at *
  generalize ws.length = n at *
  obtain ⟨z, rfl⟩ : ∃ z, x = z + 1 := ⟨x - 1, by omega⟩
  rw [Nat.add_sub_cancel] at cx
  go_enter Try.func65, Try.ntmps65
  go_wp2
  go_ret
  exact ⟨rfl, rfl⟩
set_option maxHeartbeats 400000 in
theorem hright_any (c : Nat) (t : Bool) (hc : c ≤ 5) (w : World) : Calls Try.prog 75 #[.int .u32 ((hdN c t : Nat) : Int)] w fun e w' => e = .returned (.bool true) ∧ w = w' := by
  cases t <;> rcases (show c = 0 ∨ c = 1 ∨ c = 2 ∨ c = 3 ∨ c = 4 ∨ c = 5 by omega) with rfl | rfl | rfl | rfl | rfl | rfl <;>
  · go_enter Try.func75, Try.ntmps75
    go_wp2
    go_ret
    first | exact ⟨rfl, rfl⟩ | exact ⟨ret_bool (by decide +kernel), rfl⟩

attribute [local go_sem] Oper.semAt_some
set_option maxRecDepth 100000 in
set_option maxHeartbeats 1000000 in
theorem blocks_low {S : List Nat} {box : Nat} {B : List Bl} (h : Aw w g p qv ws) (hC : Chain ws 16 B) (he : ws.getD 15 0 ≤ ws.length) (hb : Blk w box 25 #[.pointer (some ⟨g, 0, none⟩)])
    (hgS : g ∉ S) (hpS : p ∉ S) (hbS : box ∉ S) :
    TellsL 90 #[.pointer (some ⟨box, 0, none⟩)] S B.length (encB B) w := by
  intro lo J Jx W hWk hlw hlo hJ hJx hY h0
  have n1 : g < lo := by have := h.box.lt; omega
  have n2 : p < lo := by have := h.wds.lt; omega
  have n4 : box < lo := by have := hb.lt; omega
  replace h := h.low hWk hgS hpS h.box.lt h.wds.lt
  replace hb := hWk.blk hb hbS hb.lt
  have hhi := h.hi
  have hC0 := chain_head hC
  have hCg := fun (k : Nat) (b : Bl) (hb : B[k]? = some b) => chain_get hC (Nat.le_refl _) hb
  have hCe := posB_end (ws.getD 15 0) B
  clear hlw hWk hC
  generalize hee : ws.getD 15 0 = e at *
  have HE := Lib.hid hee
  clear hee
  refine callsIn_of_wp Try.func90 rfl trivial ?_ rfl
  simp only [Try.ntmps90, List.size_toArray, List.length_cons, List.length_nil, Nat.reduceAdd, Nat.reduceSub, Array.replicate_succ, Array.replicate_zero, List.push_toArray, List.append_toArray, List.nil_append, List.cons_append]
  gi_wp2
  gi_loopw [3] (fun i wr => ∃ k : Nat, k ≤ B.length ∧ i = .int .i64 (posB e B k : Int) ∧ J k wr ∧ Aw wr g p qv ws ∧ Blk wr box 25 #[.pointer (some ⟨g, 0, none⟩)] ∧ 0 ≤ wr.heap.size) (fun i _ => e + 2 - (intOf i).toNat)
  case atStart => exact ⟨0, Nat.zero_le _, by rw [hC0]; rfl, h0, h, hb, Nat.zero_le _⟩
  case round =>
    obtain ⟨k, hk, rfl, hJs, hA, hbw, _⟩ := hrel
    have cb : wr.cell? ⟨box, 0, none⟩ = some (.pointer (some ⟨g, 0, none⟩)) := hbw.cell 0
    have hed := edge_w hA
    rw [HE.out] at hed
    by_cases hlt : k < B.length
    · obtain ⟨g1, g2, g3, g4, g5⟩ := hCg k B[k] (List.getElem?_eq_getElem hlt)
      have hpo := posB_get (e := e) (List.getElem?_eq_getElem hlt)
      have hdd : B.getD k Bl.zero = B[k] := by simp [hlt]
      obtain ⟨fn, tmps, assign, body, hy, hR⟩ := hY k wr hlt hJs
      unfold encB at hy
      rw [hdd] at hy
      rw [hpo]
      have hhd := head_w hA B[k].x (by omega) (by have := (pow5 g1).1; omega)
      rw [g3] at hhd
      have hsz := fun w => hsize_any B[k].c B[k].t g1 w
      have hp5 := pow5 g1
      generalize B[k] = b at *
      generalize hdN b.c b.t = hv at *
      generalize b.x = x at *
      generalize 2 ^ b.c = z at *
      have d1 : decide ((x : Int) ≤ (e : Int)) = true := decide_eq_true (by omega)
      have d2 : decide (x ≤ e) = true := decide_eq_true (by omega)
      have HJ := Lib.hid (And.intro hA (And.intro hbw (And.intro hpo g5)))
      clear hJs hA hbw hC0 hCe hCg h hb h0 hpo g5 hY
      gi_wp2
      refine ⟨trivial, ?_⟩
      refine (callsIn_wide.2 hed).mono ?_
      rintro e1 w1 ⟨rfl, rfl⟩
      gi_wp2
      refine ⟨trivial, ?_⟩
      refine (callsIn_wide.2 hhd).mono ?_
      rintro e1 w1 ⟨rfl, rfl⟩
      clear hed hhd
      gi_wp2
      refine hR.mono ?_
      rintro e2 W4 ⟨hk4, ⟨rfl, hJ4⟩ | ⟨rfl, hJx4⟩⟩
      · have hA4 := HJ.out.1.low hk4 (by simp [hgS]; omega) (by simp [hpS]; omega) (by omega) (by omega)
        have hb4 := hk4.blk HJ.out.2.1 (by simp [hbS]; omega) (by omega)
        have hnx : posB e B (k + 1) = x + (z + 1) := by have := HJ.out.2.2.2; omega
        have HN := Lib.hid hnx
        clear hnx hy
        gi_wp2
        refine ⟨trivial, ?_⟩
        refine (callsIn_wide.2 (hsz _)).mono ?_
        rintro e1 w1 ⟨rfl, rfl⟩
        clear hsz
        gi_wp2
        go_roundw
        case rel => exact ⟨k + 1, by omega, by rw [HN.out]; go_num, hJ4, hA4, hb4, Nat.zero_le _⟩
        case measure => simp [intOf]; omega
      · gi_wp2
        refine bodyPost_ret (results_none rfl _ _ _) rfl ?_
        exact ⟨⟨_, rfl⟩, .inr ⟨k, by omega, hJx4⟩⟩
    · obtain rfl : k = B.length := by omega
      rw [hCe]
      have d1 : decide ((e : Int) + 1 ≤ (e : Int)) = false := decide_eq_false (by omega)
      clear hC0 hCe hCg h hb h0 hY
      gi_wp2
      refine ⟨trivial, ?_⟩
      refine (callsIn_wide.2 hed).mono ?_
      rintro e1 w1 ⟨rfl, rfl⟩
      gi_wp2
      go_end0
      exact ⟨⟨_, rfl⟩, .inl hJs⟩
end
end Go.Proofs.Ytngnlepocahpaaa
