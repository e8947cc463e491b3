/-
  Decode, in parts: where what stands there is no block (inBlocks says no). Nothing here is a statement of the document.
-/
import Derived.Test.YtgnpoehcmlmajaaArpD
import Derived.Test.YtgnpoehcmlmajaaDcC
import Derived.Test.YtgnpoehcmlmajaaRgC
import Derived.Test.YtgnpoehcmlmajaaArpF
namespace Go.Proofs.Ytgnpoehcmlmajaa
open Go.RowKit Go.Shelf
set_option linter.unusedVariables false
theorem tile_head {ws : List Nat} {a0 e : Nat} {B : List Bl} (h : Tile ws a0 B e) : posB e B 0 = a0 + 1 := by
  cases B with
  | nil => have h1 : a0 = e := h; simp only [posB]; rw [h1]; rfl
  | cons b r => exact h.1
theorem tile_get {ws : List Nat} : ∀ {B : List Bl} {a0 e : Nat}, Tile ws a0 B e → 16 ≤ a0 → ∀ {k : Nat} {b : Bl}, B[k]? = some b →
    b.c ≤ 5 ∧ a0 + 1 ≤ b.x ∧ ws.getD (b.x - 1) 0 = hdN b.c b.t ∧ b.x + 2 ^ b.c ≤ ws.getD 15 0 ∧ posB e B (k + 1) = b.x + 2 ^ b.c + 1
  | [], _, _, _, _, k, b, hb => by simp at hb
  | c :: r, a0, e, h, h16, 0, b, hb => by
    obtain rfl : c = b := by simpa using hb
    obtain ⟨h1, h2, h3, h4, h5⟩ := h
    refine ⟨h2, by omega, by rw [h1]; exact h3, by omega, ?_⟩
    have := tile_head h5
    have e9 : posB e (c :: r) 1 = posB e r 0 := rfl
    rw [e9, this]; omega
  | c :: r, a0, e, h, h16, k + 1, b, hb => by
    obtain ⟨h1, h2, h3, h4, h5⟩ := h
    have hz : 0 ≤ 2 ^ c.c := Nat.zero_le _
    generalize 2 ^ c.c = z at *
    obtain ⟨g1, g2, g3, g4, g5⟩ := tile_get h5 (by omega) (k := k) (b := b) (by simpa using hb)
    exact ⟨g1, by omega, g3, g4, g5⟩
/-- What the iterator tells: the blocks, then what stands where they stand still. -/
def encS (ws : List Nat) (B : List Bl) (E k : Nat) : Array Value := if k < B.length then encB B k else #[.int .i64 ((E + 1 : Nat) : Int), .int .u32 ((ws.getD E 0 : Nat) : Int)]
section
variable {w : World} {g p : Nat} {qv : Value} {ws : List Nat}
set_option maxHeartbeats 400000 in
theorem head_w2 (h : Aw w g p qv ws) (x : Nat) (h1 : 1 ≤ x) (h2 : x ≤ ws.length) : Calls Try.prog 57 #[.pointer (some ⟨g, 0, none⟩), .int .i64 (x : Int)] w fun e w' => e = .returned (.int .u32 ((ws.getD (x - 1) 0 : Nat) : Int)) ∧ w = w' := by
  have c0 := h.c0
  have cx := h.word (i := x - 1) (by omega)
  have h3 := h.lo
  have h4 := h.hi
  clear h
  generalize ws.getD (x - 1) 0 = y at *
  generalize ws.length = n at *
  obtain ⟨z, rfl⟩ : ∃ z, x = z + 1 := ⟨x - 1, by omega⟩
  rw [Nat.add_sub_cancel] at cx
  go_enter Try.func57, Try.ntmps57
  go_wp2
  go_ret
  exact ⟨rfl, rfl⟩
attribute [local go_sem] Oper.semAt_some
set_option maxRecDepth 100000 in
set_option maxHeartbeats 1000000 in
theorem blocks_stop {S : List Nat} {box E : Nat} {B : List Bl} (h : Aw w g p qv ws) (hT : Tile ws 16 B E) (hst : Stuck ws E) (he : ws.getD 15 0 ≤ ws.length) (hb : Blk w box 25 #[.pointer (some ⟨g, 0, none⟩)])
    (hgS : g ∉ S) (hpS : p ∉ S) (hbS : box ∉ S) :
    TellsS 82 #[.pointer (some ⟨box, 0, none⟩)] S (B.length + 1) (encS ws B E) w := by
  intro lo J Jx W hWk hlw hlo hJ hJx hno hY h0
  have n1 : g < lo := by have := h.box.lt; omega
  have n2 : p < lo := by have := h.wds.lt; omega
  have n4 : box < lo := by have := hb.lt; omega
  replace h := h.low hWk hgS hpS h.box.lt h.wds.lt
  replace hb := hWk.blk hb hbS hb.lt
  have hhi := h.hi
  have hC0 := tile_head hT
  have hCg := fun (k : Nat) (b : Bl) (hb : B[k]? = some b) => tile_get hT (Nat.le_refl _) hb
  have hCe := posB_end E B
  have hE16 := tile_le hT
  have hEe := hst.1
  clear hlw hWk hT hst
  generalize hee : ws.getD 15 0 = e at *
  have HE := Lib.hid hee
  clear hee
  refine callsIn_of_wp Try.func82 rfl trivial ?_ rfl
  simp only [Try.ntmps82, List.size_toArray, List.length_cons, List.length_nil, Nat.reduceAdd, Nat.reduceSub, Array.replicate_succ, Array.replicate_zero, List.push_toArray, List.append_toArray, List.nil_append, List.cons_append]
  gi_wp2
  gi_loopw [3] (fun i wr => ∃ k : Nat, k ≤ B.length ∧ i = .int .i64 (posB E B k : Int) ∧ J k wr ∧ Aw wr g p qv ws ∧ Blk wr box 25 #[.pointer (some ⟨g, 0, none⟩)] ∧ 0 ≤ wr.heap.size) (fun i _ => e + 2 - (intOf i).toNat)
  case atStart => exact ⟨0, Nat.zero_le _, by rw [hC0]; rfl, h0, h, hb, Nat.zero_le _⟩
  case round =>
    obtain ⟨k, hk, rfl, hJs, hA, hbw, _⟩ := hrel
    have cb : wr.cell? ⟨box, 0, none⟩ = some (.pointer (some ⟨g, 0, none⟩)) := hbw.cell 0
    have hed := edge_w hA
    rw [HE.out] at hed
    by_cases hlt : k < B.length
    · obtain ⟨g1, g2, g3, g4, g5⟩ := hCg k B[k] (List.getElem?_eq_getElem hlt)
      have hpo := posB_get (e := E) (List.getElem?_eq_getElem hlt)
      have hdd : B.getD k Bl.zero = B[k] := by simp [hlt]
      obtain ⟨fn, tmps, assign, body, hy, hR⟩ := hY k wr (by omega) hJs
      unfold encS at hy
      rw [if_pos hlt] at hy
      unfold encB at hy
      rw [hdd] at hy
      rw [hpo]
      have hhd := head_w hA B[k].x (by omega) (by have := (pow5 g1).1; omega)
      rw [g3] at hhd
      have hsz := fun w => hsize_any B[k].c B[k].t g1 w
      have hp5 := pow5 g1
      generalize B[k] = b at *
      generalize hdN b.c b.t = hv at *
      generalize b.x = x at *
      generalize 2 ^ b.c = z at *
      have d1 : decide ((x : Int) ≤ (e : Int)) = true := decide_eq_true (by omega)
      have d2 : decide (x ≤ e) = true := decide_eq_true (by omega)
      have HJ := Lib.hid (And.intro hA (And.intro hbw (And.intro hpo g5)))
      clear hJs hA hbw hC0 hCe hCg h hb h0 hpo g5 hY
      gi_wp2
      refine ⟨trivial, ?_⟩
      refine (callsIn_wide.2 hed).mono ?_
      rintro e1 w1 ⟨rfl, rfl⟩
      gi_wp2
      refine ⟨trivial, ?_⟩
      refine (callsIn_wide.2 hhd).mono ?_
      rintro e1 w1 ⟨rfl, rfl⟩
      clear hed hhd
      gi_wp2
      refine hR.mono ?_
      rintro e2 W4 ⟨hk4, ⟨rfl, hJ4⟩ | ⟨rfl, hJx4⟩⟩
      · have hA4 := HJ.out.1.low hk4 (by simp [hgS]; omega) (by simp [hpS]; omega) (by omega) (by omega)
        have hb4 := hk4.blk HJ.out.2.1 (by simp [hbS]; omega) (by omega)
        have hnx : posB E B (k + 1) = x + (z + 1) := by have := HJ.out.2.2.2; omega
        have HN := Lib.hid hnx
        clear hnx hy
        gi_wp2
        refine ⟨trivial, ?_⟩
        refine (callsIn_wide.2 (hsz _)).mono ?_
        rintro e1 w1 ⟨rfl, rfl⟩
        clear hsz
        gi_wp2
        go_roundw
        case rel => exact ⟨k + 1, by omega, by rw [HN.out]; go_num, hJ4, hA4, hb4, Nat.zero_le _⟩
        case measure => simp [intOf]; omega
      · gi_wp2
        refine bodyPost_ret (results_none rfl _ _ _) rfl ?_
        exact ⟨⟨_, rfl⟩, k, by omega, hJx4⟩
    · obtain rfl : k = B.length := by omega
      obtain ⟨fn, tmps, assign, body, hy, hR⟩ := hY B.length wr (by omega) hJs
      unfold encS at hy
      rw [if_neg (by omega)] at hy
      rw [hCe]
      have hhd := head_w2 hA (E + 1) (by omega) (by omega)
      rw [Nat.add_sub_cancel] at hhd
      generalize ws.getD E 0 = hv at *
      have hc1 : ((E + 1 : Nat) : Int) = (E : Int) + 1 := by omega
      rw [hc1] at hhd hy ⊢
      have d1 : decide ((E : Int) + 1 ≤ (e : Int)) = true := decide_eq_true (by omega)
      have d2 : decide (E + 1 ≤ e) = true := decide_eq_true (by omega)
      clear hJs hbw hC0 hCe hCg h hb h0 hY
      gi_wp2
      refine ⟨trivial, ?_⟩
      refine (callsIn_wide.2 hed).mono ?_
      rintro e1 w1 ⟨rfl, rfl⟩
      gi_wp2
      refine ⟨trivial, ?_⟩
      refine (callsIn_wide.2 hhd).mono ?_
      rintro e1 w1 ⟨rfl, rfl⟩
      clear hed hhd
      gi_wp2
      refine hR.mono ?_
      rintro e2 W4 ⟨hk4, ⟨rfl, hJ4⟩ | ⟨rfl, hJx4⟩⟩
      · exact absurd hJ4 (hno _)
      · gi_wp2
        refine bodyPost_ret (results_none rfl _ _ _) rfl ?_
        exact ⟨⟨_, rfl⟩, B.length, by omega, hJx4⟩

end
end Go.Proofs.Ytgnpoehcmlmajaa
namespace Go.Proofs.Ytgnpoehcmlmajaa
open Go.RowKit Go.Shelf
set_option linter.unusedVariables false
set_option maxHeartbeats 1000000 in
theorem hright_no (y : Nat) (hy : y < 4294967296) (hno : ∀ c t, c ≤ 5 → y ≠ hdN c t) (w : World) : Calls Try.prog 69 #[.int .u32 (y : Int)] w fun e w' => e = .returned (.bool false) ∧ w = w' := by
  by_cases h16 : y / 16 = 1
  · have h28 : 28 ≤ y ∧ y < 32 := by
      refine ⟨Nat.le_of_not_lt fun h => hno ((y - 16) / 2) (decide ((y - 16) % 2 = 1)) (by omega) ?_, by omega⟩
      unfold hdN
      by_cases h3 : (y - 16) % 2 = 1
      · simp [h3]; omega
      · simp [h3]; omega
    rcases (show y = 28 ∨ y = 29 ∨ y = 30 ∨ y = 31 by omega) with rfl | rfl | rfl | rfl <;>
    · go_enter Try.func69, Try.ntmps69
      go_wp2
      go_ret
      first | exact ⟨rfl, rfl⟩ | exact ⟨ret_bool (by decide +kernel), rfl⟩
  · have hne : ¬ bits .andNot .u32 (y : Int) 15 = 16 := by
      rw [show (15 : Int) = ((15 : Nat) : Int) from rfl, u32_andNot_nat y 15 hy (by omega)]
      intro h9
      have h8 : y &&& 4294967280 = 16 := by exact_mod_cast h9
      have h7 := congrArg (· >>> 4) h8
      simp only [Nat.shiftRight_and_distrib] at h7
      rw [show 4294967280 >>> 4 = 2 ^ 28 - 1 from rfl, Nat.and_two_pow_sub_one_eq_mod, Nat.shiftRight_eq_div_pow] at h7
      omega
    clear hno
    go_enter Try.func69, Try.ntmps69
    go_wp2_with fail
    all_goals first | (exfalso; exact hne ‹_›) | (go_ret; exact ⟨rfl, rfl⟩)
end Go.Proofs.Ytgnpoehcmlmajaa
namespace Go.Proofs.Ytgnpoehcmlmajaa
open Go.RowKit Go.Shelf
set_option linter.unusedVariables false
def xS (B : List Bl) (E k : Nat) : Nat := if k < B.length then (B.getD k Bl.zero).x else E + 1
def hS (ws : List Nat) (B : List Bl) (E k : Nat) : Nat := if k < B.length then hdN (B.getD k Bl.zero).c (B.getD k Bl.zero).t else ws.getD E 0
theorem encS_eq (ws : List Nat) (B : List Bl) (E k : Nat) : encS ws B E k = #[.int .i64 ((xS B E k : Nat) : Int), .int .u32 ((hS ws B E k : Nat) : Int)] := by
  unfold encS xS hS encB
  split <;> rfl
theorem xS_lt {B : List Bl} {E k : Nat} (h : k < B.length) : xS B E k = (B.getD k Bl.zero).x := if_pos h
theorem hS_lt {ws : List Nat} {B : List Bl} {E k : Nat} (h : k < B.length) : hS ws B E k = hdN (B.getD k Bl.zero).c (B.getD k Bl.zero).t := if_pos h
theorem xS_end (B : List Bl) (E : Nat) : xS B E B.length = E + 1 := if_neg (by omega)
theorem hS_end (ws : List Nat) (B : List Bl) (E : Nat) : hS ws B E B.length = ws.getD E 0 := if_neg (by omega)
theorem word_sm {ws : List Nat} (h : ∀ n ∈ ws, n < 4294967296) (i : Nat) : ws.getD i 0 < 4294967296 := by
  rcases Nat.lt_or_ge i ws.length with hi | hi
  · have := h _ (List.getElem_mem hi); simpa [hi] using this
  · simp [hi]

attribute [local go_sem] Oper.semAt_some
set_option maxRecDepth 100000 in
set_option maxHeartbeats 4000000 in
theorem inblocks_stuck {w : World} {g p q n : Nat} {ws : List Nat} {B : List Bl} {E : Nat} (h : Ar w g p q ws (List.replicate n false)) (hn : ws.length = n) (hT : Tile ws 16 B E) (hst : Stuck ws E) (he : ws.getD 15 0 ≤ ws.length) (h16 : 16 ≤ ws.getD 15 0) :
    Calls Try.prog 43 #[.pointer (some ⟨g, 0, none⟩)] w fun e w' => e = .returned (.bool false) ∧ Kept [q] w w' := by
  obtain ⟨W1, hW1⟩ : ∃ W1, w.alloc (.cells #[.pointer (some ⟨g, 0, none⟩)] 25) = W1 := ⟨_, rfl⟩
  have hb1 : Below w.heap.size w W1 := by rw [← hW1]; exact (Below.refl _ _).alloc (Nat.le_refl _) _
  have b1 : Blk W1 w.heap.size 25 #[.pointer (some ⟨g, 0, none⟩)] := by rw [← hW1]; exact Blk.new _ _ _
  have s1 : W1.heap.size = w.heap.size + 1 := by rw [← hW1]; simp
  obtain ⟨W2, hW2⟩ : ∃ W2, W1.alloc (.cells #[.bool false] 4) = W2 := ⟨_, rfl⟩
  have hb12 : Below W1.heap.size W1 W2 := by rw [← hW2]; exact (Below.refl _ _).alloc (Nat.le_refl _) _
  have b2 : Blk W2 W1.heap.size 4 #[.bool false] := by rw [← hW2]; exact Blk.new _ _ _
  have b1' : Blk W2 w.heap.size 25 #[.pointer (some ⟨g, 0, none⟩)] := (hb12.block _ b1.lt).trans b1
  have hb2 : Below w.heap.size w W2 := hb1.trans (hb12.mono hb1.size)
  have hA2 := h.later hb2
  have hed := edge_any hA2
  have cb : W2.cell? ⟨w.heap.size, 0, none⟩ = some (.pointer (some ⟨g, 0, none⟩)) := b1'.cell 0
  have cg := hA2.c0
  have H := Lib.hid (And.intro hb2 (And.intro b1' (And.intro b2 (And.intro hA2 (And.intro hT (And.intro he (And.intro (And.intro hst (And.intro h16 h.sml)) (And.intro s1 (And.intro hn h)))))))))
  have hhi := h.hi
  have de : decide (((ws.getD 15 0 : Nat) : Int) < 16) = false := decide_eq_false (by omega)
  have de2 : decide (ws.getD 15 0 < 16) = false := decide_eq_false (by omega)
  have de3 : decide ((ws.length : Int) < ((ws.getD 15 0 : Nat) : Int)) = false := decide_eq_false (by omega)
  have de4 : decide (ws.length < ws.getD 15 0) = false := decide_eq_false (by omega)
  have HHI := Lib.hid hhi
  have hEe := hst.1
  have hE16 := tile_le hT
  clear h hT hst he h16 hn hb1 b1 hb12 b2 b1' hb2 hA2 s1 hhi
  generalize hee : ws.getD 15 0 = e at *
  have HE := Lib.hid hee
  clear hee
  have S0 : ∀ w9, w9 = W2.drew → w9.cell? ⟨w.heap.size, 0, none⟩ = some (.pointer (some ⟨g, 0, none⟩)) := fun w9 h => by subst h; exact cb
  have S1 : ∀ w9, w9 = W2.drew → w9.cell? ⟨g, 0, none⟩ = some (.slice (some ⟨p, 0, none⟩) ws.length ws.length) := fun w9 h => by subst h; exact cg
  have S2 : ∀ w9, w9 = W2.drew → Calls Try.prog 52 #[.pointer (some ⟨g, 0, none⟩)] w9 fun e' w' => e' = .returned (.int .i64 (e : Int)) ∧ w' = W2.drew := fun w9 h => by
    subst h
    have hh := edge_any H.out.2.2.2.1.drew
    rw [HE.out] at hh
    exact hh.mono fun e' w' h => ⟨h.1, h.2.symm⟩
  refine calls_of_wp_marks Try.func43 rfl ?_
  simp only [Try.ntmps43, List.size_toArray, List.length_cons, List.length_nil, Nat.reduceAdd, Nat.reduceSub, Array.replicate_succ, Array.replicate_zero, List.push_toArray, List.append_toArray, List.nil_append, List.cons_append]
  go_wp2_with fail
  refine wp_region_lin (fun w' => w' = W2.drew) (by kernel_rfl) (by kernel_rfl) rfl ?_
  (repeat (first | (refine lin_off (by rfl) ?_; (try simp only [Act.put, List.setIfInBounds_toArray, List.set_cons_zero, List.set_cons_succ])) | (refine lin_op (v := ?_) (by rfl) (fun w9 hS9 => ?_) ?_; rotate_left; (focus ((have k0 := S0 w9 hS9; have k1 := S1 w9 hS9; (try dsimp only at hS9); go_simp; (try go_bits)) <;> with_reducible rfl)); (try simp only [Act.put, List.setIfInBounds_toArray, List.set_cons_zero, List.set_cons_succ])) | (refine lin_fn (f := 52) (by rfl) rfl rfl (enters_of Try.func52 (by kernel_rfl) rfl) (fun w9 hS9 => S2 w9 hS9) ?_ ?_; (focus (simp [Act.eval]; done)); (try simp only [Act.put, List.setIfInBounds_toArray, List.set_cons_zero, List.set_cons_succ]))))
  refine lin_nil (fun w8 hS8 => ?_)
  subst hS8
  clear S0 S1 S2
  go_wp2_with fail
  refine (blocks_any (some ⟨g, 0, none⟩) W2.drew).mono ?_
  rintro e3 W3 ⟨rfl, b3, hb3, hs3⟩
  have hA3 : Ar W3 g p q ws (List.replicate n false) := H.out.2.2.2.1.drew.later hb3
  have hbx3 : Blk W3 w.heap.size 25 #[.pointer (some ⟨g, 0, none⟩)] := (hb3.block _ (by have := H.out.2.1.lt; exact this)).trans H.out.2.1
  have hbr3 : Blk W3 W1.heap.size 4 #[.bool false] := (hb3.block _ (by have := H.out.2.2.1.lt; exact this)).trans H.out.2.2.1
  have hB3 : Below w.heap.size w W3 := H.out.1.drew.trans (Below.mono hb3 (by simpa using H.out.1.size))
  have hseq := blocks_stop (S := [q, W1.heap.size]) hA3.aw H.out.2.2.2.2.1 H.out.2.2.2.2.2.2.1.1 (by rw [HE.out]; exact H.out.2.2.2.2.2.1) b3 (by have := H.out.2.2.2.2.2.2.2.2.2.box.lt; have := H.out.2.2.2.2.2.2.2.1; simp; exact ⟨hA3.gq, by omega⟩) (by have := H.out.2.2.2.2.2.2.2.2.2.wds.lt; have := H.out.2.2.2.2.2.2.2.1; simp; exact ⟨hA3.pq, by omega⟩) (by simp; have := H.out.2.2.2.1.bgs.lt; have := H.out.2.2.1.lt; exact ⟨by omega, by omega⟩)
  have H3 := Lib.hid (And.intro hA3 (And.intro hbx3 (And.intro hbr3 (And.intro hB3 (And.intro b3 hs3)))))
  clear hb3 b3 hs3 hA3 hbx3 hbr3 hB3 hed cb cg
  go_wp2_with fail
  refine wp_range_stop (S := [q, W1.heap.size]) (N := B.length + 1) (enc := encS ws B E) none (fun _ => by rw [encS_eq]; rfl) rfl (fun _ _ => by simp [go_sem, enters_of Try.func82 (by kernel_rfl) rfl]) hseq (fun k hk => by simp at hk; rcases hk with rfl | rfl; exact H3.out.1.bgs.lt; exact H3.out.2.2.1.lt)
    (fun k W => (Ar W g p q ws (begK B n k) ∧ Blk W w.heap.size 25 #[.pointer (some ⟨g, 0, none⟩)] ∧ Blk W W1.heap.size 4 #[.bool false]) ∧ Kept [q] w W ∧ k ≤ B.length)
    (fun _ W => Blk W W1.heap.size 4 #[.bool false] ∧ Kept [q] w W) ?hI ?hIx ⟨⟨H3.out.1, H3.out.2.1, H3.out.2.2.1⟩, Kept.of_below [q] H3.out.2.2.2.1, Nat.zero_le _⟩
    (fun k a' W => ∃ u5 : Value, a' = { tmps := #[.pointer (some ⟨g, 0, none⟩), .pointer (some ⟨w.heap.size, 0, none⟩), .pointer (some ⟨W1.heap.size, 0, none⟩), .int .i64 ((xS B E k : Nat) : Int), .int .u32 ((hS ws B E k : Nat) : Int), .pointer (some ⟨g, 0, none⟩), .int .i64 (e : Int), .bool false, .bool false, .pointer (some ⟨g, 0, none⟩), .int .i64 (e : Int), .pointer (some ⟨g, 0, none⟩), .pointer (some ⟨g, 0, none⟩), .pointer (some ⟨g, 0, none⟩), .slice (some ⟨p, 0, none⟩) ws.length ws.length, .int .i64 (ws.length : Int), .bool false, .bool false, .pointer (some ⟨g, 0, none⟩), .func (.func 82) #[] #[.pointer (some ⟨W2.heap.size, 0, none⟩)], .int .i64 ((xS B E k : Nat) : Int), .int .u32 ((hS ws B E k : Nat) : Int), undef, undef, undef, undef, undef, undef, undef, undef, undef, undef, undef, undef, undef, undef, undef, undef, undef, undef, undef, undef, undef, undef, undef, undef, undef, undef], defers := [] })
    ?hAx ?assign ?body ?no ?stop
  case hI => exact OwnFrom.and (OwnFrom.and (own_ar _ _ _ _ _ _) (OwnFrom.and (own_blk _ _ _ _) (own_blk _ _ _ _))) (OwnFrom.and (kept_own H3.out.2.2.2.1.size) (fun s X Y row hs hg hr => hs))
  case hIx => exact OwnFrom.and (own_blk _ _ _ _) (kept_own H3.out.2.2.2.1.size)
  case hAx => exact fun k a' s X Y row hs hg hr => hs
  case no => exact fun W h => by have := h.2.2; omega
  case assign =>
    rintro k X K hk hX hI hK
    rw [encS_eq]
    simp only [List.zip_toArray, List.zip_cons_cons, List.zip_nil_right, List.zip_nil_left, List.size_toArray, List.foldl_toArray', List.foldl_toArray, List.foldl_cons, List.foldl_nil, List.setIfInBounds_toArray, List.set_cons_zero, List.set_cons_succ]
    generalize xS B E k = xx at *
    generalize hS ws B E k = hh at *
    gi_wp2
    exact hK _ _ (KL.refl _ _ _) hI ⟨undef, rfl⟩
  case body =>
    rintro k a' W ⟨⟨dA, dB, dR⟩, dk, hkl⟩ ⟨u5, rfl⟩ hk1 hWs
    by_cases hk : k < B.length
    · have hbk : B.getD k Bl.zero = B[k] := by simp [hk]
      obtain ⟨g1, g2, g3, g4, g5⟩ := tile_get H.out.2.2.2.2.1 (Nat.le_refl _) (List.getElem?_eq_getElem hk)
      rw [xS_lt hk, hS_lt hk]
      rw [HE.out] at g4
      have hbeg : begK B n (k + 1) = (begK B n k).set (B.getD k Bl.zero).x true := rfl
      rw [hbk] at hbeg ⊢
      have hp5 := pow5 g1
      have hhr := fun w' => (hright_any B[k].c B[k].t g1 w').mono (R' := fun e w2 => e = .returned (.bool true) ∧ ∃ n, w2 = w'.drewN n) fun e w2 h => ⟨h.1, 0, h.2.symm⟩
      have hsz := fun w' => (hsize_any B[k].c B[k].t g1 w').mono (R' := fun e w2 => e = .returned (.int .i64 ((2 ^ B[k].c : Nat) : Int)) ∧ ∃ n, w2 = w'.drewN n) fun e w2 h => ⟨h.1, 0, h.2.symm⟩
      generalize B[k] = b at *
      generalize hdN b.c b.t = hv at *
      generalize b.x = x at *
      generalize 2 ^ b.c = z at *
      have hhi := HHI.out
      have hhe := H.out.2.2.2.2.2.1
      obtain ⟨T, hT⟩ : ∃ T : World → Prop, T = fun w' => Ar w' g p q ws (begK B n k) ∧ Blk w' w.heap.size 25 #[.pointer (some ⟨g, 0, none⟩)] := ⟨_, rfl⟩
      have hTd : ∀ w' n, T w' → T (w'.drewN n) := by rw [hT]; exact fun w' n h => ⟨h.1.drewN n, h.2⟩
      have hT0 : T W.drew := by rw [hT]; exact ⟨dA.drew, dB⟩
      have q0 : ∀ w', T w' → w'.cell? ⟨w.heap.size, 0, none⟩ = some (.pointer (some ⟨g, 0, none⟩)) := by rw [hT]; exact fun w' h' => h'.2.cell 0
      have hed := fun w' (h' : T w') => (edge_any (show Ar w' g p q ws (begK B n k) by rw [hT] at h'; exact h'.1)).mono (R' := fun e' w2 => e' = .returned (.int .i64 (e : Int)) ∧ ∃ n, w2 = w'.drewN n) fun e' w2 h => ⟨by rw [← HE.out]; exact h.1, 0, h.2.symm⟩
      have hhr2 := fun w' (_ : T w') => hhr w'
      have hsz2 := fun w' (_ : T w') => hsz w'
      have d1 : decide ((e : Int) < (x : Int) + (z : Int)) = false := decide_eq_false (by omega)
      have d2 : decide (e < x + z) = false := decide_eq_false (by omega)
      have hTT : ∀ m, Ar (W.drew.drewN m) g p q ws (begK B n k) ∧ Blk (W.drew.drewN m) w.heap.size 25 #[.pointer (some ⟨g, 0, none⟩)] ∧ Blk (W.drew.drewN m) W1.heap.size 4 #[.bool false] := fun m => ⟨dA.drew.drewN m, dB, dR⟩
      have hKK : ∀ n, Kept [q] W (W.drew.drewN n) := fun n => ((Kept.refl [q] W).drew).drewN n
      have hKw : ∀ n, Kept [q] w (W.drew.drewN n) := fun n => (dk.drew).drewN n
      have HT := Lib.hid (And.intro hTT (And.intro hKK (And.intro hKw hbeg)))
      clear hT dA dB dR dk hTT hKK hKw hbeg hhr hsz
      gi_wp2_with fail
      refine wp_region_linI T [] [0, 1, 2, 3, 4, 5, 6, 7, 8, 9, 10, 11] (by kernel_rfl) (by kernel_rfl) (by kernel_rfl) hTd hT0 ?_
      (repeat (first | (refine linI_off rfl rfl (by rfl) ?_; (try simp only [Act.put, List.getElem_toArray, List.getElem_cons_zero, List.getElem_cons_succ, List.setIfInBounds_toArray, List.set_cons_zero, List.set_cons_succ])) | (refine linI_op (v := ?_) rfl rfl (by rfl) (fun w9 hS9 => ?_) ?_; rotate_left; (focus ((have k0 := q0 w9 hS9; (try dsimp only at hS9); go_simp; (try go_bits)) <;> with_reducible rfl)); (try simp only [Act.put, List.getElem_toArray, List.getElem_cons_zero, List.getElem_cons_succ, List.setIfInBounds_toArray, List.set_cons_zero, List.set_cons_succ])) | (refine linI_fn (f := 69) rfl rfl (by rfl) rfl rfl (enters_of Try.func69 (by kernel_rfl) rfl) (fun w9 hS9 => hhr2 w9 hS9) ?_ ?_; (focus (simp [Act.eval]; done)); (try simp only [Act.put, List.getElem_toArray, List.getElem_cons_zero, List.getElem_cons_succ, List.setIfInBounds_toArray, List.set_cons_zero, List.set_cons_succ])) | (refine linI_fn (f := 70) rfl rfl (by rfl) rfl rfl (enters_of Try.func70 (by kernel_rfl) rfl) (fun w9 hS9 => hsz2 w9 hS9) ?_ ?_; (focus (simp [Act.eval]; done)); (try simp only [Act.put, List.getElem_toArray, List.getElem_cons_zero, List.getElem_cons_succ, List.setIfInBounds_toArray, List.set_cons_zero, List.set_cons_succ])) | (refine linI_fn (f := 52) rfl rfl (by rfl) rfl rfl (enters_of Try.func52 (by kernel_rfl) rfl) (fun w9 hS9 => hed w9 hS9) ?_ ?_; (focus (simp [Act.eval]; done)); (try simp only [Act.put, List.getElem_toArray, List.getElem_cons_zero, List.getElem_cons_succ, List.setIfInBounds_toArray, List.set_cons_zero, List.set_cons_succ]))))
      refine linI_nil (fun n2 => ?_)
      obtain ⟨⟨tA, tB, tR⟩, tk, tkw⟩ := And.intro (HT.out.1 n2) (And.intro (HT.out.2.1 n2) (HT.out.2.2.1 n2))
      rw [show W.drew.drewN n2 = W.drew.drewN n2 from rfl]
      generalize W.drew.drewN n2 = V at *
      have cb := tB.cell 0
      have c1 := tA.c1
      have cx := tA.beg (i := x) (by omega)
      have fx := tA.bgs.free x
      have hq1 : w.heap.size ≠ q := by have := H.out.2.2.2.2.2.2.2.2.2.bgs.lt; omega
      have hq2 : W1.heap.size ≠ q := by have := H.out.2.2.2.2.2.2.2.2.2.bgs.lt; have := H.out.2.2.2.2.2.2.2.1; omega
      have HF := Lib.hid (And.intro (And.intro (tA.setB x true) (And.intro (tB.far (p := ⟨q, x, none⟩) hq1 (.bool true)) (tR.far (p := ⟨q, x, none⟩) hq2 (.bool true)))) (And.intro (tk.setCell (p := ⟨q, x, none⟩) (.inl (by simp)) (.bool true)) (tkw.setCell (p := ⟨q, x, none⟩) (.inl (by simp)) (.bool true))))
      clear tA tB tR tk tkw
      generalize (begK B n k).getD x false = y at *
      have d3 : decide ((x : Int) < (ws.length : Int)) = true := decide_eq_true (by omega)
      have d4 : decide (x < ws.length) = true := decide_eq_true (by omega)
      gi_wp2
      refine ⟨(KL.kept HF.out.2.1 hWs).more (by simp), .inl ⟨?_, HF.out.2.2, hk⟩⟩
      rw [HT.out.2.2.2]
      exact HF.out.1
    · obtain rfl : k = B.length := by omega
      rw [xS_end, hS_end]
      have hy : ws.getD E 0 < 4294967296 := word_sm H.out.2.2.2.2.2.2.1.2.2 E
      have hstk := H.out.2.2.2.2.2.2.1.1.2
      rw [HE.out] at hstk
      have hhi := HHI.out
      have hhe := H.out.2.2.2.2.2.1
      obtain ⟨T, hT⟩ : ∃ T : World → Prop, T = fun w' => Ar w' g p q ws (begK B n B.length) ∧ Blk w' w.heap.size 25 #[.pointer (some ⟨g, 0, none⟩)] := ⟨_, rfl⟩
      have hTd : ∀ w' n, T w' → T (w'.drewN n) := by rw [hT]; exact fun w' n h => ⟨h.1.drewN n, h.2⟩
      have hT0 : T W.drew := by rw [hT]; exact ⟨dA.drew, dB⟩
      have q0 : ∀ w', T w' → w'.cell? ⟨w.heap.size, 0, none⟩ = some (.pointer (some ⟨g, 0, none⟩)) := by rw [hT]; exact fun w' h' => h'.2.cell 0
      have hed := fun w' (h' : T w') => (edge_any (show Ar w' g p q ws (begK B n B.length) by rw [hT] at h'; exact h'.1)).mono (R' := fun e' w2 => e' = .returned (.int .i64 (e : Int)) ∧ ∃ n, w2 = w'.drewN n) fun e' w2 h => ⟨by rw [← HE.out]; exact h.1, 0, h.2.symm⟩
      have hRR : ∀ m, Blk (W.drew.drewN m) W1.heap.size 4 #[.bool false] ∧ Kept [q] W (W.drew.drewN m) ∧ Kept [q] w (W.drew.drewN m) := fun m => ⟨dR, ((Kept.refl [q] W).drew).drewN m, (dk.drew).drewN m⟩
      have hle1 : w.heap.size ≤ W1.heap.size := by have := H.out.2.2.2.2.2.2.2.1; omega
      have hW1s : W1.heap.size < w.heap.size + 3 := by have := H.out.2.2.2.2.2.2.2.1; omega
      have HT := Lib.hid (And.intro hRR (And.intro hle1 hW1s))
      clear hT dA dB dR dk hRR hle1 hW1s
      generalize ws.getD E 0 = y at *
      by_cases hd : ∃ c t, c ≤ 5 ∧ y = hdN c t
      · obtain ⟨c, t, hc, rfl⟩ := hd
        have hfar := hstk c t hc rfl
        have hp5 := pow5 hc
        have hhr2 := fun w' (_ : T w') => (hright_any c t hc w').mono (R' := fun e w2 => e = .returned (.bool true) ∧ ∃ n, w2 = w'.drewN n) fun e w2 h => ⟨h.1, 0, h.2.symm⟩
        have hsz2 := fun w' (_ : T w') => (hsize_any c t hc w').mono (R' := fun e w2 => e = .returned (.int .i64 ((2 ^ c : Nat) : Int)) ∧ ∃ n, w2 = w'.drewN n) fun e w2 h => ⟨h.1, 0, h.2.symm⟩
        clear hstk
        generalize hdN c t = hv at *
        generalize 2 ^ c = z at *
        have hE1 : ((E + 1 : Nat) : Int) = (E : Int) + 1 := by omega
        rw [hE1]
        have d1 : decide ((e : Int) < (E : Int) + 1 + (z : Int)) = true := decide_eq_true (by omega)
        gi_wp2_with fail
        refine wp_region_linI T [] [0, 1, 2, 3, 4, 5, 6, 7, 8, 9, 10, 11] (by kernel_rfl) (by kernel_rfl) (by kernel_rfl) hTd hT0 ?_
        (repeat (first | (refine linI_off rfl rfl (by rfl) ?_; (try simp only [Act.put, List.getElem_toArray, List.getElem_cons_zero, List.getElem_cons_succ, List.setIfInBounds_toArray, List.set_cons_zero, List.set_cons_succ])) | (refine linI_op (v := ?_) rfl rfl (by rfl) (fun w9 hS9 => ?_) ?_; rotate_left; (focus ((have k0 := q0 w9 hS9; (try dsimp only at hS9); go_simp; (try go_bits)) <;> with_reducible rfl)); (try simp only [Act.put, List.getElem_toArray, List.getElem_cons_zero, List.getElem_cons_succ, List.setIfInBounds_toArray, List.set_cons_zero, List.set_cons_succ])) | (refine linI_fn (f := 69) rfl rfl (by rfl) rfl rfl (enters_of Try.func69 (by kernel_rfl) rfl) (fun w9 hS9 => hhr2 w9 hS9) ?_ ?_; (focus (simp [Act.eval]; done)); (try simp only [Act.put, List.getElem_toArray, List.getElem_cons_zero, List.getElem_cons_succ, List.setIfInBounds_toArray, List.set_cons_zero, List.set_cons_succ])) | (refine linI_fn (f := 70) rfl rfl (by rfl) rfl rfl (enters_of Try.func70 (by kernel_rfl) rfl) (fun w9 hS9 => hsz2 w9 hS9) ?_ ?_; (focus (simp [Act.eval]; done)); (try simp only [Act.put, List.getElem_toArray, List.getElem_cons_zero, List.getElem_cons_succ, List.setIfInBounds_toArray, List.set_cons_zero, List.set_cons_succ])) | (refine linI_fn (f := 52) rfl rfl (by rfl) rfl rfl (enters_of Try.func52 (by kernel_rfl) rfl) (fun w9 hS9 => hed w9 hS9) ?_ ?_; (focus (simp [Act.eval]; done)); (try simp only [Act.put, List.getElem_toArray, List.getElem_cons_zero, List.getElem_cons_succ, List.setIfInBounds_toArray, List.set_cons_zero, List.set_cons_succ]))))
        refine linI_nil (fun n2 => ?_)
        obtain ⟨tR, tk, tkw⟩ := HT.out.1 n2
        generalize W.drew.drewN n2 = V at *
        have cR := tR.cell 0
        have fR := tR.free 0
        have HF := Lib.hid (And.intro (tR.set 0 (.bool false)) (And.intro (KL.kept ((tk.more (T := [q, W1.heap.size]) (by simp)).setCell (p := ⟨W1.heap.size, 0, none⟩) (.inl (by simp)) (.bool false)) hWs) (tkw.setCell (p := ⟨W1.heap.size, 0, none⟩) (.inr HT.out.2.1) (.bool false))))
        clear tR tk tkw
        gi_wp2
        exact ⟨HF.out.2.1, .inr ⟨rfl, HF.out.1, HF.out.2.2⟩⟩
      · have hhr2 := fun w' (_ : T w') => (hright_no y hy (fun c t hc h => hd ⟨c, t, hc, h⟩) w').mono (R' := fun e w2 => e = .returned (.bool false) ∧ ∃ n, w2 = w'.drewN n) fun e w2 h => ⟨h.1, 0, h.2.symm⟩
        clear hstk hd
        have hE1 : ((E + 1 : Nat) : Int) = (E : Int) + 1 := by omega
        rw [hE1]
        gi_wp2_with fail
        refine wp_region_linI T [] [0, 1, 2, 3, 4, 5, 6, 7, 8, 9, 10, 11] (by kernel_rfl) (by kernel_rfl) (by kernel_rfl) hTd hT0 ?_
        (repeat (first | (refine linI_off rfl rfl (by rfl) ?_; (try simp only [Act.put, List.getElem_toArray, List.getElem_cons_zero, List.getElem_cons_succ, List.setIfInBounds_toArray, List.set_cons_zero, List.set_cons_succ])) | (refine linI_op (v := ?_) rfl rfl (by rfl) (fun w9 hS9 => ?_) ?_; rotate_left; (focus ((have k0 := q0 w9 hS9; (try dsimp only at hS9); go_simp; (try go_bits)) <;> with_reducible rfl)); (try simp only [Act.put, List.getElem_toArray, List.getElem_cons_zero, List.getElem_cons_succ, List.setIfInBounds_toArray, List.set_cons_zero, List.set_cons_succ])) | (refine linI_fn (f := 69) rfl rfl (by rfl) rfl rfl (enters_of Try.func69 (by kernel_rfl) rfl) (fun w9 hS9 => hhr2 w9 hS9) ?_ ?_; (focus (simp [Act.eval]; done)); (try simp only [Act.put, List.getElem_toArray, List.getElem_cons_zero, List.getElem_cons_succ, List.setIfInBounds_toArray, List.set_cons_zero, List.set_cons_succ])) | (refine linI_fn (f := 70) rfl rfl (by rfl) rfl rfl (enters_of Try.func70 (by kernel_rfl) rfl) (fun w9 hS9 => hsz2 w9 hS9) ?_ ?_; (focus (simp [Act.eval]; done)); (try simp only [Act.put, List.getElem_toArray, List.getElem_cons_zero, List.getElem_cons_succ, List.setIfInBounds_toArray, List.set_cons_zero, List.set_cons_succ])) | (refine linI_fn (f := 52) rfl rfl (by rfl) rfl rfl (enters_of Try.func52 (by kernel_rfl) rfl) (fun w9 hS9 => hed w9 hS9) ?_ ?_; (focus (simp [Act.eval]; done)); (try simp only [Act.put, List.getElem_toArray, List.getElem_cons_zero, List.getElem_cons_succ, List.setIfInBounds_toArray, List.set_cons_zero, List.set_cons_succ]))))
        refine linI_nil (fun n2 => ?_)
        obtain ⟨tR, tk, tkw⟩ := HT.out.1 n2
        generalize W.drew.drewN n2 = V at *
        have cR := tR.cell 0
        have fR := tR.free 0
        have HF := Lib.hid (And.intro (tR.set 0 (.bool false)) (And.intro (KL.kept ((tk.more (T := [q, W1.heap.size]) (by simp)).setCell (p := ⟨W1.heap.size, 0, none⟩) (.inl (by simp)) (.bool false)) hWs) (tkw.setCell (p := ⟨W1.heap.size, 0, none⟩) (.inr HT.out.2.1) (.bool false))))
        clear tR tk tkw
        gi_wp2
        exact ⟨HF.out.2.1, .inr ⟨rfl, HF.out.1, HF.out.2.2⟩⟩
  case stop =>
    rintro k W hk ⟨dR, dk⟩ hdef
    have hlt := (Array.getElem?_eq_some_iff.1 hdef).1
    have hsz3 : W1.heap.size < W3.heap.size := H3.out.2.2.1.lt
    have hfin := (OwnFrom.and (own_blk (β := Unit) W3.heap.size W1.heap.size 4 (fun _ => #[.bool false])) (kept_own (β := Unit) (S := [q]) H3.out.2.2.2.1.size)).putObj (s := ()) (.deferred none) ⟨dR, dk⟩ (by omega) hdef rfl
    have cr := hfin.1.cell 0
    exact marks_ret hdef (by simp [results, Try.results43, go_sem, cr]) ⟨rfl, hfin.2⟩
end Go.Proofs.Ytgnpoehcmlmajaa
