/-
  What Open of a disk does to it, and what it finds. Nothing here is a statement of the document.
-/
import Derived.Test.YtelpihlifdfgoaaWalCo
import Derived.Test.YtelpihlifdfgoaaWalSi
import Derived.Test.YtelpihlifdfgoaaWalPo
import Derived.Test.YtelpihlifdfgoaaWalT
namespace Go.Proofs.Ytelpihlifdfgoaa
open Go.RowKit Go.Shelf
set_option linter.unusedVariables false
/-- This sector of an area is to be wiped: no chain that counts uses it, and its turn is not an earlier one. -/
def keepL (L : List Bk) (t u : Nat) (cs : Bool) (i : Nat) : Bool := !(cs && decide (i < u)) && !decide (num4 (L.getD i Bk.zero).n 0 < t)
def toldL (L : List Bk) (first t u : Nat) (cs : Bool) (k : Nat) : List Nat := ((List.range k).filter (keepL L t u cs)).map (first + ·)
theorem toldL_next (L : List Bk) (first t u : Nat) (cs : Bool) (k : Nat) : toldL L first t u cs (k + 1) = if keepL L t u cs k then toldL L first t u cs k ++ [first + k] else toldL L first t u cs k := by
  unfold toldL
  rw [List.range_succ, List.filter_append, List.map_append]
  by_cases h : keepL L t u cs k
  · rw [if_pos h]; simp [h]
  · rw [if_neg h]; simp [h]
theorem toldL_pre (L : List Bk) (first t u : Nat) (cs : Bool) (k d : Nat) : ∃ r, toldL L first t u cs (k + d) = toldL L first t u cs k ++ r := by
  induction d with
  | zero => exact ⟨[], by simp⟩
  | succ d ih =>
    obtain ⟨r, hr⟩ := ih
    rw [← Nat.add_assoc, toldL_next]
    split
    · exact ⟨r ++ [first + (k + d)], by rw [hr, List.append_assoc]⟩
    · exact ⟨r, hr⟩
/-- What is told of both areas. -/
def leftPl (A B : List Bk) (t u n c : Nat) : List Nat := toldL A 2 t u (0 == c) A.length ++ toldL B (2 + n) t u (1 == c) B.length
def leftE (P : List Nat) (k : Nat) : Value × Value := (.int .i64 ((P.getD k 0 : Nat) : Int), .agg Bk.zero.cs)
theorem told_at {L : List Bk} {first t u k : Nat} {cs : Bool} (P Q : List Nat) (hk : k < L.length) (hy : keepL L t u cs k = true) : (P ++ toldL L first t u cs L.length ++ Q).getD (P.length + (toldL L first t u cs k).length) 0 = first + k ∧ P.length + (toldL L first t u cs k).length < (P ++ toldL L first t u cs L.length ++ Q).length := by
  obtain ⟨r, hr⟩ := toldL_pre L first t u cs (k + 1) (L.length - (k + 1))
  rw [show k + 1 + (L.length - (k + 1)) = L.length from by omega, toldL_next, if_pos hy] at hr
  rw [hr]
  constructor
  · rw [List.getD_eq_getElem?_getD]
    have e : P ++ ((toldL L first t u cs k ++ [first + k]) ++ r) ++ Q = (P ++ toldL L first t u cs k) ++ ((first + k) :: (r ++ Q)) := by simp
    rw [e, ← List.length_append, List.getElem?_append_right (Nat.le_refl _)]
    simp
  · simp only [List.length_append, List.length_cons, List.length_nil]
    omega
theorem lies_take {w : World} {a : Option Addr} {l : List Nat} (h : Lies w a l) (m : Nat) : Lies w a (l.take m) := by
  rcases h with rfl | ⟨b, o, rfl, hb, hc⟩
  · exact .inl (by simp)
  · refine .inr ⟨b, o, rfl, hb, fun i hi => ?_⟩
    have h1 : i < m ∧ i < l.length := by rw [List.length_take] at hi; omega
    rw [hc i h1.2]
    simp [List.getD_eq_getElem?_getD, List.getElem?_take, h1.1]
theorem num4_take (m : List Nat) : num4 (m.take 4) 0 = num4 m 0 := by simp [num4, List.take_take]
theorem zero_laid : Bk.zero.cs = #[Value.int .u8 0, Value.int .u8 0, Value.int .u8 0, Value.int .u8 0, Value.int .u8 0, Value.int .u8 0, Value.int .u8 0, Value.int .u8 0, Value.int .u8 0, Value.int .u8 0, Value.int .u8 0, Value.int .u8 0, Value.int .u8 0, Value.int .u8 0, Value.int .u8 0, Value.int .u8 0, Value.int .u8 0, Value.int .u8 0, Value.int .u8 0, Value.int .u8 0, Value.int .u8 0, Value.int .u8 0, Value.int .u8 0, Value.int .u8 0, Value.int .u8 0, Value.int .u8 0, Value.int .u8 0, Value.int .u8 0, Value.int .u8 0, Value.int .u8 0, Value.int .u8 0, Value.int .u8 0, Value.int .u8 0, Value.int .u8 0, Value.int .u8 0, Value.int .u8 0, Value.int .u8 0, Value.int .u8 0, Value.int .u8 0, Value.int .u8 0, Value.int .u8 0, Value.int .u8 0, Value.int .u8 0, Value.int .u8 0, Value.int .u8 0, Value.int .u8 0, Value.int .u8 0, Value.int .u8 0, Value.int .u8 0, Value.int .u8 0, Value.int .u8 0, Value.int .u8 0, Value.int .u8 0, Value.int .u8 0, Value.int .u8 0, Value.int .u8 0, Value.int .u8 0, Value.int .u8 0, Value.int .u8 0, Value.int .u8 0, Value.int .u8 0, Value.int .u8 0, Value.int .u8 0, Value.int .u8 0] := rfl
/-- It lies where an iterator may read it. -/
def SafeS (w : World) (S : List Nat) (a : Option Addr) : Prop := ∀ x, a = some x → x.block ∉ S ∧ ∃ o, w.heap[x.block]? = some o ∧ notRow o = true
theorem Secs.kb {w w' : World} {S : List Nat} {a : Option Addr} {L : List Bk} (h : Secs w a L) (k : KB S w w') (hS : SafeS w S a) : Secs w' a L := by
  rcases h with h | ⟨g, o, rfl, hg, hc⟩
  · exact .inl h
  · obtain ⟨h1, ob, h2, h3⟩ := hS _ rfl
    have hb : w'.heap[g]? = w.heap[g]? := (k.same _ _ h1 h2 h3).trans h2.symm
    refine .inr ⟨g, o, rfl, Nat.lt_of_lt_of_le hg k.size, fun i b hb2 j hj => ?_⟩
    rw [← hc i b hb2 j hj]
    simp only [World.cell?, hb]
theorem SafeS.kb {w w' : World} {S : List Nat} {a : Option Addr} (h : SafeS w S a) (k : KB S w w') : SafeS w' S a := fun x hx => by
  obtain ⟨h1, ob, h2, h3⟩ := h x hx
  exact ⟨h1, ob, k.same _ _ h1 h2 h3, h3⟩
/-- What leftOver's iterator reads. -/
structure LoAt (S : List Nat) (W : World) (hb wb g : Nat) (a0 a1 : Option Addr) (A B : List Bk) (c0 c1 t : Nat) (sv tv : Value) (u p n c : Nat) : Prop where
  h : Blk W hb 91 #[.slice a0 A.length c0, .slice a1 B.length c1]
  b : Blk W wb 24 #[.pointer (some ⟨g, 0, none⟩)]
  gw : Blk W g 67 (lgcs t sv tv u p n c false)
  s0 : Secs W a0 A
  s1 : Secs W a1 B
  f0 : SafeS W S a0
  f1 : SafeS W S a1
  nh : hb ∉ S
  nb : wb ∉ S
  ng : g ∉ S
theorem LoAt.kb {S : List Nat} {W W' : World} {hb wb g : Nat} {a0 a1 : Option Addr} {A B : List Bk} {c0 c1 t : Nat} {sv tv : Value} {u p n c : Nat} (h : LoAt S W hb wb g a0 a1 A B c0 c1 t sv tv u p n c) (k : KB S W W') : LoAt S W' hb wb g a0 a1 A B c0 c1 t sv tv u p n c :=
  ⟨k.blk h.h h.nh (by decide), k.blk h.b h.nb (by decide), k.blk h.gw h.ng (by decide), h.s0.kb k h.f0, h.s1.kb k h.f1, h.f0.kb k, h.f1.kb k, h.nh, h.nb, h.ng⟩
theorem LoAt.more {S : List Nat} {W : World} {lo hb wb g : Nat} {a0 a1 : Option Addr} {A B : List Bk} {c0 c1 t : Nat} {sv tv : Value} {u p n c : Nat} (h : LoAt S W hb wb g a0 a1 A B c0 c1 t sv tv u p n c) (hl : ∀ (k : Nat) (o : Obj), W.heap[k]? = some o → k ≠ lo) : LoAt (lo :: S) W hb wb g a0 a1 A B c0 c1 t sv tv u p n c := by
  have f : ∀ a, SafeS W S a → SafeS W (lo :: S) a := fun a h x hx => by
    obtain ⟨h1, o, h2, h3⟩ := h x hx
    exact ⟨by simp only [List.mem_cons, not_or]; exact ⟨hl _ o h2, h1⟩, o, h2, h3⟩
  exact ⟨h.h, h.b, h.gw, h.s0, h.s1, f _ h.f0, f _ h.f1, by simp only [List.mem_cons, not_or]; exact ⟨hl _ _ h.h, h.nh⟩, by simp only [List.mem_cons, not_or]; exact ⟨hl _ _ h.b, h.nb⟩, by simp only [List.mem_cons, not_or]; exact ⟨hl _ _ h.gw, h.ng⟩⟩
attribute [local go_sem ↓] load_blk_rule store_blk_rule
set_option maxRecDepth 100000 in
set_option maxHeartbeats 4000000 in
theorem left_tells {w : World} {S : List Nat} {hb wb g : Nat} {a0 a1 : Option Addr} {A B : List Bk} {c0 c1 t : Nat} {sv tv : Value} {u p n c : Nat} (h : LoAt S w hb wb g a0 a1 A B c0 c1 t sv tv u p n c) (hA : ∀ b ∈ A, b.Byt) (hB : ∀ b ∈ B, b.Byt) (hA2 : A.length ≤ 1000) (hB2 : B.length ≤ 1000) (hn : n ≤ 1000) (hc : c < 2) :
    Tells 60 #[.pointer (some ⟨hb, 0, none⟩), .pointer (some ⟨wb, 0, none⟩)] S (leftPl A B t u n c).length (leftE (leftPl A B t u n c)) w := by
  intro lo J Jx W hW hlw hlo hJ hJx hY h0
  have hLo : LoAt (lo :: S) W hb wb g a0 a1 A B c0 c1 t sv tv u p n c := (h.more (fun k o hk e => by have := (Array.getElem?_eq_some_iff.1 hk).1; omega)).kb (hW.more (by simp; exact fun i hi => .inr hi))
  have hi0 := fun w => idx0 a0 a1 A.length B.length c0 c1 w
  have hi1 := fun w => idx1 a0 a1 A.length B.length c0 c1 w
  have hn8 : (1 : Nat) ≤ 8 := by omega
  have d0 : W.cell? ⟨hb, 0, none⟩ = some (.slice a0 A.length c0) := hLo.h.cell 0
  have d1 : W.cell? ⟨hb, 1, none⟩ = some (.slice a1 B.length c1) := hLo.h.cell 1
  clear h hW hlw hlo
  obtain ⟨P, hP⟩ : ∃ P, leftPl A B t u n c = P := ⟨_, rfl⟩
  rw [hP] at hY ⊢
  refine callsIn_of_wp Try.func60 rfl trivial ?_ rfl
  simp only [Try.ntmps60, List.size_toArray, List.length_cons, List.length_nil, Nat.reduceAdd, Nat.reduceSub, Array.replicate_succ, Array.replicate_zero, List.push_toArray, List.append_toArray, List.nil_append, List.cons_append]
  gi_wp2_with fail
  gi_loopw [10] (fun i wr => ∃ k : Nat, k ≤ 2 ∧ i = .int .i64 k ∧ J (if k = 0 then 0 else if k = 1 then 0 + (toldL A 2 t u (0 == c) A.length).length else (toldL A 2 t u (0 == c) A.length).length + (toldL B (2 + n) t u (1 == c) B.length).length) wr ∧ LoAt (lo :: S) wr hb wb g a0 a1 A B c0 c1 t sv tv u p n c ∧ 0 ≤ wr.heap.size) (fun i _ => 2 - (intOf i).toNat)
  case atStart => exact ⟨0, by omega, rfl, h0, hLo, Nat.zero_le _⟩
  case round =>
    clear d0 d1 hLo h0
    obtain ⟨k, hk, rfl, hJs, hLo, _⟩ := hrel
    rcases (show k = 0 ∨ k = 1 ∨ k = 2 by omega) with rfl | rfl | rfl
    · rw [if_pos rfl] at hJs
      have hm9 : ∀ W', KB (lo :: S) wr W' → LoAt (lo :: S) W' hb wb g a0 a1 A B c0 c1 t sv tv u p n c := fun W' k => hLo.kb k
      have HM := Lib.hid hm9
      clear hm9
      gi_wp2_with fail
      gi_loopw [16] (fun i wr2 => ∃ k : Nat, k ≤ A.length ∧ i = .int .i64 k ∧ J (0 + (toldL A 2 t u (0 == c) k).length) wr2 ∧ LoAt (lo :: S) wr2 hb wb g a0 a1 A B c0 c1 t sv tv u p n c ∧ 0 ≤ wr2.heap.size) (fun i _ => A.length - (intOf i).toNat)
      case atStart => exact ⟨0, Nat.zero_le _, rfl, hJs, hLo, Nat.zero_le _⟩
      case round =>
        obtain ⟨k, hk, rfl, hJ2, hL2, _⟩ := hrel
        by_cases hlt : k < A.length
        · obtain ⟨b, hb9⟩ : ∃ b, A[k]? = some b := ⟨_, List.getElem?_eq_getElem hlt⟩
          have hbB : b.Byt := hA b (List.mem_of_getElem? hb9)
          have hgd : (A.getD k Bk.zero) = b := by rw [List.getD_eq_getElem?_getD, hb9]; rfl
          obtain ⟨g0, o0, rfl, hg0, hc0⟩ : ∃ g o, a0 = some ⟨g, o, none⟩ ∧ g < wr.heap.size ∧ ∀ i b, A[i]? = some b → ∀ j, j < 64 → wr.cell? ⟨g, o + i * 64 + j, none⟩ = b.cs[j]? := by
            rcases hL2.s0 with h9 | h9
            · rw [h9] at hb9; simp at hb9
            · exact h9
          have hld := lsec (hc0 k b hb9)
          have hsn := sblk_new wr b
          obtain ⟨X, hX⟩ : ∃ X, wr.alloc (.cells b.cs 81) = X := ⟨_, rfl⟩
          rw [hX] at hsn
          have hqX : Blk X wr.heap.size 81 b.cs := by rw [← hX]; exact Blk.new _ _ _
          have hbX : Below wr.heap.size wr X := by rw [← hX]; exact (Below.refl _ _).alloc (Nat.le_refl _) _
          have hLX := hL2.kb (KB.below hbX)
          have hJX := hJ _ _ _ none hJ2 (grown_of_below hbX) (fun r h => by cases h)
          have e0 : X.cell? ⟨wb, 0, none⟩ = some (.pointer (some ⟨g, 0, none⟩)) := hLX.b.cell 0
          have e9 : X.cell? ⟨g, 9, none⟩ = some (.int .i64 (c : Int)) := hLX.gw.cell 9
          have e3 : X.cell? ⟨g, 3, none⟩ = some (.int .i64 (u : Int)) := hLX.gw.cell 3
          have hki : (k : Int) < (A.length : Int) := by omega
          have HX := Lib.hid (And.intro hJX (And.intro hLX hqX))
          have hdr : Below X.heap.size X X.drew := (Below.refl _ _).drew
          have HW := Lib.hid (And.intro (hJ _ _ _ none hJX (grown_of_below hdr) (fun r h => by cases h)) (hLX.kb (KB.below hdr)))
          obtain ⟨BC, hBC⟩ : ∃ BC, b.cs = BC := ⟨_, rfl⟩
          rw [hBC] at hld hsn
          have HB := Lib.hid hBC
          clear hL2 hJ2 hX hqX hbX hLX hJX hc0 hg0 hBC
          by_cases hck : 0 = c
          · have hci : ((0 : Int) == (c : Int)) = true := by rw [← hck]; rfl
            have hcn : (0 == c) = true := by rw [← hck]; rfl
            have Hck := Lib.hid hck
            clear hck
            by_cases hku : k < u
            · have hkui : (k : Int) < (u : Int) := by omega
              have hkp : keepL A t u (0 == c) k = false := by unfold keepL; rw [hcn, decide_eq_true hku]; rfl
              gi_wp2_with (first | (with_reducible refine wpListIn_alloc_z rfl 81 rfl Bk.zero.cs 64 z_blk ?_))
              refine wpIn_wide.2 (wp_region_linY (fun _ => True) [] [0, 1, 2, 3, 4, 5, 6, 7, 8, 9, 10, 11] (by kernel_rfl) (by kernel_rfl) trivial ?_)
              (repeat (first | (refine linX_off rfl rfl (by rfl) ?_; (try simp only [Act.put, List.getElem_toArray, List.getElem_cons_zero, List.getElem_cons_succ, List.setIfInBounds_toArray, List.set_cons_zero, List.set_cons_succ])) | (refine linX_op (v := ?_) rfl rfl (by rfl) (fun w9 hS9 => ?_) ?_; rotate_left; (focus (((go_simp; (try go_bits)) <;> with_reducible rfl))); (try simp only [Act.put, List.getElem_toArray, List.getElem_cons_zero, List.getElem_cons_succ, List.setIfInBounds_toArray, List.set_cons_zero, List.set_cons_succ]))))
              refine linX_nil ?_
              gi_wp2_with fail
              (refine ⟨?_, ?measure⟩; (iterate 70 (first | apply Exists.intro | skip)); refine ⟨?rel, rfl⟩)
              case rel => exact ⟨k + 1, hlt, by go_num, by rw [toldL_next, if_neg (by rw [hkp]; simp)]; exact HW.out.1, HW.out.2, Nat.zero_le _⟩
              case measure => simp [intOf]; omega
            · have hkui : ¬ (k : Int) < (u : Int) := by omega
              gi_wp2_with (first | (with_reducible refine wpListIn_alloc_z rfl 81 rfl Bk.zero.cs 64 z_blk ?_))
              have hLX := HX.out.2.1
              have hqX := HX.out.2.2
              have hlies : Lies X.drew (some ⟨wr.heap.size, 0, none⟩) (b.n.take 4) := lies_take (lies_blk hqX.drew hbB) 4
              have hrd := read_any (some ⟨wr.heap.size, 0, none⟩) 4 64 (b.n.take 4) X.drew (by rw [List.length_take, b.n_len]; rfl) (by omega) hlies
              obtain ⟨S7, hS7⟩ : ∃ S7 : World → Prop, S7 = Below X.heap.size X := ⟨_, rfl⟩
              have hS70 : S7 X.drew := by rw [hS7]; exact (Below.refl _ _).drew
              have Q0 : ∀ w', S7 w' → w'.cell? ⟨wb, 0, none⟩ = some (.pointer (some ⟨g, 0, none⟩)) := fun w' h => by
                rw [hS7] at h
                exact (h.cell (p := ⟨wb, 0, none⟩) hLX.b.lt).trans (hLX.b.cell 0)
              have Q1 : ∀ w', S7 w' → w'.cell? ⟨g, 0, none⟩ = some (.int .u32 (t : Int)) := fun w' h => by
                rw [hS7] at h
                exact (h.cell (p := ⟨g, 0, none⟩) hLX.gw.lt).trans (hLX.gw.cell 0)
              refine wpIn_wide.2 (wp_region_linY S7 [3, 4] [0, 1, 2, 5, 6, 7, 8, 9, 3, 4, 10, 11] (by kernel_rfl) (by kernel_rfl) hS70 ?_)
              (repeat (first | (refine linX_off rfl rfl (by rfl) ?_; (try simp only [Act.put, List.getElem_toArray, List.getElem_cons_zero, List.getElem_cons_succ, List.setIfInBounds_toArray, List.set_cons_zero, List.set_cons_succ])) | (refine linX_op (v := ?_) rfl rfl (by rfl) (fun w9 hS9 => ?_) ?_; rotate_left; (focus (((have k0 := Q0 w9 hS9; have k1 := Q1 w9 hS9; go_simp; (try go_bits)) <;> with_reducible rfl))); (try simp only [Act.put, List.getElem_toArray, List.getElem_cons_zero, List.getElem_cons_succ, List.setIfInBounds_toArray, List.set_cons_zero, List.set_cons_succ]))))
              refine linX_call (f := 55) (args := #[.slice (some ⟨wr.heap.size, 0, none⟩) 4 64]) rfl rfl (by rfl) rfl rfl (enters_of Try.func55 (by kernel_rfl) rfl) ?_ ?_
              · simp [Act.eval]
              refine hrd.mono ?_
              rintro e W5 ⟨r, rfl, hr5, hR5, hb5⟩
              have hbX5 : Below X.heap.size X W5 := hdr.trans (hb5.mono hdr.size)
              refine ⟨_, rfl, by rw [hS7]; exact hbX5, ?_⟩
              (try simp only [Act.put, List.getElem_toArray, List.getElem_cons_zero, List.getElem_cons_succ, List.setIfInBounds_toArray, List.set_cons_zero, List.set_cons_succ])
              refine linX_call (f := 56) (args := #[.pointer (some ⟨r, 0, none⟩)]) rfl rfl (by rfl) rfl rfl (enters_of Try.func56 (by kernel_rfl) rfl) ?_ ?_
              · simp [Act.eval]
              refine (u32_gen hR5 (hbB.bys.take 4) (by rw [List.length_take, b.n_len]; omega) (by rw [List.length_take, b.n_len]; omega)).mono ?_
              rintro e W6 ⟨rfl, -, hg6⟩
              have hbX6 : Below X.heap.size X W6 := hbX5.trans ((kept_gr hg6).below (by simp; exact Nat.le_of_lt hr5) hbX5.size)
              refine ⟨_, rfl, by rw [hS7]; exact hbX6, ?_⟩
              rw [num4_take]
              obtain ⟨T4, hT4⟩ : ∃ T4, num4 b.n 0 = T4 := ⟨_, rfl⟩
              rw [hT4]
              (try simp only [Act.put, List.getElem_toArray, List.getElem_cons_zero, List.getElem_cons_succ, List.setIfInBounds_toArray, List.set_cons_zero, List.set_cons_succ])
              (repeat (first | (refine linX_off rfl rfl (by rfl) ?_; (try simp only [Act.put, List.getElem_toArray, List.getElem_cons_zero, List.getElem_cons_succ, List.setIfInBounds_toArray, List.set_cons_zero, List.set_cons_succ])) | (refine linX_op (v := ?_) rfl rfl (by rfl) (fun w9 hS9 => ?_) ?_; rotate_left; (focus (((go_simp; (try go_bits)) <;> with_reducible rfl))); (try simp only [Act.put, List.getElem_toArray, List.getElem_cons_zero, List.getElem_cons_succ, List.setIfInBounds_toArray, List.set_cons_zero, List.set_cons_succ]))))
              refine linX_nil ?_
              have hJ6 := hJ _ _ _ none HX.out.1 (grown_of_below hbX6) (fun r h => by cases h)
              have hL6 := HX.out.2.1.kb (KB.below hbX6)
              have H6 := Lib.hid (And.intro hJ6 (And.intro hL6 hT4))
              clear hJ6 hL6 hT4 hbX5 hbX6 hb5 hR5 hg6 hrd hlies hS7 hS70 Q0 Q1 hLX hqX
              by_cases hlt4 : T4 < t
              · have hlti : (T4 : Int) < (t : Int) := by omega
                have hkp : keepL A t u (0 == c) k = false := by unfold keepL; rw [hgd, H6.out.2.2, decide_eq_true hlt4]; simp
                gi_wp2_with fail
                (refine ⟨?_, ?measure⟩; (iterate 70 (first | apply Exists.intro | skip)); refine ⟨?rel, rfl⟩)
                case rel => exact ⟨k + 1, hlt, by go_num, by rw [toldL_next, if_neg (by rw [hkp]; simp)]; exact H6.out.1, H6.out.2.1, Nat.zero_le _⟩
                case measure => simp [intOf]; omega
              · have hlti : ¬ (T4 : Int) < (t : Int) := by omega
                have hkp : keepL A t u (0 == c) k = true := by unfold keepL; rw [hgd, H6.out.2.2, decide_eq_false hlt4]; rw [hcn, decide_eq_false hku]; rfl
                obtain ⟨hat, hlen⟩ := told_at [] (toldL B (2 + n) t u (1 == c) B.length) hlt hkp
                rw [show ([] ++ toldL A 2 t u (0 == c) A.length ++ toldL B (2 + n) t u (1 == c) B.length) = leftPl A B t u n c from rfl, hP] at hat hlen
                obtain ⟨fn, tmps, assign, body, hy, hR⟩ := hY _ W6 hlen H6.out.1
                unfold leftE at hy
                rw [hat, show ((2 + k : Nat) : Int) = 2 + (k : Int) from by omega, zero_laid] at hy
                have x0 : W6.cell? ⟨wb, 0, none⟩ = some (.pointer (some ⟨g, 0, none⟩)) := H6.out.2.1.b.cell 0
                have xf : W6.cell? ⟨g, 5, none⟩ = some (.int .i64 2) := H6.out.2.1.gw.cell 5
                have hbz := fun w => build_blk_zero w
                gi_wp2_with fail
                refine hR.mono ?_
                rintro e W7 ⟨hkb, ⟨rfl, hJ7⟩ | ⟨rfl, hJx7⟩⟩
                · have hL7 := H6.out.2.1.kb hkb
                  gi_wp2_with fail
                  (refine ⟨?_, ?measure⟩; (iterate 70 (first | apply Exists.intro | skip)); refine ⟨?rel, rfl⟩)
                  case rel => exact ⟨k + 1, hlt, by go_num, by rw [toldL_next, if_pos hkp, List.length_append]; exact hJ7, hL7, Nat.zero_le _⟩
                  case measure => simp [intOf]; omega
                · gi_wp2_with fail
                  refine bodyPost_ret (results_none rfl _ _ _) rfl ?_
                  exact ⟨⟨_, rfl⟩, .inr ⟨_, hlen, hJx7⟩⟩
          · have hci : ((0 : Int) == (c : Int)) = false := by rw [beq_eq_false_iff_ne]; omega
            have hcn : (0 == c) = false := by rw [beq_eq_false_iff_ne]; exact hck
            have Hck := Lib.hid hck
            clear hck
            gi_wp2_with (first | (with_reducible refine wpListIn_alloc_z rfl 81 rfl Bk.zero.cs 64 z_blk ?_))
            have hLX := HX.out.2.1
            have hqX := HX.out.2.2
            have hlies : Lies X.drew (some ⟨wr.heap.size, 0, none⟩) (b.n.take 4) := lies_take (lies_blk hqX.drew hbB) 4
            have hrd := read_any (some ⟨wr.heap.size, 0, none⟩) 4 64 (b.n.take 4) X.drew (by rw [List.length_take, b.n_len]; rfl) (by omega) hlies
            obtain ⟨S7, hS7⟩ : ∃ S7 : World → Prop, S7 = Below X.heap.size X := ⟨_, rfl⟩
            have hS70 : S7 X.drew := by rw [hS7]; exact (Below.refl _ _).drew
            have Q0 : ∀ w', S7 w' → w'.cell? ⟨wb, 0, none⟩ = some (.pointer (some ⟨g, 0, none⟩)) := fun w' h => by
              rw [hS7] at h
              exact (h.cell (p := ⟨wb, 0, none⟩) hLX.b.lt).trans (hLX.b.cell 0)
            have Q1 : ∀ w', S7 w' → w'.cell? ⟨g, 0, none⟩ = some (.int .u32 (t : Int)) := fun w' h => by
              rw [hS7] at h
              exact (h.cell (p := ⟨g, 0, none⟩) hLX.gw.lt).trans (hLX.gw.cell 0)
            refine wpIn_wide.2 (wp_region_linY S7 [3, 4] [0, 1, 2, 5, 6, 7, 8, 9, 3, 4, 10, 11] (by kernel_rfl) (by kernel_rfl) hS70 ?_)
            (repeat (first | (refine linX_off rfl rfl (by rfl) ?_; (try simp only [Act.put, List.getElem_toArray, List.getElem_cons_zero, List.getElem_cons_succ, List.setIfInBounds_toArray, List.set_cons_zero, List.set_cons_succ])) | (refine linX_op (v := ?_) rfl rfl (by rfl) (fun w9 hS9 => ?_) ?_; rotate_left; (focus (((have k0 := Q0 w9 hS9; have k1 := Q1 w9 hS9; go_simp; (try go_bits)) <;> with_reducible rfl))); (try simp only [Act.put, List.getElem_toArray, List.getElem_cons_zero, List.getElem_cons_succ, List.setIfInBounds_toArray, List.set_cons_zero, List.set_cons_succ]))))
            refine linX_call (f := 55) (args := #[.slice (some ⟨wr.heap.size, 0, none⟩) 4 64]) rfl rfl (by rfl) rfl rfl (enters_of Try.func55 (by kernel_rfl) rfl) ?_ ?_
            · simp [Act.eval]
            refine hrd.mono ?_
            rintro e W5 ⟨r, rfl, hr5, hR5, hb5⟩
            have hbX5 : Below X.heap.size X W5 := hdr.trans (hb5.mono hdr.size)
            refine ⟨_, rfl, by rw [hS7]; exact hbX5, ?_⟩
            (try simp only [Act.put, List.getElem_toArray, List.getElem_cons_zero, List.getElem_cons_succ, List.setIfInBounds_toArray, List.set_cons_zero, List.set_cons_succ])
            refine linX_call (f := 56) (args := #[.pointer (some ⟨r, 0, none⟩)]) rfl rfl (by rfl) rfl rfl (enters_of Try.func56 (by kernel_rfl) rfl) ?_ ?_
            · simp [Act.eval]
            refine (u32_gen hR5 (hbB.bys.take 4) (by rw [List.length_take, b.n_len]; omega) (by rw [List.length_take, b.n_len]; omega)).mono ?_
            rintro e W6 ⟨rfl, -, hg6⟩
            have hbX6 : Below X.heap.size X W6 := hbX5.trans ((kept_gr hg6).below (by simp; exact Nat.le_of_lt hr5) hbX5.size)
            refine ⟨_, rfl, by rw [hS7]; exact hbX6, ?_⟩
            rw [num4_take]
            obtain ⟨T4, hT4⟩ : ∃ T4, num4 b.n 0 = T4 := ⟨_, rfl⟩
            rw [hT4]
            (try simp only [Act.put, List.getElem_toArray, List.getElem_cons_zero, List.getElem_cons_succ, List.setIfInBounds_toArray, List.set_cons_zero, List.set_cons_succ])
            (repeat (first | (refine linX_off rfl rfl (by rfl) ?_; (try simp only [Act.put, List.getElem_toArray, List.getElem_cons_zero, List.getElem_cons_succ, List.setIfInBounds_toArray, List.set_cons_zero, List.set_cons_succ])) | (refine linX_op (v := ?_) rfl rfl (by rfl) (fun w9 hS9 => ?_) ?_; rotate_left; (focus (((go_simp; (try go_bits)) <;> with_reducible rfl))); (try simp only [Act.put, List.getElem_toArray, List.getElem_cons_zero, List.getElem_cons_succ, List.setIfInBounds_toArray, List.set_cons_zero, List.set_cons_succ]))))
            refine linX_nil ?_
            have hJ6 := hJ _ _ _ none HX.out.1 (grown_of_below hbX6) (fun r h => by cases h)
            have hL6 := HX.out.2.1.kb (KB.below hbX6)
            have H6 := Lib.hid (And.intro hJ6 (And.intro hL6 hT4))
            clear hJ6 hL6 hT4 hbX5 hbX6 hb5 hR5 hg6 hrd hlies hS7 hS70 Q0 Q1 hLX hqX
            by_cases hlt4 : T4 < t
            · have hlti : (T4 : Int) < (t : Int) := by omega
              have hkp : keepL A t u (0 == c) k = false := by unfold keepL; rw [hgd, H6.out.2.2, decide_eq_true hlt4]; simp
              gi_wp2_with fail
              (refine ⟨?_, ?measure⟩; (iterate 70 (first | apply Exists.intro | skip)); refine ⟨?rel, rfl⟩)
              case rel => exact ⟨k + 1, hlt, by go_num, by rw [toldL_next, if_neg (by rw [hkp]; simp)]; exact H6.out.1, H6.out.2.1, Nat.zero_le _⟩
              case measure => simp [intOf]; omega
            · have hlti : ¬ (T4 : Int) < (t : Int) := by omega
              have hkp : keepL A t u (0 == c) k = true := by unfold keepL; rw [hgd, H6.out.2.2, decide_eq_false hlt4]; rw [hcn]; rfl
              obtain ⟨hat, hlen⟩ := told_at [] (toldL B (2 + n) t u (1 == c) B.length) hlt hkp
              rw [show ([] ++ toldL A 2 t u (0 == c) A.length ++ toldL B (2 + n) t u (1 == c) B.length) = leftPl A B t u n c from rfl, hP] at hat hlen
              obtain ⟨fn, tmps, assign, body, hy, hR⟩ := hY _ W6 hlen H6.out.1
              unfold leftE at hy
              rw [hat, show ((2 + k : Nat) : Int) = 2 + (k : Int) from by omega, zero_laid] at hy
              have x0 : W6.cell? ⟨wb, 0, none⟩ = some (.pointer (some ⟨g, 0, none⟩)) := H6.out.2.1.b.cell 0
              have xf : W6.cell? ⟨g, 5, none⟩ = some (.int .i64 2) := H6.out.2.1.gw.cell 5
              have hbz := fun w => build_blk_zero w
              gi_wp2_with fail
              refine hR.mono ?_
              rintro e W7 ⟨hkb, ⟨rfl, hJ7⟩ | ⟨rfl, hJx7⟩⟩
              · have hL7 := H6.out.2.1.kb hkb
                gi_wp2_with fail
                (refine ⟨?_, ?measure⟩; (iterate 70 (first | apply Exists.intro | skip)); refine ⟨?rel, rfl⟩)
                case rel => exact ⟨k + 1, hlt, by go_num, by rw [toldL_next, if_pos hkp, List.length_append]; exact hJ7, hL7, Nat.zero_le _⟩
                case measure => simp [intOf]; omega
              · gi_wp2_with fail
                refine bodyPost_ret (results_none rfl _ _ _) rfl ?_
                exact ⟨⟨_, rfl⟩, .inr ⟨_, hlen, hJx7⟩⟩
        · obtain rfl : k = A.length := by omega
          gi_wp2_with fail
          go_roundw
          case rel => exact ⟨0 + 1, by omega, by go_num, hJ2, hL2, Nat.zero_le _⟩
          case measure => simp [intOf]
    · rw [if_neg (by omega), if_pos rfl, Nat.zero_add] at hJs
      have hm9 : ∀ W', KB (lo :: S) wr W' → LoAt (lo :: S) W' hb wb g a0 a1 A B c0 c1 t sv tv u p n c := fun W' k => hLo.kb k
      have HM := Lib.hid hm9
      clear hm9
      gi_wp2_with fail
      gi_loopw [16] (fun i wr2 => ∃ k : Nat, k ≤ B.length ∧ i = .int .i64 k ∧ J ((toldL A 2 t u (0 == c) A.length).length + (toldL B (2 + n) t u (1 == c) k).length) wr2 ∧ LoAt (lo :: S) wr2 hb wb g a0 a1 A B c0 c1 t sv tv u p n c ∧ 0 ≤ wr2.heap.size) (fun i _ => B.length - (intOf i).toNat)
      case atStart => exact ⟨0, Nat.zero_le _, rfl, hJs, hLo, Nat.zero_le _⟩
      case round =>
        obtain ⟨k, hk, rfl, hJ2, hL2, _⟩ := hrel
        by_cases hlt : k < B.length
        · obtain ⟨b, hb9⟩ : ∃ b, B[k]? = some b := ⟨_, List.getElem?_eq_getElem hlt⟩
          have hbB : b.Byt := hB b (List.mem_of_getElem? hb9)
          have hgd : (B.getD k Bk.zero) = b := by rw [List.getD_eq_getElem?_getD, hb9]; rfl
          obtain ⟨g0, o0, rfl, hg0, hc0⟩ : ∃ g o, a1 = some ⟨g, o, none⟩ ∧ g < wr.heap.size ∧ ∀ i b, B[i]? = some b → ∀ j, j < 64 → wr.cell? ⟨g, o + i * 64 + j, none⟩ = b.cs[j]? := by
            rcases hL2.s1 with h9 | h9
            · rw [h9] at hb9; simp at hb9
            · exact h9
          have hld := lsec (hc0 k b hb9)
          have hsn := sblk_new wr b
          obtain ⟨X, hX⟩ : ∃ X, wr.alloc (.cells b.cs 81) = X := ⟨_, rfl⟩
          rw [hX] at hsn
          have hqX : Blk X wr.heap.size 81 b.cs := by rw [← hX]; exact Blk.new _ _ _
          have hbX : Below wr.heap.size wr X := by rw [← hX]; exact (Below.refl _ _).alloc (Nat.le_refl _) _
          have hLX := hL2.kb (KB.below hbX)
          have hJX := hJ _ _ _ none hJ2 (grown_of_below hbX) (fun r h => by cases h)
          have e0 : X.cell? ⟨wb, 0, none⟩ = some (.pointer (some ⟨g, 0, none⟩)) := hLX.b.cell 0
          have e9 : X.cell? ⟨g, 9, none⟩ = some (.int .i64 (c : Int)) := hLX.gw.cell 9
          have e3 : X.cell? ⟨g, 3, none⟩ = some (.int .i64 (u : Int)) := hLX.gw.cell 3
          have hki : (k : Int) < (B.length : Int) := by omega
          have HX := Lib.hid (And.intro hJX (And.intro hLX hqX))
          have hdr : Below X.heap.size X X.drew := (Below.refl _ _).drew
          have HW := Lib.hid (And.intro (hJ _ _ _ none hJX (grown_of_below hdr) (fun r h => by cases h)) (hLX.kb (KB.below hdr)))
          obtain ⟨BC, hBC⟩ : ∃ BC, b.cs = BC := ⟨_, rfl⟩
          rw [hBC] at hld hsn
          have HB := Lib.hid hBC
          clear hL2 hJ2 hX hqX hbX hLX hJX hc0 hg0 hBC
          by_cases hck : 1 = c
          · have hci : ((1 : Int) == (c : Int)) = true := by rw [← hck]; rfl
            have hcn : (1 == c) = true := by rw [← hck]; rfl
            have Hck := Lib.hid hck
            clear hck
            by_cases hku : k < u
            · have hkui : (k : Int) < (u : Int) := by omega
              have hkp : keepL B t u (1 == c) k = false := by unfold keepL; rw [hcn, decide_eq_true hku]; rfl
              gi_wp2_with (first | (with_reducible refine wpListIn_alloc_z rfl 81 rfl Bk.zero.cs 64 z_blk ?_))
              refine wpIn_wide.2 (wp_region_linY (fun _ => True) [] [0, 1, 2, 3, 4, 5, 6, 7, 8, 9, 10, 11] (by kernel_rfl) (by kernel_rfl) trivial ?_)
              (repeat (first | (refine linX_off rfl rfl (by rfl) ?_; (try simp only [Act.put, List.getElem_toArray, List.getElem_cons_zero, List.getElem_cons_succ, List.setIfInBounds_toArray, List.set_cons_zero, List.set_cons_succ])) | (refine linX_op (v := ?_) rfl rfl (by rfl) (fun w9 hS9 => ?_) ?_; rotate_left; (focus (((go_simp; (try go_bits)) <;> with_reducible rfl))); (try simp only [Act.put, List.getElem_toArray, List.getElem_cons_zero, List.getElem_cons_succ, List.setIfInBounds_toArray, List.set_cons_zero, List.set_cons_succ]))))
              refine linX_nil ?_
              gi_wp2_with fail
              (refine ⟨?_, ?measure⟩; (iterate 70 (first | apply Exists.intro | skip)); refine ⟨?rel, rfl⟩)
              case rel => exact ⟨k + 1, hlt, by go_num, by rw [toldL_next, if_neg (by rw [hkp]; simp)]; exact HW.out.1, HW.out.2, Nat.zero_le _⟩
              case measure => simp [intOf]; omega
            · have hkui : ¬ (k : Int) < (u : Int) := by omega
              gi_wp2_with (first | (with_reducible refine wpListIn_alloc_z rfl 81 rfl Bk.zero.cs 64 z_blk ?_))
              have hLX := HX.out.2.1
              have hqX := HX.out.2.2
              have hlies : Lies X.drew (some ⟨wr.heap.size, 0, none⟩) (b.n.take 4) := lies_take (lies_blk hqX.drew hbB) 4
              have hrd := read_any (some ⟨wr.heap.size, 0, none⟩) 4 64 (b.n.take 4) X.drew (by rw [List.length_take, b.n_len]; rfl) (by omega) hlies
              obtain ⟨S7, hS7⟩ : ∃ S7 : World → Prop, S7 = Below X.heap.size X := ⟨_, rfl⟩
              have hS70 : S7 X.drew := by rw [hS7]; exact (Below.refl _ _).drew
              have Q0 : ∀ w', S7 w' → w'.cell? ⟨wb, 0, none⟩ = some (.pointer (some ⟨g, 0, none⟩)) := fun w' h => by
                rw [hS7] at h
                exact (h.cell (p := ⟨wb, 0, none⟩) hLX.b.lt).trans (hLX.b.cell 0)
              have Q1 : ∀ w', S7 w' → w'.cell? ⟨g, 0, none⟩ = some (.int .u32 (t : Int)) := fun w' h => by
                rw [hS7] at h
                exact (h.cell (p := ⟨g, 0, none⟩) hLX.gw.lt).trans (hLX.gw.cell 0)
              refine wpIn_wide.2 (wp_region_linY S7 [3, 4] [0, 1, 2, 5, 6, 7, 8, 9, 3, 4, 10, 11] (by kernel_rfl) (by kernel_rfl) hS70 ?_)
              (repeat (first | (refine linX_off rfl rfl (by rfl) ?_; (try simp only [Act.put, List.getElem_toArray, List.getElem_cons_zero, List.getElem_cons_succ, List.setIfInBounds_toArray, List.set_cons_zero, List.set_cons_succ])) | (refine linX_op (v := ?_) rfl rfl (by rfl) (fun w9 hS9 => ?_) ?_; rotate_left; (focus (((have k0 := Q0 w9 hS9; have k1 := Q1 w9 hS9; go_simp; (try go_bits)) <;> with_reducible rfl))); (try simp only [Act.put, List.getElem_toArray, List.getElem_cons_zero, List.getElem_cons_succ, List.setIfInBounds_toArray, List.set_cons_zero, List.set_cons_succ]))))
              refine linX_call (f := 55) (args := #[.slice (some ⟨wr.heap.size, 0, none⟩) 4 64]) rfl rfl (by rfl) rfl rfl (enters_of Try.func55 (by kernel_rfl) rfl) ?_ ?_
              · simp [Act.eval]
              refine hrd.mono ?_
              rintro e W5 ⟨r, rfl, hr5, hR5, hb5⟩
              have hbX5 : Below X.heap.size X W5 := hdr.trans (hb5.mono hdr.size)
              refine ⟨_, rfl, by rw [hS7]; exact hbX5, ?_⟩
              (try simp only [Act.put, List.getElem_toArray, List.getElem_cons_zero, List.getElem_cons_succ, List.setIfInBounds_toArray, List.set_cons_zero, List.set_cons_succ])
              refine linX_call (f := 56) (args := #[.pointer (some ⟨r, 0, none⟩)]) rfl rfl (by rfl) rfl rfl (enters_of Try.func56 (by kernel_rfl) rfl) ?_ ?_
              · simp [Act.eval]
              refine (u32_gen hR5 (hbB.bys.take 4) (by rw [List.length_take, b.n_len]; omega) (by rw [List.length_take, b.n_len]; omega)).mono ?_
              rintro e W6 ⟨rfl, -, hg6⟩
              have hbX6 : Below X.heap.size X W6 := hbX5.trans ((kept_gr hg6).below (by simp; exact Nat.le_of_lt hr5) hbX5.size)
              refine ⟨_, rfl, by rw [hS7]; exact hbX6, ?_⟩
              rw [num4_take]
              obtain ⟨T4, hT4⟩ : ∃ T4, num4 b.n 0 = T4 := ⟨_, rfl⟩
              rw [hT4]
              (try simp only [Act.put, List.getElem_toArray, List.getElem_cons_zero, List.getElem_cons_succ, List.setIfInBounds_toArray, List.set_cons_zero, List.set_cons_succ])
              (repeat (first | (refine linX_off rfl rfl (by rfl) ?_; (try simp only [Act.put, List.getElem_toArray, List.getElem_cons_zero, List.getElem_cons_succ, List.setIfInBounds_toArray, List.set_cons_zero, List.set_cons_succ])) | (refine linX_op (v := ?_) rfl rfl (by rfl) (fun w9 hS9 => ?_) ?_; rotate_left; (focus (((go_simp; (try go_bits)) <;> with_reducible rfl))); (try simp only [Act.put, List.getElem_toArray, List.getElem_cons_zero, List.getElem_cons_succ, List.setIfInBounds_toArray, List.set_cons_zero, List.set_cons_succ]))))
              refine linX_nil ?_
              have hJ6 := hJ _ _ _ none HX.out.1 (grown_of_below hbX6) (fun r h => by cases h)
              have hL6 := HX.out.2.1.kb (KB.below hbX6)
              have H6 := Lib.hid (And.intro hJ6 (And.intro hL6 hT4))
              clear hJ6 hL6 hT4 hbX5 hbX6 hb5 hR5 hg6 hrd hlies hS7 hS70 Q0 Q1 hLX hqX
              by_cases hlt4 : T4 < t
              · have hlti : (T4 : Int) < (t : Int) := by omega
                have hkp : keepL B t u (1 == c) k = false := by unfold keepL; rw [hgd, H6.out.2.2, decide_eq_true hlt4]; simp
                gi_wp2_with fail
                (refine ⟨?_, ?measure⟩; (iterate 70 (first | apply Exists.intro | skip)); refine ⟨?rel, rfl⟩)
                case rel => exact ⟨k + 1, hlt, by go_num, by rw [toldL_next, if_neg (by rw [hkp]; simp)]; exact H6.out.1, H6.out.2.1, Nat.zero_le _⟩
                case measure => simp [intOf]; omega
              · have hlti : ¬ (T4 : Int) < (t : Int) := by omega
                have hkp : keepL B t u (1 == c) k = true := by unfold keepL; rw [hgd, H6.out.2.2, decide_eq_false hlt4]; rw [hcn, decide_eq_false hku]; rfl
                obtain ⟨hat, hlen⟩ := told_at (toldL A 2 t u (0 == c) A.length) [] hlt hkp
                rw [show (toldL A 2 t u (0 == c) A.length ++ toldL B (2 + n) t u (1 == c) B.length ++ []) = leftPl A B t u n c from List.append_nil _, hP] at hat hlen
                obtain ⟨fn, tmps, assign, body, hy, hR⟩ := hY _ W6 hlen H6.out.1
                unfold leftE at hy
                rw [hat, show ((2 + n + k : Nat) : Int) = 2 + (n : Int) + (k : Int) from by omega, zero_laid] at hy
                have x0 : W6.cell? ⟨wb, 0, none⟩ = some (.pointer (some ⟨g, 0, none⟩)) := H6.out.2.1.b.cell 0
                have xf : W6.cell? ⟨g, 7, none⟩ = some (.int .i64 ((2 : Int) + (n : Int))) := H6.out.2.1.gw.cell 7
                have hbz := fun w => build_blk_zero w
                gi_wp2_with fail
                refine hR.mono ?_
                rintro e W7 ⟨hkb, ⟨rfl, hJ7⟩ | ⟨rfl, hJx7⟩⟩
                · have hL7 := H6.out.2.1.kb hkb
                  gi_wp2_with fail
                  (refine ⟨?_, ?measure⟩; (iterate 70 (first | apply Exists.intro | skip)); refine ⟨?rel, rfl⟩)
                  case rel => exact ⟨k + 1, hlt, by go_num, by rw [toldL_next, if_pos hkp, List.length_append]; exact hJ7, hL7, Nat.zero_le _⟩
                  case measure => simp [intOf]; omega
                · gi_wp2_with fail
                  refine bodyPost_ret (results_none rfl _ _ _) rfl ?_
                  exact ⟨⟨_, rfl⟩, .inr ⟨_, hlen, hJx7⟩⟩
          · have hci : ((1 : Int) == (c : Int)) = false := by rw [beq_eq_false_iff_ne]; omega
            have hcn : (1 == c) = false := by rw [beq_eq_false_iff_ne]; exact hck
            have Hck := Lib.hid hck
            clear hck
            gi_wp2_with (first | (with_reducible refine wpListIn_alloc_z rfl 81 rfl Bk.zero.cs 64 z_blk ?_))
            have hLX := HX.out.2.1
            have hqX := HX.out.2.2
            have hlies : Lies X.drew (some ⟨wr.heap.size, 0, none⟩) (b.n.take 4) := lies_take (lies_blk hqX.drew hbB) 4
            have hrd := read_any (some ⟨wr.heap.size, 0, none⟩) 4 64 (b.n.take 4) X.drew (by rw [List.length_take, b.n_len]; rfl) (by omega) hlies
            obtain ⟨S7, hS7⟩ : ∃ S7 : World → Prop, S7 = Below X.heap.size X := ⟨_, rfl⟩
            have hS70 : S7 X.drew := by rw [hS7]; exact (Below.refl _ _).drew
            have Q0 : ∀ w', S7 w' → w'.cell? ⟨wb, 0, none⟩ = some (.pointer (some ⟨g, 0, none⟩)) := fun w' h => by
              rw [hS7] at h
              exact (h.cell (p := ⟨wb, 0, none⟩) hLX.b.lt).trans (hLX.b.cell 0)
            have Q1 : ∀ w', S7 w' → w'.cell? ⟨g, 0, none⟩ = some (.int .u32 (t : Int)) := fun w' h => by
              rw [hS7] at h
              exact (h.cell (p := ⟨g, 0, none⟩) hLX.gw.lt).trans (hLX.gw.cell 0)
            refine wpIn_wide.2 (wp_region_linY S7 [3, 4] [0, 1, 2, 5, 6, 7, 8, 9, 3, 4, 10, 11] (by kernel_rfl) (by kernel_rfl) hS70 ?_)
            (repeat (first | (refine linX_off rfl rfl (by rfl) ?_; (try simp only [Act.put, List.getElem_toArray, List.getElem_cons_zero, List.getElem_cons_succ, List.setIfInBounds_toArray, List.set_cons_zero, List.set_cons_succ])) | (refine linX_op (v := ?_) rfl rfl (by rfl) (fun w9 hS9 => ?_) ?_; rotate_left; (focus (((have k0 := Q0 w9 hS9; have k1 := Q1 w9 hS9; go_simp; (try go_bits)) <;> with_reducible rfl))); (try simp only [Act.put, List.getElem_toArray, List.getElem_cons_zero, List.getElem_cons_succ, List.setIfInBounds_toArray, List.set_cons_zero, List.set_cons_succ]))))
            refine linX_call (f := 55) (args := #[.slice (some ⟨wr.heap.size, 0, none⟩) 4 64]) rfl rfl (by rfl) rfl rfl (enters_of Try.func55 (by kernel_rfl) rfl) ?_ ?_
            · simp [Act.eval]
            refine hrd.mono ?_
            rintro e W5 ⟨r, rfl, hr5, hR5, hb5⟩
            have hbX5 : Below X.heap.size X W5 := hdr.trans (hb5.mono hdr.size)
            refine ⟨_, rfl, by rw [hS7]; exact hbX5, ?_⟩
            (try simp only [Act.put, List.getElem_toArray, List.getElem_cons_zero, List.getElem_cons_succ, List.setIfInBounds_toArray, List.set_cons_zero, List.set_cons_succ])
            refine linX_call (f := 56) (args := #[.pointer (some ⟨r, 0, none⟩)]) rfl rfl (by rfl) rfl rfl (enters_of Try.func56 (by kernel_rfl) rfl) ?_ ?_
            · simp [Act.eval]
            refine (u32_gen hR5 (hbB.bys.take 4) (by rw [List.length_take, b.n_len]; omega) (by rw [List.length_take, b.n_len]; omega)).mono ?_
            rintro e W6 ⟨rfl, -, hg6⟩
            have hbX6 : Below X.heap.size X W6 := hbX5.trans ((kept_gr hg6).below (by simp; exact Nat.le_of_lt hr5) hbX5.size)
            refine ⟨_, rfl, by rw [hS7]; exact hbX6, ?_⟩
            rw [num4_take]
            obtain ⟨T4, hT4⟩ : ∃ T4, num4 b.n 0 = T4 := ⟨_, rfl⟩
            rw [hT4]
            (try simp only [Act.put, List.getElem_toArray, List.getElem_cons_zero, List.getElem_cons_succ, List.setIfInBounds_toArray, List.set_cons_zero, List.set_cons_succ])
            (repeat (first | (refine linX_off rfl rfl (by rfl) ?_; (try simp only [Act.put, List.getElem_toArray, List.getElem_cons_zero, List.getElem_cons_succ, List.setIfInBounds_toArray, List.set_cons_zero, List.set_cons_succ])) | (refine linX_op (v := ?_) rfl rfl (by rfl) (fun w9 hS9 => ?_) ?_; rotate_left; (focus (((go_simp; (try go_bits)) <;> with_reducible rfl))); (try simp only [Act.put, List.getElem_toArray, List.getElem_cons_zero, List.getElem_cons_succ, List.setIfInBounds_toArray, List.set_cons_zero, List.set_cons_succ]))))
            refine linX_nil ?_
            have hJ6 := hJ _ _ _ none HX.out.1 (grown_of_below hbX6) (fun r h => by cases h)
            have hL6 := HX.out.2.1.kb (KB.below hbX6)
            have H6 := Lib.hid (And.intro hJ6 (And.intro hL6 hT4))
            clear hJ6 hL6 hT4 hbX5 hbX6 hb5 hR5 hg6 hrd hlies hS7 hS70 Q0 Q1 hLX hqX
            by_cases hlt4 : T4 < t
            · have hlti : (T4 : Int) < (t : Int) := by omega
              have hkp : keepL B t u (1 == c) k = false := by unfold keepL; rw [hgd, H6.out.2.2, decide_eq_true hlt4]; simp
              gi_wp2_with fail
              (refine ⟨?_, ?measure⟩; (iterate 70 (first | apply Exists.intro | skip)); refine ⟨?rel, rfl⟩)
              case rel => exact ⟨k + 1, hlt, by go_num, by rw [toldL_next, if_neg (by rw [hkp]; simp)]; exact H6.out.1, H6.out.2.1, Nat.zero_le _⟩
              case measure => simp [intOf]; omega
            · have hlti : ¬ (T4 : Int) < (t : Int) := by omega
              have hkp : keepL B t u (1 == c) k = true := by unfold keepL; rw [hgd, H6.out.2.2, decide_eq_false hlt4]; rw [hcn]; rfl
              obtain ⟨hat, hlen⟩ := told_at (toldL A 2 t u (0 == c) A.length) [] hlt hkp
              rw [show (toldL A 2 t u (0 == c) A.length ++ toldL B (2 + n) t u (1 == c) B.length ++ []) = leftPl A B t u n c from List.append_nil _, hP] at hat hlen
              obtain ⟨fn, tmps, assign, body, hy, hR⟩ := hY _ W6 hlen H6.out.1
              unfold leftE at hy
              rw [hat, show ((2 + n + k : Nat) : Int) = 2 + (n : Int) + (k : Int) from by omega, zero_laid] at hy
              have x0 : W6.cell? ⟨wb, 0, none⟩ = some (.pointer (some ⟨g, 0, none⟩)) := H6.out.2.1.b.cell 0
              have xf : W6.cell? ⟨g, 7, none⟩ = some (.int .i64 ((2 : Int) + (n : Int))) := H6.out.2.1.gw.cell 7
              have hbz := fun w => build_blk_zero w
              gi_wp2_with fail
              refine hR.mono ?_
              rintro e W7 ⟨hkb, ⟨rfl, hJ7⟩ | ⟨rfl, hJx7⟩⟩
              · have hL7 := H6.out.2.1.kb hkb
                gi_wp2_with fail
                (refine ⟨?_, ?measure⟩; (iterate 70 (first | apply Exists.intro | skip)); refine ⟨?rel, rfl⟩)
                case rel => exact ⟨k + 1, hlt, by go_num, by rw [toldL_next, if_pos hkp, List.length_append]; exact hJ7, hL7, Nat.zero_le _⟩
                case measure => simp [intOf]; omega
              · gi_wp2_with fail
                refine bodyPost_ret (results_none rfl _ _ _) rfl ?_
                exact ⟨⟨_, rfl⟩, .inr ⟨_, hlen, hJx7⟩⟩
        · obtain rfl : k = B.length := by omega
          gi_wp2_with fail
          go_roundw
          case rel => exact ⟨1 + 1, by omega, by go_num, hJ2, hL2, Nat.zero_le _⟩
          case measure => simp [intOf]
    · rw [if_neg (by omega), if_neg (by omega), ← List.length_append] at hJs
      gi_wp2_with fail
      go_end0
      refine ⟨⟨_, rfl⟩, .inl ?_⟩
      rw [← hP]
      exact hJs

end Go.Proofs.Ytelpihlifdfgoaa
namespace Go.Proofs.Ytelpihlifdfgoaa
open Go.RowKit Go.Shelf
set_option linter.unusedVariables false
theorem byt_zero : Bk.zero.Byt := by
  intro z hz
  have : z = 0 := by simpa [Bk.zero] using hz
  omega
/-- All that a disk holds are bytes. -/
structure Dk.Byt (D : Dk) : Prop where
  plate : ∀ b ∈ D.plate, b.Byt
  rows : ∀ r ∈ D.rows, r.b.Byt
theorem Dk.Byt.shows {D : Dk} (h : D.Byt) (i : Nat) : (showsM D i).Byt := by
  unfold showsM
  split
  · rename_i r hr
    exact h.rows r (List.mem_of_find?_eq_some hr)
  · rw [List.getD_eq_getElem?_getD]
    cases hg : D.plate[i]? with
    | none => simpa using byt_zero
    | some b => exact h.plate b (List.mem_of_getElem? hg)
theorem Dk.Byt.read {D : Dk} (h : D.Byt) (i : Int) : (readM D i).1.Byt ∧ (readM D i).2.1.Byt := by
  unfold readM
  split
  · exact ⟨h, byt_zero⟩
  · split
    · exact ⟨⟨h.plate, h.rows⟩, byt_zero⟩
    · exact ⟨⟨h.plate, h.rows⟩, h.shows _⟩
theorem Dk.Byt.reads {D : Dk} (h : D.Byt) (first : Nat) : ∀ k, (readsM D first k).1.Byt ∧ ∀ b ∈ (readsM D first k).2.1, b.Byt
  | 0 => ⟨h, by simp [readsM]⟩
  | k + 1 => by
    have ih := h.reads first k
    have hr := ih.1.read ((first + k : Nat) : Int)
    unfold readsM
    split
    · exact ih
    · split
      · exact ⟨hr.1, ih.2⟩
      · refine ⟨hr.1, fun b hb => ?_⟩
        rcases List.mem_append.1 hb with h1 | h1
        · exact ih.2 b h1
        · rw [List.mem_singleton.1 h1]; exact hr.2
/-- What Open leaves: the disk, the error, how long an area is, the chain that counts and where it stands. -/
structure OpenA where
  D : Dk
  e : Int
  n : Nat
  r : Option (Nat × List Nat × List (List Nat) × Nat) × Nat
def usedOf (ch : Option (Nat × List Nat × List (List Nat) × Nat)) : Nat := match ch with
  | none => 0
  | some x => x.2.2.2
theorem ChIs.used {w : World} {B t u : Nat} {ch : Option (Nat × List Nat × List (List Nat) × Nat)} {sv tv : Value} (h : ChIs w B ch t sv tv u) : usedOf ch = u := by
  rcases h with ⟨rfl, rfl, _, _, rfl⟩ | ⟨l, txs, vs, rfl, _⟩ <;> rfl
def openL (P : List Nat) : List (Nat × Bk) := P.map fun i => (i, Bk.zero)
def openM (D : Dk) : OpenA :=
  if (readsM D 0 2).2.2 ≠ 0 then ⟨(readsM D 0 2).1, (readsM D 0 2).2.2, 0, (none, 0)⟩ else
  match sizeR (readsM D 0 2).2.1 (readsM D 0 2).1.plate.length with
  | none => ⟨(readsM D 0 2).1, 140, 0, (none, 0)⟩
  | some n =>
    if (readsM (readsM D 0 2).1 2 n).2.2 ≠ 0 then ⟨(readsM (readsM D 0 2).1 2 n).1, (readsM (readsM D 0 2).1 2 n).2.2, n, (none, 0)⟩ else
    if (readsM (readsM (readsM D 0 2).1 2 n).1 (2 + n) n).2.2 ≠ 0 then ⟨(readsM (readsM (readsM D 0 2).1 2 n).1 (2 + n) n).1, (readsM (readsM (readsM D 0 2).1 2 n).1 (2 + n) n).2.2, n, (none, 0)⟩ else
    if turnOf (bestR (readsM (readsM D 0 2).1 2 n).2.1 (readsM (readsM (readsM D 0 2).1 2 n).1 (2 + n) n).2.1 2).1 = 0 then ⟨(readsM (readsM (readsM D 0 2).1 2 n).1 (2 + n) n).1, 140, n, bestR (readsM (readsM D 0 2).1 2 n).2.1 (readsM (readsM (readsM D 0 2).1 2 n).1 (2 + n) n).2.1 2⟩ else
    ⟨(layM (readsM (readsM (readsM D 0 2).1 2 n).1 (2 + n) n).1 (openL (leftPl (readsM (readsM D 0 2).1 2 n).2.1 (readsM (readsM (readsM D 0 2).1 2 n).1 (2 + n) n).2.1 (turnOf (bestR (readsM (readsM D 0 2).1 2 n).2.1 (readsM (readsM (readsM D 0 2).1 2 n).1 (2 + n) n).2.1 2).1) (usedOf (bestR (readsM (readsM D 0 2).1 2 n).2.1 (readsM (readsM (readsM D 0 2).1 2 n).1 (2 + n) n).2.1 2).1) n (bestR (readsM (readsM D 0 2).1 2 n).2.1 (readsM (readsM (readsM D 0 2).1 2 n).1 (2 + n) n).2.1 2).2))).1,
     (layM (readsM (readsM (readsM D 0 2).1 2 n).1 (2 + n) n).1 (openL (leftPl (readsM (readsM D 0 2).1 2 n).2.1 (readsM (readsM (readsM D 0 2).1 2 n).1 (2 + n) n).2.1 (turnOf (bestR (readsM (readsM D 0 2).1 2 n).2.1 (readsM (readsM (readsM D 0 2).1 2 n).1 (2 + n) n).2.1 2).1) (usedOf (bestR (readsM (readsM D 0 2).1 2 n).2.1 (readsM (readsM (readsM D 0 2).1 2 n).1 (2 + n) n).2.1 2).1) n (bestR (readsM (readsM D 0 2).1 2 n).2.1 (readsM (readsM (readsM D 0 2).1 2 n).1 (2 + n) n).2.1 2).2))).2, n, bestR (readsM (readsM D 0 2).1 2 n).2.1 (readsM (readsM (readsM D 0 2).1 2 n).1 (2 + n) n).2.1 2⟩
section
variable {D D1 D2 D3 D4 : Dk} {H A B : List Bk} {e : Int} {n : Nat} {r : Option (Nat × List Nat × List (List Nat) × Nat) × Nat}
theorem open_heads (h1 : readsM D 0 2 = (D1, H, e)) (he : e ≠ 0) : openM D = ⟨D1, e, 0, (none, 0)⟩ := by
  unfold openM; simp only [h1]; rw [if_pos he]
theorem open_label (h1 : readsM D 0 2 = (D1, H, 0)) (h2 : sizeR H D1.plate.length = none) : openM D = ⟨D1, 140, 0, (none, 0)⟩ := by
  unfold openM; simp only [h1]; rw [if_neg (by simp)]; simp only [h2]
theorem open_first (h1 : readsM D 0 2 = (D1, H, 0)) (h2 : sizeR H D1.plate.length = some n) (h3 : readsM D1 2 n = (D2, A, e)) (he : e ≠ 0) : openM D = ⟨D2, e, n, (none, 0)⟩ := by
  unfold openM; simp only [h1]; rw [if_neg (by simp)]; simp only [h2, h3]; rw [if_pos he]
theorem open_second (h1 : readsM D 0 2 = (D1, H, 0)) (h2 : sizeR H D1.plate.length = some n) (h3 : readsM D1 2 n = (D2, A, 0)) (h4 : readsM D2 (2 + n) n = (D3, B, e)) (he : e ≠ 0) : openM D = ⟨D3, e, n, (none, 0)⟩ := by
  unfold openM; simp only [h1]; rw [if_neg (by simp)]; simp only [h2, h3]; rw [if_neg (by simp)]; simp only [h4]; rw [if_pos he]
theorem open_none (h1 : readsM D 0 2 = (D1, H, 0)) (h2 : sizeR H D1.plate.length = some n) (h3 : readsM D1 2 n = (D2, A, 0)) (h4 : readsM D2 (2 + n) n = (D3, B, 0)) (h5 : bestR A B 2 = r) (h6 : turnOf r.1 = 0) : openM D = ⟨D3, 140, n, r⟩ := by
  unfold openM; simp only [h1]; rw [if_neg (by simp)]; simp only [h2, h3]; rw [if_neg (by simp)]; simp only [h4]; rw [if_neg (by simp)]; simp only [h5]; rw [if_pos h6]
theorem open_some (h1 : readsM D 0 2 = (D1, H, 0)) (h2 : sizeR H D1.plate.length = some n) (h3 : readsM D1 2 n = (D2, A, 0)) (h4 : readsM D2 (2 + n) n = (D3, B, 0)) (h5 : bestR A B 2 = r) (h6 : turnOf r.1 ≠ 0) (h7 : layM D3 (openL (leftPl A B (turnOf r.1) (usedOf r.1) n r.2)) = (D4, e)) : openM D = ⟨D4, e, n, r⟩ := by
  unfold openM; simp only [h1]; rw [if_neg (by simp)]; simp only [h2, h3]; rw [if_neg (by simp)]; simp only [h4]; rw [if_neg (by simp)]; simp only [h5]; rw [if_neg h6]; simp only [h7]
end
theorem size_range {L : List Bk} {len n : Nat} (h : sizeR L len = some n) : 4 ≤ n ∧ n ≤ 1000 ∧ 2 + 2 * n ≤ len := by
  unfold sizeR at h
  obtain ⟨b, hb, rfl⟩ := Option.map_eq_some_iff.1 h
  have h1 := List.find?_some hb
  simp only [isLab, mayB, Bool.and_eq_true, decide_eq_true_eq] at h1
  omega
theorem bestR_two (A B : List Bk) : (bestR A B 2).2 < 2 := by
  have h : ∀ (x : Option (Nat × List Nat × List (List Nat) × Nat) × Nat) (L : List Bk) (i : Nat), x.2 < 2 → i < 2 → (better x L i).2 < 2 := by
    intro x L i hx hi
    unfold better
    split <;> assumption
  show (better (better (none, 0) A 0) B 1).2 < 2
  exact h _ _ _ (h _ _ _ (by decide) (by decide)) (by decide)
theorem areas_at0 (a b c d : Int) (w : World) : (Instr.index 65 (.agg #[.int .i64 a, .int .i64 b, .int .i64 c, .int .i64 d]) (.int .i64 0)).run Try.prog w = .ok (.agg #[.int .i64 a, .int .i64 b]) w := by
  have hu := run_underlying (P := Try.prog) Try.underlying65 w
  have hagg : (isAgg 64).run Try.prog w = .ok true w := by kernel_rfl
  have hn : (sizeOf 64).run Try.prog w = .ok 2 w := by kernel_rfl
  unfold Instr.index
  simp only [Sem.run_bind, hu, Result.andThen_ok]
  go_simp
theorem areas_at1 (a b c d : Int) (w : World) : (Instr.index 65 (.agg #[.int .i64 a, .int .i64 b, .int .i64 c, .int .i64 d]) (.int .i64 1)).run Try.prog w = .ok (.agg #[.int .i64 c, .int .i64 d]) w := by
  have hu := run_underlying (P := Try.prog) Try.underlying65 w
  have hagg : (isAgg 64).run Try.prog w = .ok true w := by kernel_rfl
  have hn : (sizeOf 64).run Try.prog w = .ok 2 w := by kernel_rfl
  unfold Instr.index
  simp only [Sem.run_bind, hu, Result.andThen_ok]
  go_simp
/-- What is told of what is left over, as a row. -/
def leftR (P : List Nat) (hb wb : Nat) : RowW := ⟨60, #[.pointer (some ⟨hb, 0, none⟩), .pointer (some ⟨wb, 0, none⟩)], P.length, fun k => (P.getD k 0, Bk.zero)⟩
theorem leftR_items (P : List Nat) (hb wb : Nat) : (leftR P hb wb).items = openL P := by
  apply List.ext_getElem?
  intro i
  simp only [RowW.items, leftR, openL, List.getElem?_map]
  by_cases hi : i < P.length
  · rw [List.getElem?_range hi, List.getElem?_eq_getElem hi]
    simp [List.getD_eq_getElem?_getD, List.getElem?_eq_getElem hi]
  · rw [List.getElem?_eq_none (by simpa using hi), List.getElem?_eq_none (by omega)]
    rfl
theorem told_left {w : World} {hb wb g : Nat} {a0 a1 : Option Addr} {A B : List Bk} {c0 c1 t : Nat} {sv tv : Value} {u p n c : Nat} (h : LoAt [] w hb wb g a0 a1 A B c0 c1 t sv tv u p n c) (hA : ∀ b ∈ A, b.Byt) (hB : ∀ b ∈ B, b.Byt) (hA2 : A.length ≤ 1000) (hB2 : B.length ≤ 1000) (hn : n ≤ 1000) (hc : c < 2) :
    Told (hb :: wb :: g :: ((a0.map (·.block)).toList ++ (a1.map (·.block)).toList)) (leftR (leftPl A B t u n c) hb wb) w := by
  refine ⟨enters_of Try.func60 (by kernel_rfl) rfl, fun i hi => ?_, fun S W hk hC hS => ?_⟩
  · simp only [List.mem_cons, List.mem_append, Option.mem_toList] at hi
    rcases hi with rfl | rfl | rfl | hi | hi
    · exact h.h.lt
    · exact h.b.lt
    · exact h.gw.lt
    · obtain ⟨x, hx, rfl⟩ := Option.map_eq_some_iff.1 hi
      obtain ⟨_, o, ho, _⟩ := h.f0 x hx
      exact (Array.getElem?_eq_some_iff.1 ho).1
    · obtain ⟨x, hx, rfl⟩ := Option.map_eq_some_iff.1 hi
      obtain ⟨_, o, ho, _⟩ := h.f1 x hx
      exact (Array.getElem?_eq_some_iff.1 ho).1
  · have hS2 : LoAt S w hb wb g a0 a1 A B c0 c1 t sv tv u p n c := by
      refine ⟨h.h, h.b, h.gw, h.s0, h.s1, fun x hx => ⟨?_, (h.f0 x hx).2⟩, fun x hx => ⟨?_, (h.f1 x hx).2⟩, hC _ (by simp), hC _ (by simp), hC _ (by simp)⟩
      · exact hC _ (by simp [hx])
      · exact hC _ (by simp [hx])
    exact left_tells (hS2.kb hk) hA hB hA2 hB2 hn hc
end Go.Proofs.Ytelpihlifdfgoaa
