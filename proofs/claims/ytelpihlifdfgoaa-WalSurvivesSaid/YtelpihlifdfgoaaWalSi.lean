/-
  sizeOf: how long the areas are, by the labels. Nothing here is a statement of the document.
-/
import Derived.Test.YtelpihlifdfgoaaWalU
namespace Go.Proofs.Ytelpihlifdfgoaa
open Go.RowKit Go.Shelf
set_option linter.unusedVariables false
theorem u32_gen {p g j : Nat} {m : List Nat} {w : World} (h : Rd w p g m j 0) (hB : Bys m) (hl : m.length ≤ 64) (hj : j + 4 ≤ m.length) :
    Calls Try.prog 56 #[.pointer (some ⟨p, 0, none⟩)] w fun e w' => e = .returned (.int .u32 ((num4 m j : Nat) : Int)) ∧ Rd w' p g m (j + 4) 0 ∧ w.grownBy w' (some p) := by
  refine (u32_any h hB (by omega)).mono fun e w' ⟨he, hA⟩ => ?_
  have e1 := came_at (m := m) (j := j) (n := 4) (by omega)
  have e2 := off_at (m := m) (j := j) (n := 4) (by omega)
  rw [show ((4 : Nat) : Int) = 4 from rfl] at e1 e2
  unfold Aft at hA
  rw [e2] at hA
  rw [e1] at he
  exact ⟨he, hA⟩
def eqBk (a b : Value) : Sem Bool := Op.equalIn 10000 81 a b
theorem eq_bk_rule (a b : Value) : Op.equalIn 10000 81 a b = eqBk a b := rfl
theorem equal_bk (d : Nat) (a b : Bk) (w : World) : (Op.equalIn (d + 2) 81 (.agg a.cs) (.agg b.cs)).run Try.prog w = .ok (a.l == b.l) w := by
  rw [show d + 2 = (d + 1) + 1 from rfl, Op.equalIn]
  have hu := run_underlying (P := Try.prog) Try.underlying81 w
  have hn : (sizeOf 5).run Try.prog w = .ok 1 w := by kernel_rfl
  simp only [Sem.run_bind, hu, Result.andThen_ok, hn]
  have hagg : (isAgg 5).run Try.prog w = .ok false w := by kernel_rfl
  have hpart : ∀ (c : Bk) i, i < 64 → (part 5 c.cs (i * 1)).run Try.prog w = .ok (.int .u8 (c.l.getD i 0)) w := by
    intro c i hi
    have hl := c.len
    have hg : c.cs[i]? = some (.int .u8 (c.l.getD i 0)) := by
      unfold Bk.cs
      rw [List.getElem?_toArray, List.getElem?_map, List.getElem?_eq_getElem (by omega)]
      simp [List.getD_eq_getElem?_getD, List.getElem?_eq_getElem (show i < c.l.length by omega)]
    unfold part
    simp only [Sem.run_bind, hagg, Result.andThen_ok, Nat.mul_one, hg]
    rfl
  have he : ∀ x y : Int, (Op.equalIn (d + 1) 5 (.int .u8 x) (.int .u8 y)).run Try.prog w = .ok (x == y) w := fun x y => run_equalIn_int (P := Try.prog) (w := w) d 5 .u8 .u8 x y Try.underlying5
  have hloop : ∀ l : List Nat, (∀ i ∈ l, i < 64) → Sem.run Try.prog (forIn l ((none : Option Bool), ()) fun i __s => do
      let x ← part 5 a.cs (i * 1)
      let y ← part 5 b.cs (i * 1)
      let z ← Op.equalIn (d + 1) 5 x y
      if (!z) = true then pure (ForInStep.done (some false, ())) else pure (ForInStep.yield (none, ()))) w = .ok (if (∀ i ∈ l, a.l.getD i 0 = b.l.getD i 0) then (none, ()) else (some false, ())) w := by
    intro l
    induction l with
    | nil => intro _; simp
    | cons i l ih =>
      intro h
      rw [List.forIn_cons]
      simp only [Sem.run_bind, hpart a i (h i (by simp)), hpart b i (h i (by simp)), he, Result.andThen_ok]
      by_cases hx : a.l.getD i 0 = b.l.getD i 0
      · have hd : (!(a.l.getD i 0 == b.l.getD i 0)) = false := by rw [Bool.not_eq_false', beq_iff_eq]; exact hx
        simp only [hd, Bool.false_eq_true, if_false, Sem.run_pure, Result.andThen_ok]
        rw [ih (fun j hj => h j (by simp [hj]))]
        by_cases hr : ∀ j ∈ l, a.l.getD j 0 = b.l.getD j 0
        · rw [if_pos hr, if_pos (fun j hj => by rcases List.mem_cons.1 hj with rfl | h9; exact hx; exact hr j h9)]
        · rw [if_neg hr, if_neg (fun h9 => hr (fun j hj => h9 j (by simp [hj])))]
      · have hd : (!(a.l.getD i 0 == b.l.getD i 0)) = true := by rw [Bool.not_eq_true', beq_eq_false_iff_ne]; exact hx
        simp only [hd, if_true, Sem.run_pure, Result.andThen_ok]
        have : ¬ (∀ j ∈ i :: l, a.l.getD j 0 = b.l.getD j 0) := fun h9 => hx (h9 i (by simp))
        rw [if_neg this]
  simp only [Std.Legacy.Range.forIn_eq_forIn_range', Std.Legacy.Range.size, Nat.sub_zero, Nat.add_sub_cancel, Nat.div_one]
  rw [hloop _ (by intro i hi; have := List.mem_range'_1.1 hi; omega)]
  have la := a.len
  have lb := b.len
  by_cases hab : a.l = b.l
  · rw [hab]
    simp
  · have : ¬ (∀ i ∈ List.range' 0 64, a.l.getD i 0 = b.l.getD i 0) := fun h9 => hab (by
      apply List.ext_getElem (by omega)
      intro i h1 h2
      have := h9 i (List.mem_range'_1.2 ⟨by omega, by omega⟩)
      simpa [List.getD_eq_getElem?_getD, h1, h2] using this)
    rw [if_neg this]
    have : (a.l == b.l) = false := beq_eq_false_iff_ne.2 hab
    rw [this]
    rfl
theorem eqBk_run (a b : Bk) (w : World) : (eqBk (.agg a.cs) (.agg b.cs)).run Try.prog w = .ok (a.l == b.l) w := by
  unfold eqBk
  obtain ⟨d, hd⟩ : ∃ d, d + 2 = 10000 := ⟨9998, rfl⟩
  rw [← hd]
  exact equal_bk d a b w
/-- A right label on a disk of so many sectors. -/
def isLab (len : Nat) (b : Bk) : Bool := mayB (num4 b.n 8 : Int) len && b.l == (labL (num4 b.n 8)).l
/-- How long the areas are, by the first right label. -/
def sizeR (L : List Bk) (len : Nat) : Option Nat := (L.find? (isLab len)).map fun b => num4 b.n 8
theorem sizeR_none {L : List Bk} {len : Nat} (h : ∀ b ∈ L, isLab len b = false) : sizeR L len = none := by
  unfold sizeR
  rw [List.find?_eq_none.2 (fun b hb => by rw [h b hb]; simp)]
  rfl
theorem sizeR_some {L : List Bk} {len k : Nat} {b : Bk} (hb : L[k]? = some b) (h : ∀ x ∈ L.take k, isLab len x = false) (hy : isLab len b = true) : sizeR L len = some (num4 b.n 8) := by
  unfold sizeR
  have hl : k < L.length := (List.getElem?_eq_some_iff.1 hb).1
  have e : L = L.take k ++ b :: L.drop (k + 1) := by
    have h1 := (List.getElem?_eq_some_iff.1 hb).2
    rw [← h1]
    exact (List.take_append_drop k L).symm.trans (by rw [List.drop_eq_getElem_cons hl])
  rw [e, List.find?_append, List.find?_eq_none.2 (fun x hx => by rw [h x hx]; simp)]
  simp [hy]
theorem num4_drop (m : List Nat) (j : Nat) : num4 (m.drop j) 0 = num4 m j := by simp [num4]
theorem results_45 {fn : Func} (h : fn.results = #[.tmp 4, .tmp 5]) (tmps : Array Value) (w : World) (x y : Value) (hx : tmps[4]?.getD undef = x) (hy : tmps[5]?.getD undef = y) : (results fn tmps).run Try.prog w = .ok (.tuple #[x, y]) w := by
  simp only [results, h]
  simp [Sem.run_bind, Result.andThen, hx, hy, go_sem]
attribute [local go_sem ↓] load_blk_rule store_blk_rule eq_bk_rule
set_option maxRecDepth 100000 in
set_option maxHeartbeats 4000000 in
theorem sizeof_any {w : World} {B p pb : Nat} {bv : Value} {D : Dk} (hD : Dsk w B p pb bv D) {a : Option Addr} {L : List Bk} (hL : Secs w a L) (hB : ∀ b ∈ L, b.Byt) (hl : L.length ≤ 1000) (cap : Nat) : Calls Try.prog 38 #[.slice a L.length cap, .pointer (some ⟨p, 0, none⟩)] w fun e w' =>
    e = .returned (.tuple #[.int .i64 (((sizeR L D.plate.length).getD 0 : Nat) : Int), .bool (sizeR L D.plate.length).isSome]) ∧ Below w.heap.size w w' := by
  obtain ⟨n, hn⟩ : ∃ n, L.length = n := ⟨_, rfl⟩
  have HL := Lib.hid (And.intro hL (And.intro hB (And.intro hn hD)))
  rw [hn] at hl ⊢
  obtain ⟨len, hlen⟩ : ∃ len, D.plate.length = len := ⟨_, rfl⟩
  have HN := Lib.hid hlen
  rw [hlen]
  clear hL hB hn hlen hD
  go_enter Try.func38, Try.ntmps38
  go_wp2_with fail
  go_loopw [11] (fun i wr => ∃ k : Nat, k ≤ n ∧ i = .int .i64 k ∧ (∀ b ∈ L.take k, isLab len b = false) ∧ Below w.heap.size w wr) (fun i _ => n - (intOf i).toNat)
  case atStart => exact ⟨0, Nat.zero_le _, rfl, by simp, Below.refl _ _⟩
  case round =>
    obtain ⟨k, hk, rfl, hno, hbb⟩ := hrel
    by_cases hlt : k < n
    · have hki : (k : Int) < (n : Int) := by omega
      obtain ⟨b, hb⟩ : ∃ b, L[k]? = some b := ⟨_, List.getElem?_eq_getElem (by have := HL.out.2.2.1; omega)⟩
      obtain ⟨g0, o0, rfl, hg0, hc0⟩ : ∃ g o, a = some ⟨g, o, none⟩ ∧ g < wr.heap.size ∧ ∀ i b, L[i]? = some b → ∀ j, j < 64 → wr.cell? ⟨g, o + i * 64 + j, none⟩ = b.cs[j]? := by
        rcases HL.out.1.later hbb with h9 | h9
        · rw [h9] at hb; simp at hb
        · exact h9
      have hld := lsec (hc0 k b hb)
      have hbB : b.Byt := HL.out.2.1 b (List.mem_of_getElem? hb)
      have hsn := sblk_new wr b
      obtain ⟨W1, hW1⟩ : ∃ W1, wr.alloc (.cells b.cs 81) = W1 := ⟨_, rfl⟩
      have b1 : Blk W1 wr.heap.size 81 b.cs := by rw [← hW1]; exact Blk.new _ _ _
      have hb1 : Below wr.heap.size wr W1 := by rw [← hW1]; exact (Below.refl _ _).alloc (Nat.le_refl _) _
      rw [hW1] at hsn
      have hb01 := bel_lat hbb hb1
      have hli : Lies W1 (some ⟨wr.heap.size, 8, none⟩) (b.n.drop 8) := by
        have h9 := lies_blk b1 hbB
        rcases h9 with h9 | ⟨b2, o2, e2, hx, hc⟩
        · have := b.n_len; rw [h9] at this; simp at this
        · cases e2
          refine .inr ⟨_, 8, rfl, hx, fun i hi => ?_⟩
          rw [List.length_drop] at hi
          have := hc (8 + i) (by omega)
          rw [Nat.zero_add] at this
          rw [this]
          simp [List.getD_eq_getElem?_getD]
      have hrd := read_any (some ⟨wr.heap.size, 8, none⟩) 56 56 (b.n.drop 8) W1 (by rw [List.length_drop, b.n_len]) (by omega) hli
      have HK := Lib.hid (And.intro hno (And.intro hb (And.intro hbB (And.intro b1 hb01))))
      clear hno hb hbB b1 hb1 hb01 hc0 hg0 hbb hli hW1
      obtain ⟨BC, hBC⟩ : ∃ BC, b.cs = BC := ⟨_, rfl⟩
      rw [hBC] at hld hsn
      go_wp2_with (first | (with_reducible refine wpList_alloc_z rfl 81 rfl Bk.zero.cs 64 z_blk ?_))
      refine hrd.mono ?_
      rintro e W2 ⟨r, rfl, hr, hR2, hb2⟩
      clear hrd
      go_wp2_with fail
      refine (u32_gen hR2 (HK.out.2.2.1.bys.drop 8) (by rw [List.length_drop, b.n_len]; omega) (by rw [List.length_drop, b.n_len]; omega)).mono ?_
      rintro e W3 ⟨rfl, hR3, hg3⟩
      rw [num4_drop]
      obtain ⟨A, hA⟩ : ∃ A, num4 b.n 8 = A := ⟨_, rfl⟩
      have hA32 : A ≤ 4294967295 := by rw [← hA]; exact num4_lt _ _
      rw [hA]
      have hrs : wr.heap.size ≤ r := by have := HK.out.2.2.2.1.lt; omega
      have hb13 : Below W1.heap.size W1 W3 := hb2.trans ((kept_gr hg3).below (by simp; omega) hb2.size)
      have b3 := HK.out.2.2.2.1.kept (Kept.of_below [] hb13) (by simp)
      have hb03 := bel_lat HK.out.2.2.2.2 hb13
      have lb3 := wlblk b3.drew
      have hmb := mayBe_any (HL.out.2.2.2.later hb03).drew (A : Int)
      have hwA : IntKind.i64.wrap (A : Int) = (A : Int) := by
        unfold IntKind.wrap
        simp [IntKind.bits, IntKind.signed]
        omega
      obtain ⟨mb, hmbe⟩ : ∃ mb, mayB (A : Int) len = mb := ⟨_, rfl⟩
      obtain ⟨S, hS⟩ : ∃ S : World → Prop, S = Below W3.heap.size W3 := ⟨_, rfl⟩
      have hS0 : S W3.drew := by rw [hS]; exact (Below.refl _ _).drew
      have hmb : ∀ w', S w' → Calls Try.prog 45 #[.int .i64 (A : Int), .pointer (some ⟨p, 0, none⟩)] w' fun e w'' => e = .returned (.bool mb) ∧ w' = w'' := fun w' h => by
        rw [hS] at h
        have := mayBe_any (HL.out.2.2.2.later (bel_lat hb03 h)) (A : Int)
        rw [HN.out, hmbe] at this
        exact this
      have lb : ∀ w', S w' → (loadSem 81 (.pointer (some ⟨wr.heap.size, 0, none⟩))).run Try.prog w' = .ok (.agg BC) w' := fun w' h => by
        rw [hS] at h
        rw [← hBC]
        exact wlblk (b3.kept (Kept.of_below [] h) (by simp))
      have hSb : ∀ w' w'', S w' → Below w'.heap.size w' w'' → S w'' := fun w' w'' h k => by
        rw [hS] at h ⊢
        exact h.trans (k.mono h.size)
      have hSw : ∀ w', S w' → Below w.heap.size w w' := fun w' h => by rw [hS] at h; exact bel_lat hb03 h
      have HQ := Lib.hid (And.intro hA (And.intro hmbe (And.intro hSb (And.intro hSw hBC))))
      clear hA hmbe hSb hSw hBC lb3 b3 hb03 hb13 hR3 hg3 hb2 hR2 hS hrs
      cases mb with
      | false =>
        go_wp2_with fail
        refine wp_region_linY S [] [0, 1, 2, 3, 4, 5, 6, 7, 8] (by kernel_rfl) (by kernel_rfl) hS0 ?_
        (repeat (first | (refine linX_off rfl rfl (by rfl) ?_; (try simp only [Act.put, List.getElem_toArray, List.getElem_cons_zero, List.getElem_cons_succ, List.setIfInBounds_toArray, List.set_cons_zero, List.set_cons_succ])) | (refine linX_op (v := ?_) rfl rfl (by rfl) (fun w9 hS9 => ?_) ?_; rotate_left; (focus (((have k0 := lb w9 hS9; go_simp; (try go_bits)) <;> with_reducible rfl))); (try simp only [Act.put, List.getElem_toArray, List.getElem_cons_zero, List.getElem_cons_succ, List.setIfInBounds_toArray, List.set_cons_zero, List.set_cons_succ]))))
        refine linX_fn (f := 45) rfl rfl (by rfl) rfl rfl (enters_of Try.func45 (by kernel_rfl) rfl) (fun w9 hS9 => hmb w9 hS9) ?_ ?_
        · simp [Act.eval]
        (try simp only [Act.put, List.getElem_toArray, List.getElem_cons_zero, List.getElem_cons_succ, List.setIfInBounds_toArray, List.set_cons_zero, List.set_cons_succ])
        (repeat (first | (refine linX_off rfl rfl (by rfl) ?_; (try simp only [Act.put, List.getElem_toArray, List.getElem_cons_zero, List.getElem_cons_succ, List.setIfInBounds_toArray, List.set_cons_zero, List.set_cons_succ])) | (refine linX_op (v := ?_) rfl rfl (by rfl) (fun w9 hS9 => ?_) ?_; rotate_left; (focus (((have k0 := lb w9 hS9; go_simp; (try go_bits)) <;> with_reducible rfl))); (try simp only [Act.put, List.getElem_toArray, List.getElem_cons_zero, List.getElem_cons_succ, List.setIfInBounds_toArray, List.set_cons_zero, List.set_cons_succ]))))
        refine linX_nil ?_
        go_wp2_with fail
        go_roundw
        case rel =>
          refine ⟨k + 1, hlt, by go_num, fun x hx => ?_, HQ.out.2.2.2.1 _ hS0⟩
          rw [take_next HK.out.2.1] at hx
          rcases List.mem_append.1 hx with h9 | h9
          · exact HK.out.1 x h9
          · rw [List.mem_singleton.1 h9]
            unfold isLab
            rw [HQ.out.1, HQ.out.2.1, Bool.false_and]
        case measure => simp [intOf]; omega
      | true =>
        have hA1 : A ≤ 1000 := by
          have h9 := HQ.out.2.1
          unfold mayB at h9
          simp only [Bool.and_eq_true, decide_eq_true_eq] at h9
          omega
        have hlab := fun w' => label_any A hA1 w'
        obtain ⟨eq, heq⟩ : ∃ eq, (b.l == (labL A).l) = eq := ⟨_, rfl⟩
        have hEq : ∀ w', S w' → (eqBk (.agg BC) (.agg (labL A).cs)).run Try.prog w' = .ok eq w' := fun w' _ => by
          rw [← heq, ← HQ.out.2.2.2.2]
          exact eqBk_run b (labL A) w'
        obtain ⟨LC, hLC⟩ : ∃ LC, (labL A).cs = LC := ⟨_, rfl⟩
        rw [hLC] at hEq
        simp only [hLC] at hlab
        have HE := Lib.hid (And.intro heq hLC)
        clear heq hLC
        go_wp2_with fail
        refine wp_region_linY S [6] [0, 1, 2, 3, 4, 5, 6, 7, 8] (by kernel_rfl) (by kernel_rfl) hS0 ?_
        (repeat (first | (refine linX_off rfl rfl (by rfl) ?_; (try simp only [Act.put, List.getElem_toArray, List.getElem_cons_zero, List.getElem_cons_succ, List.setIfInBounds_toArray, List.set_cons_zero, List.set_cons_succ])) | (refine linX_op (v := ?_) rfl rfl (by rfl) (fun w9 hS9 => ?_) ?_; rotate_left; (focus (((have k0 := lb w9 hS9; go_simp; (try go_bits)) <;> with_reducible rfl))); (try simp only [Act.put, List.getElem_toArray, List.getElem_cons_zero, List.getElem_cons_succ, List.setIfInBounds_toArray, List.set_cons_zero, List.set_cons_succ]))))
        refine linX_fn (f := 45) rfl rfl (by rfl) rfl rfl (enters_of Try.func45 (by kernel_rfl) rfl) (fun w9 hS9 => hmb w9 hS9) ?_ ?_
        · simp [Act.eval]
        (try simp only [Act.put, List.getElem_toArray, List.getElem_cons_zero, List.getElem_cons_succ, List.setIfInBounds_toArray, List.set_cons_zero, List.set_cons_succ])
        (repeat (first | (refine linX_off rfl rfl (by rfl) ?_; (try simp only [Act.put, List.getElem_toArray, List.getElem_cons_zero, List.getElem_cons_succ, List.setIfInBounds_toArray, List.set_cons_zero, List.set_cons_succ])) | (refine linX_op (v := ?_) rfl rfl (by rfl) (fun w9 hS9 => ?_) ?_; rotate_left; (focus (((have k0 := lb w9 hS9; go_simp; (try go_bits)) <;> with_reducible rfl))); (try simp only [Act.put, List.getElem_toArray, List.getElem_cons_zero, List.getElem_cons_succ, List.setIfInBounds_toArray, List.set_cons_zero, List.set_cons_succ]))))
        refine linX_call (f := 49) (args := #[.int .i64 (A : Int)]) rfl rfl (by rfl) rfl rfl (enters_of Try.func49 (by kernel_rfl) rfl) ?_ ?_
        · simp [Act.eval]
        refine (hlab _).mono ?_
        rintro e W7 ⟨rfl, hb7⟩
        have hS7 : S W7 := HQ.out.2.2.1 _ _ hS0 hb7
        refine ⟨_, rfl, hS7, ?_⟩
        (try simp only [Act.put, List.getElem_toArray, List.getElem_cons_zero, List.getElem_cons_succ, List.setIfInBounds_toArray, List.set_cons_zero, List.set_cons_succ])
        (repeat (first | (refine linX_off rfl rfl (by rfl) ?_; (try simp only [Act.put, List.getElem_toArray, List.getElem_cons_zero, List.getElem_cons_succ, List.setIfInBounds_toArray, List.set_cons_zero, List.set_cons_succ])) | (refine linX_op (v := ?_) rfl rfl (by rfl) (fun w9 hS9 => ?_) ?_; rotate_left; (focus (((have k0 := lb w9 hS9; have k1 := hEq w9 hS9; go_simp; (try go_bits)) <;> with_reducible rfl))); (try simp only [Act.put, List.getElem_toArray, List.getElem_cons_zero, List.getElem_cons_succ, List.setIfInBounds_toArray, List.set_cons_zero, List.set_cons_succ]))))
        refine linX_nil ?_
        clear hlab hmb lb hEq
        cases eq with
        | true =>
          go_wp2_with fail
          refine bodyPost_ret (results_45 rfl _ _ _ _ rfl rfl) rfl ?_
          refine ⟨?_, HQ.out.2.2.2.1 _ hS7⟩
          rw [sizeR_some HK.out.2.1 HK.out.1 (by unfold isLab; rw [HQ.out.1, HQ.out.2.1, Bool.true_and]; exact HE.out.1), HQ.out.1]
          rfl
        | false =>
          go_wp2_with fail
          go_roundw
          case rel =>
            refine ⟨k + 1, hlt, by go_num, fun x hx => ?_, HQ.out.2.2.2.1 _ hS7⟩
            rw [take_next HK.out.2.1] at hx
            rcases List.mem_append.1 hx with h9 | h9
            · exact HK.out.1 x h9
            · rw [List.mem_singleton.1 h9]
              unfold isLab
              rw [HQ.out.1, HE.out.1, Bool.and_false]
          case measure => simp [intOf]; omega
    · obtain rfl : k = n := by omega
      have HK := Lib.hid (And.intro hno hbb)
      clear hno hbb
      go_wp2_with fail
      refine bodyPost_ret (results_45 rfl _ _ _ _ rfl rfl) rfl ?_
      refine ⟨?_, HK.out.2⟩
      rw [sizeR_none (by have := HK.out.1; rwa [List.take_of_length_le (by rw [HL.out.2.2.1]; exact Nat.le_refl _)] at this)]
      rfl

end Go.Proofs.Ytelpihlifdfgoaa
