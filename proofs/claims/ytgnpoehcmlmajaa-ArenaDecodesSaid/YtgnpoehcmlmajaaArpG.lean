/-
  Decode, of what Encode gave. Nothing here is a statement of the document.
-/
import Derived.Test.YtgnpoehcmlmajaaDcF
import Derived.Test.YtgnpoehcmlmajaaArpE
import Derived.Test.YtgnpoehcmlmajaaDcH
import Derived.Test.YtgnpoehcmlmajaaArpF
namespace Go.Proofs.Ytgnpoehcmlmajaa
open Go.RowKit Go.Shelf
set_option linter.unusedVariables false

attribute [local go_sem] Oper.semAt_some
set_option maxRecDepth 100000 in
set_option maxHeartbeats 4000000 in
theorem inblocks_behind {w : World} {g p q n : Nat} {ws : List Nat} {B : List Bl} (h : Ar w g p q ws (List.replicate n false)) (hn : ws.length = n) (hC : Chain ws 16 B) (he : ws.getD 15 0 ≤ ws.length) (h16 : 16 ≤ ws.getD 15 0) {m x : Nat} (hm : ws.getD 15 0 + m < ws.length) (hz : ∀ i, ws.getD 15 0 ≤ i → i < ws.getD 15 0 + m → ws.getD i 0 = 0) (hx : ws.getD (ws.getD 15 0 + m) 0 = x) (hx0 : x ≠ 0) :
    Calls Try.prog 43 #[.pointer (some ⟨g, 0, none⟩)] w fun e w' => e = .returned (.bool false) ∧ Kept [q] w w' := by
  obtain ⟨W1, hW1⟩ : ∃ W1, w.alloc (.cells #[.pointer (some ⟨g, 0, none⟩)] 25) = W1 := ⟨_, rfl⟩
  have hb1 : Below w.heap.size w W1 := by rw [← hW1]; exact (Below.refl _ _).alloc (Nat.le_refl _) _
  have b1 : Blk W1 w.heap.size 25 #[.pointer (some ⟨g, 0, none⟩)] := by rw [← hW1]; exact Blk.new _ _ _
  have s1 : W1.heap.size = w.heap.size + 1 := by rw [← hW1]; simp
  obtain ⟨W2, hW2⟩ : ∃ W2, W1.alloc (.cells #[.bool false] 4) = W2 := ⟨_, rfl⟩
  have hb12 : Below W1.heap.size W1 W2 := by rw [← hW2]; exact (Below.refl _ _).alloc (Nat.le_refl _) _
  have b2 : Blk W2 W1.heap.size 4 #[.bool false] := by rw [← hW2]; exact Blk.new _ _ _
  have b1' : Blk W2 w.heap.size 25 #[.pointer (some ⟨g, 0, none⟩)] := (hb12.block _ b1.lt).trans b1
  have hb2 : Below w.heap.size w W2 := hb1.trans (hb12.mono hb1.size)
  have hA2 := h.later hb2
  have hed := edge_any hA2
  have cb : W2.cell? ⟨w.heap.size, 0, none⟩ = some (.pointer (some ⟨g, 0, none⟩)) := b1'.cell 0
  have cg := hA2.c0
  have H := Lib.hid (And.intro hb2 (And.intro b1' (And.intro b2 (And.intro hA2 (And.intro hC (And.intro he (And.intro (And.intro hm (And.intro hz (And.intro hx hx0))) (And.intro s1 (And.intro hn h)))))))))
  have hhi := h.hi
  have de : decide (((ws.getD 15 0 : Nat) : Int) < 16) = false := decide_eq_false (by omega)
  have de2 : decide (ws.getD 15 0 < 16) = false := decide_eq_false (by omega)
  have de3 : decide ((ws.length : Int) < ((ws.getD 15 0 : Nat) : Int)) = false := decide_eq_false (by omega)
  have de4 : decide (ws.length < ws.getD 15 0) = false := decide_eq_false (by omega)
  have HHI := Lib.hid hhi
  clear h hC he h16 hz hm hx hn hb1 b1 hb12 b2 b1' hb2 hA2 s1 hhi
  generalize hee : ws.getD 15 0 = e at *
  have HE := Lib.hid hee
  clear hee
  have S0 : ∀ w9, w9 = W2.drew → w9.cell? ⟨w.heap.size, 0, none⟩ = some (.pointer (some ⟨g, 0, none⟩)) := fun w9 h => by subst h; exact cb
  have S1 : ∀ w9, w9 = W2.drew → w9.cell? ⟨g, 0, none⟩ = some (.slice (some ⟨p, 0, none⟩) ws.length ws.length) := fun w9 h => by subst h; exact cg
  have S2 : ∀ w9, w9 = W2.drew → Calls Try.prog 52 #[.pointer (some ⟨g, 0, none⟩)] w9 fun e' w' => e' = .returned (.int .i64 (e : Int)) ∧ w' = W2.drew := fun w9 h => by
    subst h
    have hh := edge_any H.out.2.2.2.1.drew
    rw [HE.out] at hh
    exact hh.mono fun e' w' h => ⟨h.1, h.2.symm⟩
  refine calls_of_wp_marks Try.func43 rfl ?_
  simp only [Try.ntmps43, List.size_toArray, List.length_cons, List.length_nil, Nat.reduceAdd, Nat.reduceSub, Array.replicate_succ, Array.replicate_zero, List.push_toArray, List.append_toArray, List.nil_append, List.cons_append]
  go_wp2_with fail
  refine wp_region_lin (fun w' => w' = W2.drew) (by kernel_rfl) (by kernel_rfl) rfl ?_
  (repeat (first | (refine lin_off (by rfl) ?_; (try simp only [Act.put, List.setIfInBounds_toArray, List.set_cons_zero, List.set_cons_succ])) | (refine lin_op (v := ?_) (by rfl) (fun w9 hS9 => ?_) ?_; rotate_left; (focus ((have k0 := S0 w9 hS9; have k1 := S1 w9 hS9; (try dsimp only at hS9); go_simp; (try go_bits)) <;> with_reducible rfl)); (try simp only [Act.put, List.setIfInBounds_toArray, List.set_cons_zero, List.set_cons_succ])) | (refine lin_fn (f := 52) (by rfl) rfl rfl (enters_of Try.func52 (by kernel_rfl) rfl) (fun w9 hS9 => S2 w9 hS9) ?_ ?_; (focus (simp [Act.eval]; done)); (try simp only [Act.put, List.setIfInBounds_toArray, List.set_cons_zero, List.set_cons_succ]))))
  refine lin_nil (fun w8 hS8 => ?_)
  subst hS8
  clear S0 S1 S2
  go_wp2_with fail
  refine (blocks_any (some ⟨g, 0, none⟩) W2.drew).mono ?_
  rintro e3 W3 ⟨rfl, b3, hb3, hs3⟩
  have hA3 : Ar W3 g p q ws (List.replicate n false) := H.out.2.2.2.1.drew.later hb3
  have hbx3 : Blk W3 w.heap.size 25 #[.pointer (some ⟨g, 0, none⟩)] := (hb3.block _ (by have := H.out.2.1.lt; exact this)).trans H.out.2.1
  have hbr3 : Blk W3 W1.heap.size 4 #[.bool false] := (hb3.block _ (by have := H.out.2.2.1.lt; exact this)).trans H.out.2.2.1
  have hB3 : Below w.heap.size w W3 := H.out.1.drew.trans (Below.mono hb3 (by simpa using H.out.1.size))
  have hseq := blocks_low (S := [q]) hA3.aw H.out.2.2.2.2.1 (by rw [HE.out]; exact H.out.2.2.2.2.2.1) b3 (by simp; exact hA3.gq) (by simp; exact hA3.pq) (by simp; have := H.out.2.2.2.1.bgs.lt; omega)
  have H3 := Lib.hid (And.intro hA3 (And.intro hbx3 (And.intro hbr3 (And.intro hB3 (And.intro b3 hs3)))))
  clear hb3 b3 hs3 hA3 hbx3 hbr3 hB3 hed cb cg
  go_wp2_with fail
  refine wp_range_low (S := [q]) (N := B.length) (enc := encB B) none (fun _ => rfl) rfl (fun _ _ => by simp [go_sem, enters_of Try.func82 (by kernel_rfl) rfl]) hseq (fun k hk => by simp at hk; rw [hk]; exact H3.out.1.bgs.lt)
    (fun k W => (Ar W g p q ws (begK B n k) ∧ Blk W w.heap.size 25 #[.pointer (some ⟨g, 0, none⟩)] ∧ Blk W W1.heap.size 4 #[.bool false]) ∧ Kept [q] w W)
    (fun _ _ => False) ?hI ?hIx ⟨⟨H3.out.1, H3.out.2.1, H3.out.2.2.1⟩, Kept.of_below [q] H3.out.2.2.2.1⟩
    (fun k a' W => ∃ u5 : Value, a' = { tmps := #[.pointer (some ⟨g, 0, none⟩), .pointer (some ⟨w.heap.size, 0, none⟩), .pointer (some ⟨W1.heap.size, 0, none⟩), .int .i64 ((B.getD k Bl.zero).x : Int), .int .u32 ((hdN (B.getD k Bl.zero).c (B.getD k Bl.zero).t : Nat) : Int), .pointer (some ⟨g, 0, none⟩), .int .i64 (e : Int), .bool false, .bool false, .pointer (some ⟨g, 0, none⟩), .int .i64 (e : Int), .pointer (some ⟨g, 0, none⟩), .pointer (some ⟨g, 0, none⟩), .pointer (some ⟨g, 0, none⟩), .slice (some ⟨p, 0, none⟩) ws.length ws.length, .int .i64 (ws.length : Int), .bool false, .bool false, .pointer (some ⟨g, 0, none⟩), .func (.func 82) #[] #[.pointer (some ⟨W2.heap.size, 0, none⟩)], .int .i64 ((B.getD k Bl.zero).x : Int), .int .u32 ((hdN (B.getD k Bl.zero).c (B.getD k Bl.zero).t : Nat) : Int), undef, undef, undef, undef, undef, undef, undef, undef, undef, undef, undef, undef, undef, undef, undef, undef, undef, undef, undef, undef, undef, undef, undef, undef, undef, undef], defers := [] })
    ?hAx ?assign ?body ?done ?stop
  case hI => exact OwnFrom.and (OwnFrom.and (own_ar _ _ _ _ _ _) (OwnFrom.and (own_blk _ _ _ _) (own_blk _ _ _ _))) (kept_own H3.out.2.2.2.1.size)
  case hIx => exact fun s X Y row hs hg hr => hs
  case hAx => exact fun k a' s X Y row hs hg hr => hs
  case assign =>
    rintro k X K hk hX hI hK
    simp only [List.zip_toArray, List.zip_cons_cons, List.zip_nil_right, List.zip_nil_left, List.size_toArray, List.foldl_toArray', List.foldl_toArray, List.foldl_cons, List.foldl_nil, List.setIfInBounds_toArray, List.set_cons_zero, List.set_cons_succ, encB]
    generalize B.getD k Bl.zero = bb at *
    gi_wp2
    exact hK _ _ (KL.refl _ _ _) hI ⟨undef, rfl⟩
  case body =>
    rintro k a' W ⟨⟨dA, dB, dR⟩, dk⟩ ⟨u5, rfl⟩ hk hWs
    have hbk : B.getD k Bl.zero = B[k] := by simp [hk]
    obtain ⟨g1, g2, g3, g4, g5⟩ := chain_get H.out.2.2.2.2.1 (Nat.le_refl _) (List.getElem?_eq_getElem hk)
    rw [HE.out] at g4
    have hbeg : begK B n (k + 1) = (begK B n k).set (B.getD k Bl.zero).x true := rfl
    rw [hbk] at hbeg ⊢
    have hp5 := pow5 g1
    have hhr := fun w' => (hright_any B[k].c B[k].t g1 w').mono (R' := fun e w2 => e = .returned (.bool true) ∧ ∃ n, w2 = w'.drewN n) fun e w2 h => ⟨h.1, 0, h.2.symm⟩
    have hsz := fun w' => (hsize_any B[k].c B[k].t g1 w').mono (R' := fun e w2 => e = .returned (.int .i64 ((2 ^ B[k].c : Nat) : Int)) ∧ ∃ n, w2 = w'.drewN n) fun e w2 h => ⟨h.1, 0, h.2.symm⟩
    generalize B[k] = b at *
    generalize hdN b.c b.t = hv at *
    generalize b.x = x at *
    generalize 2 ^ b.c = z at *
    have hhi := HHI.out
    have hhe := H.out.2.2.2.2.2.1
    obtain ⟨T, hT⟩ : ∃ T : World → Prop, T = fun w' => Ar w' g p q ws (begK B n k) ∧ Blk w' w.heap.size 25 #[.pointer (some ⟨g, 0, none⟩)] := ⟨_, rfl⟩
    have hTd : ∀ w' n, T w' → T (w'.drewN n) := by rw [hT]; exact fun w' n h => ⟨h.1.drewN n, h.2⟩
    have hT0 : T W.drew := by rw [hT]; exact ⟨dA.drew, dB⟩
    have q0 : ∀ w', T w' → w'.cell? ⟨w.heap.size, 0, none⟩ = some (.pointer (some ⟨g, 0, none⟩)) := by rw [hT]; exact fun w' h' => h'.2.cell 0
    have hed := fun w' (h' : T w') => (edge_any (show Ar w' g p q ws (begK B n k) by rw [hT] at h'; exact h'.1)).mono (R' := fun e' w2 => e' = .returned (.int .i64 (e : Int)) ∧ ∃ n, w2 = w'.drewN n) fun e' w2 h => ⟨by rw [← HE.out]; exact h.1, 0, h.2.symm⟩
    have hhr2 := fun w' (_ : T w') => hhr w'
    have hsz2 := fun w' (_ : T w') => hsz w'
    have d1 : decide ((e : Int) < (x : Int) + (z : Int)) = false := decide_eq_false (by omega)
    have d2 : decide (e < x + z) = false := decide_eq_false (by omega)
    have hTT : ∀ m, Ar (W.drew.drewN m) g p q ws (begK B n k) ∧ Blk (W.drew.drewN m) w.heap.size 25 #[.pointer (some ⟨g, 0, none⟩)] ∧ Blk (W.drew.drewN m) W1.heap.size 4 #[.bool false] := fun m => ⟨dA.drew.drewN m, dB, dR⟩
    have hKK : ∀ n, Kept [q] W (W.drew.drewN n) := fun n => ((Kept.refl [q] W).drew).drewN n
    have hKw : ∀ n, Kept [q] w (W.drew.drewN n) := fun n => (dk.drew).drewN n
    have HT := Lib.hid (And.intro hTT (And.intro hKK (And.intro hKw hbeg)))
    clear hT dA dB dR dk hTT hKK hKw hbeg hhr hsz
    gi_wp2_with fail
    refine wp_region_linI T [] [0, 1, 2, 3, 4, 5, 6, 7, 8, 9, 10, 11] (by kernel_rfl) (by kernel_rfl) (by kernel_rfl) hTd hT0 ?_
    (repeat (first | (refine linI_off rfl rfl (by rfl) ?_; (try simp only [Act.put, List.getElem_toArray, List.getElem_cons_zero, List.getElem_cons_succ, List.setIfInBounds_toArray, List.set_cons_zero, List.set_cons_succ])) | (refine linI_op (v := ?_) rfl rfl (by rfl) (fun w9 hS9 => ?_) ?_; rotate_left; (focus ((have k0 := q0 w9 hS9; (try dsimp only at hS9); go_simp; (try go_bits)) <;> with_reducible rfl)); (try simp only [Act.put, List.getElem_toArray, List.getElem_cons_zero, List.getElem_cons_succ, List.setIfInBounds_toArray, List.set_cons_zero, List.set_cons_succ])) | (refine linI_fn (f := 69) rfl rfl (by rfl) rfl rfl (enters_of Try.func69 (by kernel_rfl) rfl) (fun w9 hS9 => hhr2 w9 hS9) ?_ ?_; (focus (simp [Act.eval]; done)); (try simp only [Act.put, List.getElem_toArray, List.getElem_cons_zero, List.getElem_cons_succ, List.setIfInBounds_toArray, List.set_cons_zero, List.set_cons_succ])) | (refine linI_fn (f := 70) rfl rfl (by rfl) rfl rfl (enters_of Try.func70 (by kernel_rfl) rfl) (fun w9 hS9 => hsz2 w9 hS9) ?_ ?_; (focus (simp [Act.eval]; done)); (try simp only [Act.put, List.getElem_toArray, List.getElem_cons_zero, List.getElem_cons_succ, List.setIfInBounds_toArray, List.set_cons_zero, List.set_cons_succ])) | (refine linI_fn (f := 52) rfl rfl (by rfl) rfl rfl (enters_of Try.func52 (by kernel_rfl) rfl) (fun w9 hS9 => hed w9 hS9) ?_ ?_; (focus (simp [Act.eval]; done)); (try simp only [Act.put, List.getElem_toArray, List.getElem_cons_zero, List.getElem_cons_succ, List.setIfInBounds_toArray, List.set_cons_zero, List.set_cons_succ]))))
    refine linI_nil (fun n2 => ?_)
    obtain ⟨⟨tA, tB, tR⟩, tk, tkw⟩ := And.intro (HT.out.1 n2) (And.intro (HT.out.2.1 n2) (HT.out.2.2.1 n2))
    rw [show W.drew.drewN n2 = W.drew.drewN n2 from rfl]
    generalize W.drew.drewN n2 = V at *
    have cb := tB.cell 0
    have c1 := tA.c1
    have cx := tA.beg (i := x) (by omega)
    have fx := tA.bgs.free x
    have hq1 : w.heap.size ≠ q := by have := H.out.2.2.2.2.2.2.2.2.2.bgs.lt; omega
    have hq2 : W1.heap.size ≠ q := by have := H.out.2.2.2.2.2.2.2.2.2.bgs.lt; have := H.out.2.2.2.2.2.2.2.1; omega
    have HF := Lib.hid (And.intro (And.intro (tA.setB x true) (And.intro (tB.far (p := ⟨q, x, none⟩) hq1 (.bool true)) (tR.far (p := ⟨q, x, none⟩) hq2 (.bool true)))) (And.intro (tk.setCell (p := ⟨q, x, none⟩) (.inl (by simp)) (.bool true)) (tkw.setCell (p := ⟨q, x, none⟩) (.inl (by simp)) (.bool true))))
    clear tA tB tR tk tkw
    generalize (begK B n k).getD x false = y at *
    have d3 : decide ((x : Int) < (ws.length : Int)) = true := decide_eq_true (by omega)
    have d4 : decide (x < ws.length) = true := decide_eq_true (by omega)
    gi_wp2
    refine ⟨KL.kept HF.out.2.1 hWs, ?_, HF.out.2.2⟩
    rw [HT.out.2.2.2]
    exact HF.out.1
  case done =>
    rintro W ⟨⟨dA, dB, dR⟩, dk⟩ hdef
    have hhi := HHI.out
    have hhe := H.out.2.2.2.2.2.1
    have hz := H.out.2.2.2.2.2.2.1
    obtain ⟨T, hT⟩ : ∃ T : World → Prop, T = fun w' => Ar w' g p q ws (begK B n B.length) ∧ Blk w' w.heap.size 25 #[.pointer (some ⟨g, 0, none⟩)] := ⟨_, rfl⟩
    have hTd : ∀ w' n, T w' → T (w'.drewN n) := by rw [hT]; exact fun w' n h => ⟨h.1.drewN n, h.2⟩
    have hT0 : T W.drew := by rw [hT]; exact ⟨dA.drew, dB⟩
    have q0 : ∀ w', T w' → w'.cell? ⟨w.heap.size, 0, none⟩ = some (.pointer (some ⟨g, 0, none⟩)) := by rw [hT]; exact fun w' h' => h'.2.cell 0
    have q1 : ∀ w', T w' → w'.cell? ⟨g, 0, none⟩ = some (.slice (some ⟨p, 0, none⟩) ws.length ws.length) := by rw [hT]; exact fun w' h' => h'.1.c0
    have hed := fun w' (h' : T w') => (edge_any (show Ar w' g p q ws (begK B n B.length) by rw [hT] at h'; exact h'.1)).mono (R' := fun e' w2 => e' = .returned (.int .i64 (e : Int)) ∧ ∃ n, w2 = w'.drewN n) fun e' w2 h => ⟨by rw [← HE.out]; exact h.1, 0, h.2.symm⟩
    obtain ⟨hm, hz, hx, hx0⟩ := hz
    have hbl := fun w' (h' : T w') => (blank_no (if ws.length = e then some ⟨p, 0, none⟩ else some ⟨p, e, none⟩) (ws.length - e) (ws.length - e) (by omega) w' m x ⟨p, e, if_neg (by omega), by omega, fun i hi => by
      have h1 := (show Ar w' g p q ws (begK B n B.length) by rw [hT] at h'; exact h'.1).word (i := e + i) (by omega)
      rw [hz (e + i) (by omega) (by omega)] at h1
      exact h1, by
      have h1 := (show Ar w' g p q ws (begK B n B.length) by rw [hT] at h'; exact h'.1).word (i := e + m) (by omega)
      rw [hx] at h1
      exact h1, hx0⟩).mono (R' := fun e' w2 => e' = .returned (.bool false) ∧ ∃ n, w2 = w'.drewN n) fun e' w2 h => ⟨h.1, 0, h.2.symm⟩
    have hs1 := H.out.2.2.2.2.2.2.2.1
    have hsz3 : W1.heap.size < W3.heap.size := by have := H3.out.2.2.1.lt; exact this
    have hAw := H.out.2.2.2.2.2.2.2.2.2
    have K9 : ∀ m, Kept [W1.heap.size] W ((W.drew.drewN m).setCell ⟨W1.heap.size, 0, none⟩ (.bool false)) := fun m => (((Kept.refl [W1.heap.size] W).drew).drewN m).setCell (p := ⟨W1.heap.size, 0, none⟩) (.inl (by simp)) _
    have HZ : ∀ m n2, Hid ((Ar (((W.drew.drewN m).setCell ⟨W1.heap.size, 0, none⟩ (.bool false)).drewN n2) g p q ws (begK B n B.length) ∧ Blk (((W.drew.drewN m).setCell ⟨W1.heap.size, 0, none⟩ (.bool false)).drewN n2) W1.heap.size 4 #[.bool false] ∧ Kept [q] w (((W.drew.drewN m).setCell ⟨W1.heap.size, 0, none⟩ (.bool false)).drewN n2)) ∧ (((W.drew.drewN m).setCell ⟨W1.heap.size, 0, none⟩ (.bool false)).drewN n2).heap[W3.heap.size]? = some (.deferred (some [])) ∧ T ((W.drew.drewN m).setCell ⟨W1.heap.size, 0, none⟩ (.bool false))) := fun m n2 => Lib.hid (by
      have hg : g ≠ W1.heap.size := by have := hAw.box.lt; omega
      have hp : p ≠ W1.heap.size := by have := hAw.wds.lt; omega
      have hq : q ≠ W1.heap.size := by have := hAw.bgs.lt; omega
      have hA9 := dA.kept (K9 m) (by simpa using hg) (by simpa using hp) (by simpa using hq)
      refine ⟨⟨hA9.drewN n2, ?_, ?_⟩, ?_, ?_⟩
      · have hb := (show Blk (W.drew.drewN m) W1.heap.size 4 #[.bool false] from dR).set 0 (.bool false)
        exact hb
      · exact (((dk.drew).drewN m).setCell (p := ⟨W1.heap.size, 0, none⟩) (.inr (by show w.heap.size ≤ W1.heap.size; omega)) (.bool false)).drewN n2
      · exact ((K9 m).block _ (Array.getElem?_eq_some_iff.1 hdef).1 (by simp; omega)).trans hdef
      · rw [hT]
        exact ⟨hA9, dB.kept (K9 m) (by simp; omega)⟩)
    have hrr : ∀ m, (W.drew.drewN m).cell? ⟨W1.heap.size, 0, none⟩ = some (.bool false) := fun m => dR.cell 0
    have hff : ∀ m, _ := fun m => (show Blk (W.drew.drewN m) W1.heap.size 4 #[.bool false] from dR).free 0
    have hown := OwnFrom.and (OwnFrom.and (own_ar (β := Unit) W3.heap.size g p q ws (fun _ => begK B n B.length)) (own_blk (β := Unit) W3.heap.size W1.heap.size 4 (fun _ => #[.bool false]))) (kept_own (β := Unit) (S := [q]) H3.out.2.2.2.1.size)
    have HH := Lib.hid (And.intro hsz3 hown)
    clear hs1 hsz3 hAw K9 hown dA dB dR dk hT hz hm hx hdef
    go_wp2_with fail
    refine wp_region_linD T [8] [0, 1, 2, 3, 4, 5, 6, 7, 8] (by kernel_rfl) (by kernel_rfl) hTd hT0 ?_
    (repeat (first | (refine linD_off rfl rfl (by rfl) ?_; (try simp only [Act.put, List.getElem_toArray, List.getElem_cons_zero, List.getElem_cons_succ, List.setIfInBounds_toArray, List.set_cons_zero, List.set_cons_succ])) | (refine linD_op (v := ?_) rfl rfl (by rfl) (fun w9 hS9 => ?_) ?_; rotate_left; (focus ((have k0 := q0 w9 hS9; have k1 := q1 w9 hS9; (try dsimp only at hS9); go_simp; (try go_bits)) <;> with_reducible rfl)); (try simp only [Act.put, List.getElem_toArray, List.getElem_cons_zero, List.getElem_cons_succ, List.setIfInBounds_toArray, List.set_cons_zero, List.set_cons_succ])) | (refine linD_fn (f := 52) rfl rfl (by rfl) rfl rfl (enters_of Try.func52 (by kernel_rfl) rfl) (fun w9 hS9 => hed w9 hS9) ?_ ?_; (focus (simp [Act.eval]; done)); (try simp only [Act.put, List.getElem_toArray, List.getElem_cons_zero, List.getElem_cons_succ, List.setIfInBounds_toArray, List.set_cons_zero, List.set_cons_succ])) | (refine linD_fn (f := 71) rfl rfl (by rfl) rfl rfl (enters_of Try.func71 (by kernel_rfl) rfl) (fun w9 hS9 => hbl w9 hS9) ?_ ?_; (focus (simp [Act.eval]; done)); (try simp only [Act.put, List.getElem_toArray, List.getElem_cons_zero, List.getElem_cons_succ, List.setIfInBounds_toArray, List.set_cons_zero, List.set_cons_succ]))))
    refine linD_store rfl rfl (by rfl) (fun m => ?_)
    have h1 := hrr m
    have h2 := hff m
    have HZm := HZ m
    clear hrr hff HZ
    generalize W.drew.drewN m = V at *
    refine ⟨_, ?_, (HZm 0).out.2.2, ?_⟩
    · go_simp
    clear h1 h2
    refine linD_nil (fun n2 => ?_)
    have HZn := HZm n2
    generalize (V.setCell ⟨W1.heap.size, 0, none⟩ (.bool false)).drewN n2 = X at *
    clear HZm
    have hlt := (Array.getElem?_eq_some_iff.1 HZn.out.2.1).1
    have hfin := HH.out.2.putObj (s := ()) (.deferred none) ⟨⟨HZn.out.1.1, HZn.out.1.2.1⟩, HZn.out.1.2.2⟩ (by omega) HZn.out.2.1 rfl
    have cr := hfin.1.2.cell 0
    go_wp2_with fail
    all_goals refine marks_ret HZn.out.2.1 (by simp [results, Try.results43, go_sem, cr]) ⟨rfl, hfin.2⟩
  case stop => rintro k W hk hF hdef; exact hF.elim
end Go.Proofs.Ytgnpoehcmlmajaa
namespace Go.Proofs.Ytgnpoehcmlmajaa
open Go.RowKit Go.Shelf
set_option linter.unusedVariables false

attribute [local go_sem] Oper.semAt_some
set_option maxRecDepth 100000 in
set_option maxHeartbeats 4000000 in
theorem inblocks_edge {w : World} {g p q n : Nat} {ws : List Nat} (h : Ar w g p q ws (List.replicate n false)) (hn : ws.length = n) (hbad : ws.getD 15 0 < 16 ∨ (16 ≤ ws.getD 15 0 ∧ ws.length < ws.getD 15 0)) :
    Calls Try.prog 43 #[.pointer (some ⟨g, 0, none⟩)] w fun e w' => e = .returned (.bool false) ∧ Kept [q] w w' := by
  obtain ⟨W1, hW1⟩ : ∃ W1, w.alloc (.cells #[.pointer (some ⟨g, 0, none⟩)] 25) = W1 := ⟨_, rfl⟩
  have hb1 : Below w.heap.size w W1 := by rw [← hW1]; exact (Below.refl _ _).alloc (Nat.le_refl _) _
  have b1 : Blk W1 w.heap.size 25 #[.pointer (some ⟨g, 0, none⟩)] := by rw [← hW1]; exact Blk.new _ _ _
  have s1 : W1.heap.size = w.heap.size + 1 := by rw [← hW1]; simp
  obtain ⟨W2, hW2⟩ : ∃ W2, W1.alloc (.cells #[.bool false] 4) = W2 := ⟨_, rfl⟩
  have hb12 : Below W1.heap.size W1 W2 := by rw [← hW2]; exact (Below.refl _ _).alloc (Nat.le_refl _) _
  have b2 : Blk W2 W1.heap.size 4 #[.bool false] := by rw [← hW2]; exact Blk.new _ _ _
  have b1' : Blk W2 w.heap.size 25 #[.pointer (some ⟨g, 0, none⟩)] := (hb12.block _ b1.lt).trans b1
  have hb2 : Below w.heap.size w W2 := hb1.trans (hb12.mono hb1.size)
  have hA2 := h.later hb2
  have hed := edge_any hA2
  have cb : W2.cell? ⟨w.heap.size, 0, none⟩ = some (.pointer (some ⟨g, 0, none⟩)) := b1'.cell 0
  have cg := hA2.c0
  have H := Lib.hid (And.intro hb2 (And.intro b1' (And.intro b2 (And.intro hA2 (And.intro True.intro (And.intro True.intro (And.intro True.intro (And.intro s1 (And.intro hn h)))))))))
  have hhi := h.hi
  have HHI := Lib.hid hhi
  have hsmw := h.sml
  clear h hn hb1 b1 hb12 b2 b1' hb2 hA2 s1 hhi
  generalize hee : ws.getD 15 0 = e at *
  have HE := Lib.hid hee
  clear hee
  have S0 : ∀ w9, w9 = W2.drew → w9.cell? ⟨w.heap.size, 0, none⟩ = some (.pointer (some ⟨g, 0, none⟩)) := fun w9 h => by subst h; exact cb
  have S1 : ∀ w9, w9 = W2.drew → w9.cell? ⟨g, 0, none⟩ = some (.slice (some ⟨p, 0, none⟩) ws.length ws.length) := fun w9 h => by subst h; exact cg
  have S2 : ∀ w9, w9 = W2.drew → Calls Try.prog 52 #[.pointer (some ⟨g, 0, none⟩)] w9 fun e' w' => e' = .returned (.int .i64 (e : Int)) ∧ w' = W2.drew := fun w9 h => by
    subst h
    have hh := edge_any H.out.2.2.2.1.drew
    rw [HE.out] at hh
    exact hh.mono fun e' w' h => ⟨h.1, h.2.symm⟩
  rcases hbad with hlow | ⟨hnl, hhigh⟩
  · have de : decide ((e : Int) < 16) = true := decide_eq_true (by omega)
    have de2 : decide (e < 16) = true := decide_eq_true hlow
    refine calls_of_wp_marks Try.func43 rfl ?_
    simp only [Try.ntmps43, List.size_toArray, List.length_cons, List.length_nil, Nat.reduceAdd, Nat.reduceSub, Array.replicate_succ, Array.replicate_zero, List.push_toArray, List.append_toArray, List.nil_append, List.cons_append]
    go_wp2_with fail
    refine wp_region_lin (fun w' => w' = W2.drew) (by kernel_rfl) (by kernel_rfl) rfl ?_
    (repeat (first | (refine lin_off (by rfl) ?_; (try simp only [Act.put, List.setIfInBounds_toArray, List.set_cons_zero, List.set_cons_succ])) | (refine lin_op (v := ?_) (by rfl) (fun w9 hS9 => ?_) ?_; rotate_left; (focus ((have k0 := S0 w9 hS9; have k1 := S1 w9 hS9; (try dsimp only at hS9); go_simp; (try go_bits)) <;> with_reducible rfl)); (try simp only [Act.put, List.setIfInBounds_toArray, List.set_cons_zero, List.set_cons_succ])) | (refine lin_fn (f := 52) (by rfl) rfl rfl (enters_of Try.func52 (by kernel_rfl) rfl) (fun w9 hS9 => S2 w9 hS9) ?_ ?_; (focus (simp [Act.eval]; done)); (try simp only [Act.put, List.setIfInBounds_toArray, List.set_cons_zero, List.set_cons_succ]))))
    refine lin_nil (fun w8 hS8 => ?_)
    subst hS8
    clear S0 S1 S2
    have bR : Blk W2.drew W1.heap.size 4 #[.bool false] := H.out.2.2.1
    have crb := bR.cell 0
    have frb := bR.free 0
    go_wp2_with fail
    have bR9 : Blk ((W2.setCell ⟨W1.heap.size, 0, none⟩ (.bool false)).drew) W1.heap.size 4 #[.bool false] := (H.out.2.2.1).set 0 (.bool false)
    have hk9 : Kept [q] w ((W2.setCell ⟨W1.heap.size, 0, none⟩ (.bool false)).drew) := ((Kept.of_below [q] H.out.1).setCell (p := ⟨W1.heap.size, 0, none⟩) (.inr (by have := H.out.2.2.2.2.2.2.2.1; show w.heap.size ≤ W1.heap.size; omega)) (.bool false)).drew
    refine marks_cells (v := .bool false) [] _ List.nodup_nil (by simp) fun w' g1 g2 g3 g4 g5 => ?_
    have hK : Kept [] ((W2.setCell ⟨W1.heap.size, 0, none⟩ (.bool false)).drew) w' := ⟨g2, g3, g4, by rw [g1]; exact Nat.le_refl _, fun k _ hk => g5 k hk⟩
    have cr2 := (bR9.kept hK (by simp)).cell 0
    exact ⟨by simp [results, Try.results43, go_sem, cr2], rfl, hk9.trans (hK.more (by simp))⟩
  · have de : decide ((e : Int) < 16) = false := decide_eq_false (by omega)
    have de2 : decide (e < 16) = false := decide_eq_false (by omega)
    have de3 : decide ((ws.length : Int) < (e : Int)) = true := decide_eq_true (by omega)
    have de4 : decide (ws.length < e) = true := decide_eq_true hhigh
    refine calls_of_wp_marks Try.func43 rfl ?_
    simp only [Try.ntmps43, List.size_toArray, List.length_cons, List.length_nil, Nat.reduceAdd, Nat.reduceSub, Array.replicate_succ, Array.replicate_zero, List.push_toArray, List.append_toArray, List.nil_append, List.cons_append]
    go_wp2_with fail
    refine wp_region_lin (fun w' => w' = W2.drew) (by kernel_rfl) (by kernel_rfl) rfl ?_
    (repeat (first | (refine lin_off (by rfl) ?_; (try simp only [Act.put, List.setIfInBounds_toArray, List.set_cons_zero, List.set_cons_succ])) | (refine lin_op (v := ?_) (by rfl) (fun w9 hS9 => ?_) ?_; rotate_left; (focus ((have k0 := S0 w9 hS9; have k1 := S1 w9 hS9; (try dsimp only at hS9); go_simp; (try go_bits)) <;> with_reducible rfl)); (try simp only [Act.put, List.setIfInBounds_toArray, List.set_cons_zero, List.set_cons_succ])) | (refine lin_fn (f := 52) (by rfl) rfl rfl (enters_of Try.func52 (by kernel_rfl) rfl) (fun w9 hS9 => S2 w9 hS9) ?_ ?_; (focus (simp [Act.eval]; done)); (try simp only [Act.put, List.setIfInBounds_toArray, List.set_cons_zero, List.set_cons_succ]))))
    refine lin_nil (fun w8 hS8 => ?_)
    subst hS8
    clear S0 S1 S2
    have bR : Blk W2.drew W1.heap.size 4 #[.bool false] := H.out.2.2.1
    have crb := bR.cell 0
    have frb := bR.free 0
    go_wp2_with fail
    have bR9 : Blk ((W2.setCell ⟨W1.heap.size, 0, none⟩ (.bool false)).drew) W1.heap.size 4 #[.bool false] := (H.out.2.2.1).set 0 (.bool false)
    have hk9 : Kept [q] w ((W2.setCell ⟨W1.heap.size, 0, none⟩ (.bool false)).drew) := ((Kept.of_below [q] H.out.1).setCell (p := ⟨W1.heap.size, 0, none⟩) (.inr (by have := H.out.2.2.2.2.2.2.2.1; show w.heap.size ≤ W1.heap.size; omega)) (.bool false)).drew
    refine marks_cells (v := .bool false) [] _ List.nodup_nil (by simp) fun w' g1 g2 g3 g4 g5 => ?_
    have hK : Kept [] ((W2.setCell ⟨W1.heap.size, 0, none⟩ (.bool false)).drew) w' := ⟨g2, g3, g4, by rw [g1]; exact Nat.le_refl _, fun k _ hk => g5 k hk⟩
    have cr2 := (bR9.kept hK (by simp)).cell 0
    exact ⟨by simp [results, Try.results43, go_sem, cr2], rfl, hk9.trans (hK.more (by simp))⟩
end Go.Proofs.Ytgnpoehcmlmajaa
namespace Go.Proofs.Ytgnpoehcmlmajaa
open Go.RowKit Go.Shelf
set_option linter.unusedVariables false

theorem lies_pre {w : World} {a : Option Addr} {l : List Nat} (h : Lies w a l) (m : Nat) : Lies w a (l.take m) := by
  rcases h with rfl | ⟨b, o, rfl, hb, hc⟩
  · exact .inl (by simp)
  · refine .inr ⟨b, o, rfl, hb, fun i hi => ?_⟩
    have h1 : i < m ∧ i < l.length := by rw [List.length_take] at hi; omega
    rw [hc i h1.2]
    simp [h1.1]
theorem wbytes_first {ws : List Nat} (h : 0 < ws.length) : (wbytes ws).take 4 = wbytes [ws.getD 0 0] := by
  have := wbytes_drop ws 0 h
  rw [Nat.mul_zero, List.drop_zero] at this
  rw [this]
  simp [wbytes]

theorem wrap_u64 {n len : Nat} (h : len = 4 * n) (hn : n ≤ 16384) : IntKind.u64.wrap (4 * (n : Int)) = (len : Int) := by
  have e : (4 * (n : Int)) % 18446744073709551616 = 4 * (n : Int) := Int.emod_eq_of_lt (by omega) (by omega)
  subst h
  simp only [IntKind.wrap, show IntKind.u64.bits = 64 from rfl, show IntKind.u64.signed = false from rfl, Bool.false_and, Bool.false_eq_true, if_false]
  rw [show (2 ^ 64 : Int) = 18446744073709551616 from rfl, e]
  omega
theorem wrap_u64s {n : Nat} (hn : n ≤ 70000) : IntKind.u64.wrap (n : Int) = (n : Int) := by
  have e : (n : Int) % 18446744073709551616 = (n : Int) := Int.emod_eq_of_lt (by omega) (by omega)
  simp only [IntKind.wrap, show IntKind.u64.bits = 64 from rfl, show IntKind.u64.signed = false from rfl, Bool.false_and, Bool.false_eq_true, if_false]
  rw [show (2 ^ 64 : Int) = 18446744073709551616 from rfl, e]
/-- What may be decoded. -/
structure Dec (ws : List Nat) (B : List Bl) (L : Nat → List Nat) : Prop where
  lo : 64 ≤ ws.length
  hi : ws.length ≤ 16384
  sml : ∀ x ∈ ws, x < 4294967296
  first : ws.getD 0 0 = ws.length
  chain : Chain ws 16 B
  edge : ws.getD 15 0 ≤ ws.length
  e16 : 16 ≤ ws.getD 15 0
  behind : ∀ i, ws.getD 15 0 ≤ i → i < ws.length → ws.getD i 0 = 0
  fl : Fl ws (begK B ws.length B.length) L
  free : ∀ b ∈ B, b.t = false → b.x ∈ L b.c
  nought : ∀ b ∈ B, b.t = false → ∀ i, b.x < i → i < b.x + 2 ^ b.c → ws.getD i 0 = 0
  four : Lead ws (begK B ws.length B.length) (ws.getD 5 0 : Nat)
  six : Lead ws (begK B ws.length B.length) (ws.getD 6 0 : Nat)

set_option maxRecDepth 100000 in
set_option maxHeartbeats 4000000 in
theorem decode_new {ws : List Nat} {B : List Bl} {L : Nat → List Nat} (h : Dec ws B L) (b len cap : Nat) (hl : len = 4 * ws.length) (hcap : len ≤ cap) (w : World) (hL : Lies w (some ⟨b, 0, none⟩) (wbytes ws)) :
    Calls Try.prog 9 #[.slice (some ⟨b, 0, none⟩) len cap] w fun e w' => ∃ ga pp qq, e = .returned (.tuple #[.pointer (some ⟨ga, 0, none⟩), .int .i64 0]) ∧ Ar w' ga pp qq ws (begK B ws.length B.length) ∧ Below w.heap.size w w' ∧ w.heap.size ≤ ga ∧ w.heap.size ≤ pp ∧ w.heap.size ≤ qq := by
  have hlo := h.lo
  have hhi := h.hi
  have hrd := read_any (some ⟨b, 0, none⟩) 4 cap (wbytes [ws.getD 0 0]) w (by rw [wbytes_len]; rfl) (by omega) (by rw [← wbytes_first (by omega)]; exact lies_pre hL 4)
  have d1 : decide (((len : Nat) : Int) < 64) = false := decide_eq_false (by omega)
  have d2 : decide (len < 64) = false := decide_eq_false (by omega)
  have h4c : 4 ≤ cap := by omega
  have h4i : (4 : Int) ≤ (cap : Int) := by omega
  have H := Lib.hid (And.intro h (And.intro hl (And.intro hcap hL)))
  clear h hl hcap hL
  have HB := Lib.hid (And.intro hlo hhi)
  clear hlo hhi
  go_enter Try.func9, Try.ntmps9
  go_wp2_with fail
  refine hrd.mono ?_
  rintro e w1 ⟨r, rfl, hr, hR, hb1⟩
  clear hrd
  have hu := u32_any hR (wbytes_bys _) (by rw [wbytes_len]; simp)
  rw [show (0 : Nat) = 4 * 0 from rfl, came_word (ws := [ws.getD 0 0]) (k := 0) (by simp), show ([ws.getD 0 0] : List Nat).getD 0 0 = ws.length from H.out.1.first, pile_word (by have := HB.out.2; omega)] at hu
  have HR := Lib.hid (And.intro hr (And.intro hR hb1))
  have hmh := fun w' => mayhave_any ((ws.length : Nat) : Int) w'
  have hmv : (decide ((64 : Int) ≤ (ws.length : Int)) && decide ((ws.length : Int) ≤ 16384)) = true := by have := HB.out; simp; omega
  rw [hmv] at hmh
  have hw1 : IntKind.u64.wrap (4 * ((ws.length : Nat) : Int)) = ((len : Nat) : Int) := wrap_u64 H.out.2.1 HB.out.2
  have hw2 : IntKind.u64.wrap ((ws.length : Nat) : Int) = ((ws.length : Nat) : Int) := wrap_u64s (by have := HB.out.2; omega)
  have hw3 : IntKind.u64.wrap ((len : Nat) : Int) = ((len : Nat) : Int) := wrap_u64s (by have := HB.out.2; have := H.out.2.1; omega)
  have d3 : decide (((len : Nat) : Int) < ((len : Nat) : Int)) = false := by simp
  have hw5 : wrap64 ((ws.length : Nat) : Int) = ((ws.length : Nat) : Int) := w64s (by have := HB.out; omega)
  clear hr hR hb1 hmv
  go_wp2_with fail
  refine hu.mono ?_
  rintro e w2 ⟨rfl, hA⟩
  clear hu
  have hb2 : Below w.heap.size w w2 := hA.below HR.out.2.2 HR.out.2.2.size (Nat.le_of_lt HR.out.1)
  clear hA
  go_wp2_with fail
  refine (hmh w2).mono ?_
  rintro e w3 ⟨rfl, rfl⟩
  have hwo := wordsof_any (some ⟨b, 0, none⟩) len cap ws.length ws rfl (by rw [H.out.2.1]) HB.out.2 H.out.1.sml w2 (H.out.2.2.2.kept hb2)
  have H2 := Lib.hid hb2
  clear hb2 hmh
  go_wp2_with fail
  refine hwo.mono ?_
  rintro e w4 ⟨pp, rfl, hp4, hW4, hb4⟩
  clear hwo
  have hov := over_any pp ws.length HB.out.2 w4
  have H4 := Lib.hid (And.intro hp4 (And.intro hW4 hb4))
  clear hp4 hW4 hb4
  go_wp2_with fail
  refine hov.mono ?_
  rintro e w5 ⟨rfl, h5⟩
  clear hov
  have hl4 : w2.heap.size ≤ w4.heap.size := H4.out.2.2.size
  have hl2 := H2.out.size
  have hpl := H4.out.2.1.lt
  obtain ⟨g, hg⟩ : ∃ g, w4.heap.size + 1 = g := ⟨_, rfl⟩
  have k5 : Below w4.heap.size w4 w5 := by rw [h5]; exact ((Below.refl _ _).alloc (Nat.le_refl _) _).alloc (by simp) _
  have A5 : Ar w5 g pp w4.heap.size ws (List.replicate ws.length false) := by
    refine ⟨?_, ?_, ?_, by simp, HB.out.1, HB.out.2, H.out.1.sml⟩
    · have := Blk.new (w4.alloc (.cells (bcs (List.replicate ws.length false)) 4)) 65 #[.slice (some ⟨pp, 0, none⟩) ws.length ws.length, .slice (some ⟨w4.heap.size, 0, none⟩) ws.length ws.length]
      rw [World.size_alloc, hg] at this
      rw [h5]; exact this
    · rw [h5]; exact (H4.out.2.1.alloc _).alloc _
    · rw [h5]; exact (Blk.new w4 _ _).alloc _
  have b5 : Below w.heap.size w w5 := H2.out.trans ((H4.out.2.2.trans (k5.mono hl4)).mono hl2)
  have hib := inblocks_any A5 rfl H.out.1.chain H.out.1.edge H.out.1.e16 H.out.1.behind
  have H5 := Lib.hid (And.intro b5 (And.intro hl4 hl2))
  have HG := Lib.hid (show w.heap.size ≤ g ∧ w.heap.size ≤ pp ∧ w.heap.size ≤ w4.heap.size from ⟨by omega, by have := H4.out.1; omega, by omega⟩)
  rw [hg]
  clear h5 hpl hl4 hl2 k5 A5 b5 hw1 hw2 hw3 d1 d2 d3 h4c h4i
  go_wp2_with fail
  refine hib.mono ?_
  rintro e w6 ⟨rfl, A6, k6⟩
  clear hib
  have hil := inlists_any A6 H.out.1.fl H.out.1.chain H.out.1.edge H.out.1.free H.out.1.nought
  have b6 : Below w.heap.size w w6 := H5.out.1.trans ⟨k6.os, k6.tape, k6.output, k6.size, fun k hk => k6.block k (by have := H5.out.1.size; omega) (by simp; have := H5.out.2; omega)⟩
  have H6 := Lib.hid b6
  clear A6 k6 b6
  go_wp2_with fail
  refine hil.mono ?_
  rintro e w7 ⟨rfl, A7, k7⟩
  clear hil
  have b7 : Below w.heap.size w w7 := H6.out.trans ⟨k7.os, k7.tape, k7.output, k7.size, fun k hk => k7.block k (by have := H6.out.size; omega) (by simp)⟩
  have l5 := lead_ok A7 H.out.1.four
  have hs5 := H.out.1.four.small HB.out.2
  have hs6 := H.out.1.six.small HB.out.2
  have c0 := A7.c0
  have c5 := A7.word (i := 5) (by have := HB.out.1; omega)
  have H7 := Lib.hid (And.intro A7 (And.intro b7 (fun n => lead_ok (A7.drewN n) H.out.1.six)))
  have c6 := A7.word (i := 6) (by have := HB.out.1; omega)
  clear A7 b7 k7
  generalize ws.getD 5 0 = x5 at *
  generalize ws.getD 6 0 = x6 at *
  have hw5 : wrap64 (x5 : Int) = (x5 : Int) := w64s (by omega)
  have hw6 : wrap64 (x6 : Int) = (x6 : Int) := w64s (by omega)
  have hlen := HB.out.1
  have e5 : (5 : Nat) < ws.length := by omega
  have e6 : (6 : Nat) < ws.length := by omega
  have e5i : (5 : Int) < (ws.length : Int) := by omega
  have e6i : (6 : Int) < (ws.length : Int) := by omega
  have HS := Lib.hid (And.intro hs5 (And.intro hs6 hlen))
  clear hs5 hs6 hlen
  go_wp2_with fail
  refine l5.mono ?_
  rintro e w8 ⟨rfl, n8, rfl⟩
  clear l5
  have l6 := H7.out.2.2 n8
  go_wp2_with fail
  refine l6.mono ?_
  rintro e w9 ⟨rfl, n9, rfl⟩
  clear l6
  go_wp2
  go_ret2
  exact ⟨_, _, _, rfl, H7.out.1.drewN (n8 + n9), H7.out.2.1.trans ⟨rfl, rfl, rfl, Nat.le_refl _, fun _ _ => rfl⟩, HG.out⟩
theorem decode_any {ws : List Nat} {B : List Bl} {L : Nat → List Nat} (h : Dec ws B L) (b len cap : Nat) (hl : len = 4 * ws.length) (hcap : len ≤ cap) (w : World) (hL : Lies w (some ⟨b, 0, none⟩) (wbytes ws)) :
    Calls Try.prog 9 #[.slice (some ⟨b, 0, none⟩) len cap] w fun e w' => ∃ ga pp qq, e = .returned (.tuple #[.pointer (some ⟨ga, 0, none⟩), .int .i64 0]) ∧ Ar w' ga pp qq ws (begK B ws.length B.length) ∧ Below w.heap.size w w' :=
  (decode_new h b len cap hl hcap w hL).mono fun _ _ ⟨ga, pp, qq, h1, h2, h3, _⟩ => ⟨ga, pp, qq, h1, h2, h3⟩
end Go.Proofs.Ytgnpoehcmlmajaa
