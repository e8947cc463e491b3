/-
  Decode, in parts: block behind block up to the edge (inBlocks). Nothing here is a statement of the document.
-/
import Derived.Test.YtgnpoehcmlmajaaArpD
namespace Go.Proofs.Ytgnpoehcmlmajaa
open Go.RowKit Go.Shelf
set_option linter.unusedVariables false

/-- Where the first k blocks begin. -/
def begK (B : List Bl) (n : Nat) : Nat → List Bool
  | 0 => List.replicate n false
  | k + 1 => (begK B n k).set (B.getD k Bl.zero).x true
theorem begK_len (B : List Bl) (n : Nat) : ∀ k, (begK B n k).length = n
  | 0 => by simp [begK]
  | k + 1 => by simp [begK, begK_len B n k]
theorem kept_own {β : Type} {S : List Nat} {w : World} {B : Nat} (hB : w.heap.size ≤ B) : OwnFrom B (fun (_ : β) W => Kept S w W) := fun _ X Y row hs hg hr => hs.grown hg (fun k hk => .inr (Nat.le_trans hB (hr k hk).1))
theorem own_ar {β : Type} (B g p q : Nat) (ws : List Nat) (f : β → List Bool) : OwnFrom B (fun s W => Ar W g p q ws (f s)) := fun s X Y row h hg hr =>
  ⟨own_blk (β := Unit) _ _ _ (fun _ => _) () X Y row h.box hg hr, own_blk (β := Unit) _ _ _ (fun _ => _) () X Y row h.wds hg hr, own_blk (β := Unit) _ _ _ (fun _ => _) () X Y row h.bgs hg hr, h.len, h.lo, h.hi, h.sml⟩

attribute [local go_sem] Oper.semAt_some
set_option maxRecDepth 100000 in
set_option maxHeartbeats 4000000 in
theorem inblocks_any {w : World} {g p q n : Nat} {ws : List Nat} {B : List Bl} (h : Ar w g p q ws (List.replicate n false)) (hn : ws.length = n) (hC : Chain ws 16 B) (he : ws.getD 15 0 ≤ ws.length) (h16 : 16 ≤ ws.getD 15 0) (hz : ∀ i, ws.getD 15 0 ≤ i → i < ws.length → ws.getD i 0 = 0) :
    Calls Try.prog 43 #[.pointer (some ⟨g, 0, none⟩)] w fun e w' => e = .returned (.bool true) ∧ Ar w' g p q ws (begK B n B.length) ∧ Kept [q] w w' := by
  obtain ⟨W1, hW1⟩ : ∃ W1, w.alloc (.cells #[.pointer (some ⟨g, 0, none⟩)] 25) = W1 := ⟨_, rfl⟩
  have hb1 : Below w.heap.size w W1 := by rw [← hW1]; exact (Below.refl _ _).alloc (Nat.le_refl _) _
  have b1 : Blk W1 w.heap.size 25 #[.pointer (some ⟨g, 0, none⟩)] := by rw [← hW1]; exact Blk.new _ _ _
  have s1 : W1.heap.size = w.heap.size + 1 := by rw [← hW1]; simp
  obtain ⟨W2, hW2⟩ : ∃ W2, W1.alloc (.cells #[.bool false] 4) = W2 := ⟨_, rfl⟩
  have hb12 : Below W1.heap.size W1 W2 := by rw [← hW2]; exact (Below.refl _ _).alloc (Nat.le_refl _) _
  have b2 : Blk W2 W1.heap.size 4 #[.bool false] := by rw [← hW2]; exact Blk.new _ _ _
  have b1' : Blk W2 w.heap.size 25 #[.pointer (some ⟨g, 0, none⟩)] := (hb12.block _ b1.lt).trans b1
  have hb2 : Below w.heap.size w W2 := hb1.trans (hb12.mono hb1.size)
  have hA2 := h.later hb2
  have hed := edge_any hA2
  have cb : W2.cell? ⟨w.heap.size, 0, none⟩ = some (.pointer (some ⟨g, 0, none⟩)) := b1'.cell 0
  have cg := hA2.c0
  have H := Lib.hid (And.intro hb2 (And.intro b1' (And.intro b2 (And.intro hA2 (And.intro hC (And.intro he (And.intro hz (And.intro s1 (And.intro hn h)))))))))
  have hhi := h.hi
  have de : decide (((ws.getD 15 0 : Nat) : Int) < 16) = false := decide_eq_false (by omega)
  have de2 : decide (ws.getD 15 0 < 16) = false := decide_eq_false (by omega)
  have de3 : decide ((ws.length : Int) < ((ws.getD 15 0 : Nat) : Int)) = false := decide_eq_false (by omega)
  have de4 : decide (ws.length < ws.getD 15 0) = false := decide_eq_false (by omega)
  have HHI := Lib.hid hhi
  clear h hC he h16 hz hn hb1 b1 hb12 b2 b1' hb2 hA2 s1 hhi
  generalize hee : ws.getD 15 0 = e at *
  have HE := Lib.hid hee
  clear hee
  have S0 : ∀ w9, w9 = W2.drew → w9.cell? ⟨w.heap.size, 0, none⟩ = some (.pointer (some ⟨g, 0, none⟩)) := fun w9 h => by subst h; exact cb
  have S1 : ∀ w9, w9 = W2.drew → w9.cell? ⟨g, 0, none⟩ = some (.slice (some ⟨p, 0, none⟩) ws.length ws.length) := fun w9 h => by subst h; exact cg
  have S2 : ∀ w9, w9 = W2.drew → Calls Try.prog 52 #[.pointer (some ⟨g, 0, none⟩)] w9 fun e' w' => e' = .returned (.int .i64 (e : Int)) ∧ w' = W2.drew := fun w9 h => by
    subst h
    have hh := edge_any H.out.2.2.2.1.drew
    rw [HE.out] at hh
    exact hh.mono fun e' w' h => ⟨h.1, h.2.symm⟩
  refine calls_of_wp_marks Try.func43 rfl ?_
  simp only [Try.ntmps43, List.size_toArray, List.length_cons, List.length_nil, Nat.reduceAdd, Nat.reduceSub, Array.replicate_succ, Array.replicate_zero, List.push_toArray, List.append_toArray, List.nil_append, List.cons_append]
  go_wp2_with fail
  refine wp_region_lin (fun w' => w' = W2.drew) (by kernel_rfl) (by kernel_rfl) rfl ?_
  (repeat (first | (refine lin_off (by rfl) ?_; (try simp only [Act.put, List.setIfInBounds_toArray, List.set_cons_zero, List.set_cons_succ])) | (refine lin_op (v := ?_) (by rfl) (fun w9 hS9 => ?_) ?_; rotate_left; (focus ((have k0 := S0 w9 hS9; have k1 := S1 w9 hS9; (try dsimp only at hS9); go_simp; (try go_bits)) <;> with_reducible rfl)); (try simp only [Act.put, List.setIfInBounds_toArray, List.set_cons_zero, List.set_cons_succ])) | (refine lin_fn (f := 52) (by rfl) rfl rfl (enters_of Try.func52 (by kernel_rfl) rfl) (fun w9 hS9 => S2 w9 hS9) ?_ ?_; (focus (simp [Act.eval]; done)); (try simp only [Act.put, List.setIfInBounds_toArray, List.set_cons_zero, List.set_cons_succ]))))
  refine lin_nil (fun w8 hS8 => ?_)
  subst hS8
  clear S0 S1 S2
  go_wp2_with fail
  refine (blocks_any (some ⟨g, 0, none⟩) W2.drew).mono ?_
  rintro e3 W3 ⟨rfl, b3, hb3, hs3⟩
  have hA3 : Ar W3 g p q ws (List.replicate n false) := H.out.2.2.2.1.drew.later hb3
  have hbx3 : Blk W3 w.heap.size 25 #[.pointer (some ⟨g, 0, none⟩)] := (hb3.block _ (by have := H.out.2.1.lt; exact this)).trans H.out.2.1
  have hbr3 : Blk W3 W1.heap.size 4 #[.bool false] := (hb3.block _ (by have := H.out.2.2.1.lt; exact this)).trans H.out.2.2.1
  have hB3 : Below w.heap.size w W3 := H.out.1.drew.trans (Below.mono hb3 (by simpa using H.out.1.size))
  have hseq := blocks_low (S := [q]) hA3.aw H.out.2.2.2.2.1 (by rw [HE.out]; exact H.out.2.2.2.2.2.1) b3 (by simp; exact hA3.gq) (by simp; exact hA3.pq) (by simp; have := H.out.2.2.2.1.bgs.lt; omega)
  have H3 := Lib.hid (And.intro hA3 (And.intro hbx3 (And.intro hbr3 (And.intro hB3 (And.intro b3 hs3)))))
  clear hb3 b3 hs3 hA3 hbx3 hbr3 hB3 hed cb cg
  go_wp2_with fail
  refine wp_range_low (S := [q]) (N := B.length) (enc := encB B) none (fun _ => rfl) rfl (fun _ _ => by simp [go_sem, enters_of Try.func82 (by kernel_rfl) rfl]) hseq (fun k hk => by simp at hk; rw [hk]; exact H3.out.1.bgs.lt)
    (fun k W => (Ar W g p q ws (begK B n k) ∧ Blk W w.heap.size 25 #[.pointer (some ⟨g, 0, none⟩)] ∧ Blk W W1.heap.size 4 #[.bool false]) ∧ Kept [q] w W)
    (fun _ _ => False) ?hI ?hIx ⟨⟨H3.out.1, H3.out.2.1, H3.out.2.2.1⟩, Kept.of_below [q] H3.out.2.2.2.1⟩
    (fun k a' W => ∃ u5 : Value, a' = { tmps := #[.pointer (some ⟨g, 0, none⟩), .pointer (some ⟨w.heap.size, 0, none⟩), .pointer (some ⟨W1.heap.size, 0, none⟩), .int .i64 ((B.getD k Bl.zero).x : Int), .int .u32 ((hdN (B.getD k Bl.zero).c (B.getD k Bl.zero).t : Nat) : Int), .pointer (some ⟨g, 0, none⟩), .int .i64 (e : Int), .bool false, .bool false, .pointer (some ⟨g, 0, none⟩), .int .i64 (e : Int), .pointer (some ⟨g, 0, none⟩), .pointer (some ⟨g, 0, none⟩), .pointer (some ⟨g, 0, none⟩), .slice (some ⟨p, 0, none⟩) ws.length ws.length, .int .i64 (ws.length : Int), .bool false, .bool false, .pointer (some ⟨g, 0, none⟩), .func (.func 82) #[] #[.pointer (some ⟨W2.heap.size, 0, none⟩)], .int .i64 ((B.getD k Bl.zero).x : Int), .int .u32 ((hdN (B.getD k Bl.zero).c (B.getD k Bl.zero).t : Nat) : Int), undef, undef, undef, undef, undef, undef, undef, undef, undef, undef, undef, undef, undef, undef, undef, undef, undef, undef, undef, undef, undef, undef, undef, undef, undef, undef], defers := [] })
    ?hAx ?assign ?body ?done ?stop
  case hI => exact OwnFrom.and (OwnFrom.and (own_ar _ _ _ _ _ _) (OwnFrom.and (own_blk _ _ _ _) (own_blk _ _ _ _))) (kept_own H3.out.2.2.2.1.size)
  case hIx => exact fun s X Y row hs hg hr => hs
  case hAx => exact fun k a' s X Y row hs hg hr => hs
  case assign =>
    rintro k X K hk hX hI hK
    simp only [List.zip_toArray, List.zip_cons_cons, List.zip_nil_right, List.zip_nil_left, List.size_toArray, List.foldl_toArray', List.foldl_toArray, List.foldl_cons, List.foldl_nil, List.setIfInBounds_toArray, List.set_cons_zero, List.set_cons_succ, encB]
    generalize B.getD k Bl.zero = bb at *
    gi_wp2
    exact hK _ _ (KL.refl _ _ _) hI ⟨undef, rfl⟩
  case body =>
    rintro k a' W ⟨⟨dA, dB, dR⟩, dk⟩ ⟨u5, rfl⟩ hk hWs
    have hbk : B.getD k Bl.zero = B[k] := by simp [hk]
    obtain ⟨g1, g2, g3, g4, g5⟩ := chain_get H.out.2.2.2.2.1 (Nat.le_refl _) (List.getElem?_eq_getElem hk)
    rw [HE.out] at g4
    have hbeg : begK B n (k + 1) = (begK B n k).set (B.getD k Bl.zero).x true := rfl
    rw [hbk] at hbeg ⊢
    have hp5 := pow5 g1
    have hhr := fun w' => (hright_any B[k].c B[k].t g1 w').mono (R' := fun e w2 => e = .returned (.bool true) ∧ ∃ n, w2 = w'.drewN n) fun e w2 h => ⟨h.1, 0, h.2.symm⟩
    have hsz := fun w' => (hsize_any B[k].c B[k].t g1 w').mono (R' := fun e w2 => e = .returned (.int .i64 ((2 ^ B[k].c : Nat) : Int)) ∧ ∃ n, w2 = w'.drewN n) fun e w2 h => ⟨h.1, 0, h.2.symm⟩
    generalize B[k] = b at *
    generalize hdN b.c b.t = hv at *
    generalize b.x = x at *
    generalize 2 ^ b.c = z at *
    have hhi := HHI.out
    have hhe := H.out.2.2.2.2.2.1
    obtain ⟨T, hT⟩ : ∃ T : World → Prop, T = fun w' => Ar w' g p q ws (begK B n k) ∧ Blk w' w.heap.size 25 #[.pointer (some ⟨g, 0, none⟩)] := ⟨_, rfl⟩
    have hTd : ∀ w' n, T w' → T (w'.drewN n) := by rw [hT]; exact fun w' n h => ⟨h.1.drewN n, h.2⟩
    have hT0 : T W.drew := by rw [hT]; exact ⟨dA.drew, dB⟩
    have q0 : ∀ w', T w' → w'.cell? ⟨w.heap.size, 0, none⟩ = some (.pointer (some ⟨g, 0, none⟩)) := by rw [hT]; exact fun w' h' => h'.2.cell 0
    have hed := fun w' (h' : T w') => (edge_any (show Ar w' g p q ws (begK B n k) by rw [hT] at h'; exact h'.1)).mono (R' := fun e' w2 => e' = .returned (.int .i64 (e : Int)) ∧ ∃ n, w2 = w'.drewN n) fun e' w2 h => ⟨by rw [← HE.out]; exact h.1, 0, h.2.symm⟩
    have hhr2 := fun w' (_ : T w') => hhr w'
    have hsz2 := fun w' (_ : T w') => hsz w'
    have d1 : decide ((e : Int) < (x : Int) + (z : Int)) = false := decide_eq_false (by omega)
    have d2 : decide (e < x + z) = false := decide_eq_false (by omega)
    have hTT : ∀ m, Ar (W.drew.drewN m) g p q ws (begK B n k) ∧ Blk (W.drew.drewN m) w.heap.size 25 #[.pointer (some ⟨g, 0, none⟩)] ∧ Blk (W.drew.drewN m) W1.heap.size 4 #[.bool false] := fun m => ⟨dA.drew.drewN m, dB, dR⟩
    have hKK : ∀ n, Kept [q] W (W.drew.drewN n) := fun n => ((Kept.refl [q] W).drew).drewN n
    have hKw : ∀ n, Kept [q] w (W.drew.drewN n) := fun n => (dk.drew).drewN n
    have HT := Lib.hid (And.intro hTT (And.intro hKK (And.intro hKw hbeg)))
    clear hT dA dB dR dk hTT hKK hKw hbeg hhr hsz
    gi_wp2_with fail
    refine wp_region_linI T [] [0, 1, 2, 3, 4, 5, 6, 7, 8, 9, 10, 11] (by kernel_rfl) (by kernel_rfl) (by kernel_rfl) hTd hT0 ?_
    (repeat (first | (refine linI_off rfl rfl (by rfl) ?_; (try simp only [Act.put, List.getElem_toArray, List.getElem_cons_zero, List.getElem_cons_succ, List.setIfInBounds_toArray, List.set_cons_zero, List.set_cons_succ])) | (refine linI_op (v := ?_) rfl rfl (by rfl) (fun w9 hS9 => ?_) ?_; rotate_left; (focus ((have k0 := q0 w9 hS9; (try dsimp only at hS9); go_simp; (try go_bits)) <;> with_reducible rfl)); (try simp only [Act.put, List.getElem_toArray, List.getElem_cons_zero, List.getElem_cons_succ, List.setIfInBounds_toArray, List.set_cons_zero, List.set_cons_succ])) | (refine linI_fn (f := 69) rfl rfl (by rfl) rfl rfl (enters_of Try.func69 (by kernel_rfl) rfl) (fun w9 hS9 => hhr2 w9 hS9) ?_ ?_; (focus (simp [Act.eval]; done)); (try simp only [Act.put, List.getElem_toArray, List.getElem_cons_zero, List.getElem_cons_succ, List.setIfInBounds_toArray, List.set_cons_zero, List.set_cons_succ])) | (refine linI_fn (f := 70) rfl rfl (by rfl) rfl rfl (enters_of Try.func70 (by kernel_rfl) rfl) (fun w9 hS9 => hsz2 w9 hS9) ?_ ?_; (focus (simp [Act.eval]; done)); (try simp only [Act.put, List.getElem_toArray, List.getElem_cons_zero, List.getElem_cons_succ, List.setIfInBounds_toArray, List.set_cons_zero, List.set_cons_succ])) | (refine linI_fn (f := 52) rfl rfl (by rfl) rfl rfl (enters_of Try.func52 (by kernel_rfl) rfl) (fun w9 hS9 => hed w9 hS9) ?_ ?_; (focus (simp [Act.eval]; done)); (try simp only [Act.put, List.getElem_toArray, List.getElem_cons_zero, List.getElem_cons_succ, List.setIfInBounds_toArray, List.set_cons_zero, List.set_cons_succ]))))
    refine linI_nil (fun n2 => ?_)
    obtain ⟨⟨tA, tB, tR⟩, tk, tkw⟩ := And.intro (HT.out.1 n2) (And.intro (HT.out.2.1 n2) (HT.out.2.2.1 n2))
    rw [show W.drew.drewN n2 = W.drew.drewN n2 from rfl]
    generalize W.drew.drewN n2 = V at *
    have cb := tB.cell 0
    have c1 := tA.c1
    have cx := tA.beg (i := x) (by omega)
    have fx := tA.bgs.free x
    have hq1 : w.heap.size ≠ q := by have := H.out.2.2.2.2.2.2.2.2.2.bgs.lt; omega
    have hq2 : W1.heap.size ≠ q := by have := H.out.2.2.2.2.2.2.2.2.2.bgs.lt; have := H.out.2.2.2.2.2.2.2.1; omega
    have HF := Lib.hid (And.intro (And.intro (tA.setB x true) (And.intro (tB.far (p := ⟨q, x, none⟩) hq1 (.bool true)) (tR.far (p := ⟨q, x, none⟩) hq2 (.bool true)))) (And.intro (tk.setCell (p := ⟨q, x, none⟩) (.inl (by simp)) (.bool true)) (tkw.setCell (p := ⟨q, x, none⟩) (.inl (by simp)) (.bool true))))
    clear tA tB tR tk tkw
    generalize (begK B n k).getD x false = y at *
    have d3 : decide ((x : Int) < (ws.length : Int)) = true := decide_eq_true (by omega)
    have d4 : decide (x < ws.length) = true := decide_eq_true (by omega)
    gi_wp2
    refine ⟨KL.kept HF.out.2.1 hWs, ?_, HF.out.2.2⟩
    rw [HT.out.2.2.2]
    exact HF.out.1
  case done =>
    rintro W ⟨⟨dA, dB, dR⟩, dk⟩ hdef
    have hhi := HHI.out
    have hhe := H.out.2.2.2.2.2.1
    have hz := H.out.2.2.2.2.2.2.1
    obtain ⟨T, hT⟩ : ∃ T : World → Prop, T = fun w' => Ar w' g p q ws (begK B n B.length) ∧ Blk w' w.heap.size 25 #[.pointer (some ⟨g, 0, none⟩)] := ⟨_, rfl⟩
    have hTd : ∀ w' n, T w' → T (w'.drewN n) := by rw [hT]; exact fun w' n h => ⟨h.1.drewN n, h.2⟩
    have hT0 : T W.drew := by rw [hT]; exact ⟨dA.drew, dB⟩
    have q0 : ∀ w', T w' → w'.cell? ⟨w.heap.size, 0, none⟩ = some (.pointer (some ⟨g, 0, none⟩)) := by rw [hT]; exact fun w' h' => h'.2.cell 0
    have q1 : ∀ w', T w' → w'.cell? ⟨g, 0, none⟩ = some (.slice (some ⟨p, 0, none⟩) ws.length ws.length) := by rw [hT]; exact fun w' h' => h'.1.c0
    have hed := fun w' (h' : T w') => (edge_any (show Ar w' g p q ws (begK B n B.length) by rw [hT] at h'; exact h'.1)).mono (R' := fun e' w2 => e' = .returned (.int .i64 (e : Int)) ∧ ∃ n, w2 = w'.drewN n) fun e' w2 h => ⟨by rw [← HE.out]; exact h.1, 0, h.2.symm⟩
    have hbl := fun w' (h' : T w') => (blank_yes (if ws.length = e then some ⟨p, 0, none⟩ else some ⟨p, e, none⟩) (ws.length - e) (ws.length - e) (by omega) w' (if h0 : ws.length = e then .inl (by omega) else .inr ⟨p, e, if_neg h0, fun i hi => by
      have h1 := (show Ar w' g p q ws (begK B n B.length) by rw [hT] at h'; exact h'.1).word (i := e + i) (by omega)
      rw [hz (e + i) (by omega) (by omega)] at h1
      exact h1⟩)).mono (R' := fun e' w2 => e' = .returned (.bool true) ∧ ∃ n, w2 = w'.drewN n) fun e' w2 h => ⟨h.1, 0, h.2.symm⟩
    have hs1 := H.out.2.2.2.2.2.2.2.1
    have hsz3 : W1.heap.size < W3.heap.size := by have := H3.out.2.2.1.lt; exact this
    have hAw := H.out.2.2.2.2.2.2.2.2.2
    have K9 : ∀ m, Kept [W1.heap.size] W ((W.drew.drewN m).setCell ⟨W1.heap.size, 0, none⟩ (.bool true)) := fun m => (((Kept.refl [W1.heap.size] W).drew).drewN m).setCell (p := ⟨W1.heap.size, 0, none⟩) (.inl (by simp)) _
    have HZ : ∀ m n2, Hid ((Ar (((W.drew.drewN m).setCell ⟨W1.heap.size, 0, none⟩ (.bool true)).drewN n2) g p q ws (begK B n B.length) ∧ Blk (((W.drew.drewN m).setCell ⟨W1.heap.size, 0, none⟩ (.bool true)).drewN n2) W1.heap.size 4 #[.bool true] ∧ Kept [q] w (((W.drew.drewN m).setCell ⟨W1.heap.size, 0, none⟩ (.bool true)).drewN n2)) ∧ (((W.drew.drewN m).setCell ⟨W1.heap.size, 0, none⟩ (.bool true)).drewN n2).heap[W3.heap.size]? = some (.deferred (some [])) ∧ T ((W.drew.drewN m).setCell ⟨W1.heap.size, 0, none⟩ (.bool true))) := fun m n2 => Lib.hid (by
      have hg : g ≠ W1.heap.size := by have := hAw.box.lt; omega
      have hp : p ≠ W1.heap.size := by have := hAw.wds.lt; omega
      have hq : q ≠ W1.heap.size := by have := hAw.bgs.lt; omega
      have hA9 := dA.kept (K9 m) (by simpa using hg) (by simpa using hp) (by simpa using hq)
      refine ⟨⟨hA9.drewN n2, ?_, ?_⟩, ?_, ?_⟩
      · have hb := (show Blk (W.drew.drewN m) W1.heap.size 4 #[.bool false] from dR).set 0 (.bool true)
        exact hb
      · exact (((dk.drew).drewN m).setCell (p := ⟨W1.heap.size, 0, none⟩) (.inr (by show w.heap.size ≤ W1.heap.size; omega)) (.bool true)).drewN n2
      · exact ((K9 m).block _ (Array.getElem?_eq_some_iff.1 hdef).1 (by simp; omega)).trans hdef
      · rw [hT]
        exact ⟨hA9, dB.kept (K9 m) (by simp; omega)⟩)
    have hrr : ∀ m, (W.drew.drewN m).cell? ⟨W1.heap.size, 0, none⟩ = some (.bool false) := fun m => dR.cell 0
    have hff : ∀ m, _ := fun m => (show Blk (W.drew.drewN m) W1.heap.size 4 #[.bool false] from dR).free 0
    have hown := OwnFrom.and (OwnFrom.and (own_ar (β := Unit) W3.heap.size g p q ws (fun _ => begK B n B.length)) (own_blk (β := Unit) W3.heap.size W1.heap.size 4 (fun _ => #[.bool true]))) (kept_own (β := Unit) (S := [q]) H3.out.2.2.2.1.size)
    have HH := Lib.hid (And.intro hsz3 hown)
    clear hs1 hsz3 hAw K9 hown dA dB dR dk hT hz hdef
    go_wp2_with fail
    refine wp_region_linD T [8] [0, 1, 2, 3, 4, 5, 6, 7, 8] (by kernel_rfl) (by kernel_rfl) hTd hT0 ?_
    (repeat (first | (refine linD_off rfl rfl (by rfl) ?_; (try simp only [Act.put, List.getElem_toArray, List.getElem_cons_zero, List.getElem_cons_succ, List.setIfInBounds_toArray, List.set_cons_zero, List.set_cons_succ])) | (refine linD_op (v := ?_) rfl rfl (by rfl) (fun w9 hS9 => ?_) ?_; rotate_left; (focus ((have k0 := q0 w9 hS9; have k1 := q1 w9 hS9; (try dsimp only at hS9); go_simp; (try go_bits)) <;> with_reducible rfl)); (try simp only [Act.put, List.getElem_toArray, List.getElem_cons_zero, List.getElem_cons_succ, List.setIfInBounds_toArray, List.set_cons_zero, List.set_cons_succ])) | (refine linD_fn (f := 52) rfl rfl (by rfl) rfl rfl (enters_of Try.func52 (by kernel_rfl) rfl) (fun w9 hS9 => hed w9 hS9) ?_ ?_; (focus (simp [Act.eval]; done)); (try simp only [Act.put, List.getElem_toArray, List.getElem_cons_zero, List.getElem_cons_succ, List.setIfInBounds_toArray, List.set_cons_zero, List.set_cons_succ])) | (refine linD_fn (f := 71) rfl rfl (by rfl) rfl rfl (enters_of Try.func71 (by kernel_rfl) rfl) (fun w9 hS9 => hbl w9 hS9) ?_ ?_; (focus (simp [Act.eval]; done)); (try simp only [Act.put, List.getElem_toArray, List.getElem_cons_zero, List.getElem_cons_succ, List.setIfInBounds_toArray, List.set_cons_zero, List.set_cons_succ]))))
    refine linD_store rfl rfl (by rfl) (fun m => ?_)
    have h1 := hrr m
    have h2 := hff m
    have HZm := HZ m
    clear hrr hff HZ
    generalize W.drew.drewN m = V at *
    refine ⟨_, ?_, (HZm 0).out.2.2, ?_⟩
    · go_simp
    clear h1 h2
    refine linD_nil (fun n2 => ?_)
    have HZn := HZm n2
    generalize (V.setCell ⟨W1.heap.size, 0, none⟩ (.bool true)).drewN n2 = X at *
    clear HZm
    have hlt := (Array.getElem?_eq_some_iff.1 HZn.out.2.1).1
    have hfin := HH.out.2.putObj (s := ()) (.deferred none) ⟨⟨HZn.out.1.1, HZn.out.1.2.1⟩, HZn.out.1.2.2⟩ (by omega) HZn.out.2.1 rfl
    have cr := hfin.1.2.cell 0
    go_wp2_with fail
    all_goals refine marks_ret HZn.out.2.1 (by simp [results, Try.results43, go_sem, cr]) ⟨rfl, hfin.1.1, hfin.2⟩
  case stop => rintro k W hk hF hdef; exact hF.elim
end Go.Proofs.Ytgnpoehcmlmajaa
