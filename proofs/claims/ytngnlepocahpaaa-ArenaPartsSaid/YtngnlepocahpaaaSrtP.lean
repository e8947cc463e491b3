/-
  The contract of the law's own 'parted': where block stands behind block up to the edge, it says yes. Nothing here is a statement of the document.
-/
import Derived.Test.YtngnlepocahpaaaSrtN
import Derived.Test.YtngnlepocahpaaaArnX
namespace Go.Proofs.Ytngnlepocahpaaa
open Go.RowKit Go.Shelf
set_option linter.unusedVariables false
attribute [local go_sem ↓] load_piece_rule store_piece_rule

theorem w64s {a : Nat} (h : a ≤ 40000) : wrap64 (a : Int) = (a : Int) := by unfold wrap64; omega
theorem sum_small {x z y : Nat} (hx : x ≤ 20000) (hz : z ≤ 32) (h : x + z = y) : (x : Int) + (z : Int) = (y : Int) ∧ wrap64 (y : Int) = (y : Int) := ⟨by omega, w64s (by omega)⟩
theorem bel_tr4 {w a b : World} (h : Below w.heap.size w a) (k : Below a.heap.size a b) : Below w.heap.size w b := h.trans (k.mono h.size)
theorem sub_small {n e : Nat} (hn : n ≤ 16384) (he : e ≤ n) : wrap64 ((n : Int) - (e : Int)) = (n : Int) - (e : Int) ∧ wrap64 ((n : Int) - ((n : Int) - (e : Int))) = (e : Int) := ⟨by unfold wrap64; omega, by unfold wrap64; omega⟩
theorem w64k {k : Nat} (h : k ≤ 20000) : wrap64 ((k : Int) + 1) = (k : Int) + 1 := by unfold wrap64; omega
theorem pcl_append (A B : List Bl) : pcl (A ++ B) = pcl A ++ pcl B := by simp [pcl]
theorem pcl_len (A : List Bl) : (pcl A).length = A.length * 2 := by
  induction A with
  | nil => rfl
  | cons a r ih => 
    have e : pcl (a :: r) = (pccs a).toList ++ pcl r := by simp [pcl]
    rw [e, List.length_append, ih, List.length_cons]
    show 2 + _ = _
    omega
theorem pclg (A : List Bl) (k : Nat) (b : Bl) (h : A[k]? = some b) (j : Nat) (hj : j < 2) : (pcl A)[k * 2 + j]? = (pccs b)[j]? := flat_get (f := pccs) (fun _ => rfl) A k b h j hj
theorem pcl_one (A : List Bl) : ∀ u ∈ pcl A, u.oneCell' = true := by
  intro u hu
  obtain ⟨b, _, hb⟩ := List.mem_flatMap.1 hu
  exact Array.all_eq_true_iff_forall_mem.1 (pc_one b) u (by simpa using hb)
theorem wpList_append_rows {w : World} {ops : Array Oper} {rest : List Oper} {o : Oper} {a : Act} {Q : Exit → Act → World → Prop} (hgd : o.guard = none) (s x : Operand)
    (ho : o.op = .call { callee := .builtin .append, args := #[s, x], argTypes := #[80, 80] })
    (base : Nat) (v : Value) (n : Nat) (xs : List Value) (hs : a.eval s = v) (hown : w.ownsRow base 90 2 v n xs) (base2 : Nat) (v2 : Value) (L : List Bl)
    (hx : a.eval x = v2) (hown2 : w.ownsRow base2 90 2 v2 L.length (pcl L)) (hlen : n + L.length ≤ 40000) (hbase : base ≤ w.heap.size)
    (h : ∀ v' w', w'.ownsRow base 90 2 v' (n + L.length) (xs ++ pcl L) → w.grownBy w' v.ownBlock → wpList Try.prog ops Q rest (a.put o.dst v') w') : wpList Try.prog ops Q (o :: rest) a w := by
  obtain ⟨i0, hi, hz0, hz1, hz2⟩ := info_parts i_piece
  rcases hown2.2 with ⟨rfl, h0⟩ | ⟨g, cap, cur, rfl, hb, hg, hnc, hm, hsz, ht⟩
  · have hL : L = [] := List.eq_nil_of_length_eq_zero h0
    subst hL
    refine wpList_append_own_none hgd s x 80 ho base 90 i0 2 Try.underlying80 hi v n xs hs hown hx (h v w (by simpa [pcl] using hown) (World.grownBy.refl _ _))
  · refine wpList_append_own w hgd s x 80 ho base 90 i0 (.agg (pccs Bl.zero)) 2 16 Try.underlying80 hi hz0 hz1 hz2 rfl (by decide) v n xs hs hown ⟨g, 0, none⟩ L.length cap (pcl L) hx (pcl_len L) ?_ (pcl_one L) (by unfold maxLen; omega) (by omega) hbase (fun v' w' h1 h2 _ => h v' w' h1 h2)
    intro j u hj
    have hjl : j < L.length * 2 := by rw [← pcl_len]; exact (List.getElem?_eq_some_iff.1 hj).1
    rw [Addr.add_lit, Nat.zero_add]
    have hc : w.cell? ⟨g, j, none⟩ = cur[j]? := cell_of_row w g j cur 90 (0, 0) hg
    rw [hc]
    have e : (cur.toList.take (L.length * 2))[j]? = cur[j]? := by rw [List.getElem?_take, if_pos hjl, Array.getElem?_toList]
    rw [← e, ht]; exact hj
/-- A row of the call's own, as a row to be put in order. -/
theorem own_srow {w : World} {base g n cap : Nat} {D : List Bl} (h : w.ownsRow base 90 2 (.slice (some ⟨g, 0, none⟩) n cap) n (pcl D)) (hn : D.length = n) (hle : n ≤ 20000) (hb : ∀ b ∈ D, b.x ≤ 20000) : Srow w g n D.toArray ∧ base ≤ g := by
  rcases h.2 with ⟨h', _⟩ | ⟨g', cap', cur, h', hbs, hg, hnc, hm, hs, ht⟩
  · simp at h'
  · simp only [Value.slice.injEq, Option.some.injEq, Addr.mk.injEq, and_true, true_and] at h'
    obtain ⟨rfl, rfl⟩ := h'
    refine ⟨⟨by simp [hn], hle, fun i hi => ?_, cur, hg, by omega, fun i hi => ?_⟩, hbs⟩
    · rw [getElem!_pos _ _ (by simp; omega)]; simp; exact hb _ (List.getElem_mem _)
    · have hi' : i < D.length := by omega
      have e : D.toArray[i]! = D[i] := by rw [getElem!_pos _ _ (by simp; omega)]; simp
      have hd : D[i]? = some D[i] := List.getElem?_eq_getElem hi'
      have key : ∀ j, j < 2 → cur[i * 2 + j]? = (pccs D[i])[j]? := fun j hj => by
        rw [← pclg D i _ hd j hj, ← ht, List.getElem?_take, if_pos (by omega), Array.getElem?_toList]
      rw [e]
      exact ⟨key 0 (by omega), key 1 (by omega)⟩
theorem piece_new (b : Bl) (W : World) : (storeSem 90 (.pointer (some ⟨W.heap.size, 0, none⟩)) (.agg (pccs b))).run Try.prog (W.alloc (.cells (pccs Bl.zero) 90)) = .ok () (W.alloc (.cells (pccs b) 90)) := by
  have h := storeRes_of (P := Try.prog) (ty := 90) (o := 0) (vs := pccs b) (Blk.new W 90 (pccs Bl.zero)) (by simp [pccs]) (s_piece b) (pc_one b)
  rw [over_all (by simp [pccs]), World.setRow_alloc_new] at h
  exact h

set_option maxRecDepth 100000 in
set_option maxHeartbeats 4000000 in
theorem parted_any {w : World} {g p q : Nat} {ws : List Nat} {bs : List Bool} {B : List Bl} (h : Ar w g p q ws bs) (hC : Chain ws 16 B) (he : ws.getD 15 0 ≤ ws.length) (n : Nat) (hn : ws.length = n) :
    Calls Try.prog 15 #[.pointer (some ⟨g, 0, none⟩), .int .i64 (n : Int)] w fun e w' => e = .returned (.bool true) ∧ Below w.heap.size w w' := by
  have hhi : n ≤ 16384 := by rw [← hn]; exact h.hi
  have hws := h.hi
  have hBl : B.length ≤ 20000 := by have := chain_len hC; omega
  have hperm := ofT_perm B
  have hDl : (ofT true B).length + (ofT false B).length = B.length := by rw [← List.length_append, hperm.length_eq]
  have hbx : ∀ b ∈ B, b.x ≤ 20000 := fun b hb => by have := chain_top hC (by omega) hb; omega
  have hT := taken_all h hC he
  have hC0 := chain_head hC
  have hCg := fun (k : Nat) (b : Bl) (hb : B[k]? = some b) => chain_get hC (Nat.le_refl _) hb
  have hCe := posB_end (ws.getD 15 0) B
  have HH := Lib.hid (And.intro h (And.intro hC (And.intro he (And.intro hperm (And.intro hbx (And.intro hC0 (And.intro hCg hCe)))))))
  have HDl := Lib.hid hDl
  clear hws
  clear h hC he hperm hbx hC0 hCg hCe hDl
  have HN := Lib.hid hn
  clear hn
  go_enter Try.func15, Try.ntmps15
  go_wp2_with fail
  refine hT.mono ?_
  rintro e w1 ⟨v1, rfl, o1, b1⟩
  clear hT
  go_wp2_with fail
  refine (spare_all (HH.out.1.later b1) HH.out.2.1 HH.out.2.2.1).mono ?_
  rintro e w2 ⟨v2, rfl, o2, b2⟩
  have o1 := owns_later o1 b2
  have hb2 : Below w.heap.size w w2 := b1.trans (b2.mono b1.size)
  have hs2 := hb2.size
  clear b1 b2
  go_wp2_with (at_builtin; refine wpList_append_rows rfl _ _ rfl w.heap.size _ _ _ rfl o1 w1.heap.size _ (ofT false B) rfl o2 (by have := HDl.out; omega) hs2 ?_)
  intro v3 w3 o3 hg3
  have hb3 : Below w.heap.size w w3 := hb2.grown hg3 hs2 (fun k hk => by
    rcases o1.2 with ⟨e1, _⟩ | ⟨g1, c1, cur1, e1, hbs, _⟩
    · rw [e1] at hk; cases hk
    · rw [e1] at hk; simp [Value.ownBlock] at hk; omega)
  rw [← pcl_append, HDl.out] at o3
  clear o1 o2 hg3 hb2 hs2
  rcases o3.2 with ⟨rfl, h0⟩ | ⟨g3, c3, cur3, rfl, hbs3, _⟩
  · have hB0 : B = [] := List.eq_nil_of_length_eq_zero h0
    subst hB0
    have hed : ws.getD 15 0 = 16 := HH.out.2.1.symm
    have hA3 := HH.out.1.later hb3
    have hlf := aleft_any hA3 HH.out.2.2.1
    rw [hed, HN.out] at hlf
    have HB3 := Lib.hid hb3
    have e1 : wrap64 ((n : Int) - ((n : Int) - 16)) = 16 := by unfold wrap64; omega
    clear o3 hed hA3 hb3
    go_wp2_with (first | (go_at_call 56; refine (sort_none _ _).mono ?_; rintro e w4 ⟨rfl, rfl⟩))
    refine wp_loop_rounds 1 ?_
    rw [rounds_succ]
    go_wp2_with (go_at_call 19; refine hlf.mono ?_; rintro e w5 ⟨rfl, k5, rfl⟩)
    go_ret
    exact ⟨by simp; omega, below_drewN HB3.out k5⟩
  · have hD : (ofT true B ++ ofT false B).length = B.length := by rw [List.length_append, HDl.out]
    obtain ⟨hS, hg3⟩ := own_srow o3 hD hBl (fun b hb => HH.out.2.2.2.2.1 b (HH.out.2.2.2.1.mem_iff.1 hb))
    have hso := sort_any (cap := c3) hS
    have HS := Lib.hid hS
    clear o3 hS
    go_wp2_with fail
    refine hso.mono ?_
    rintro e w4 ⟨rfl, d', hS4, hp4, hs4, hk4⟩
    have hb4 : Below w.heap.size w w4 := hb3.trans (hk4.below (B := w.heap.size) (by simp; omega) hb3.size)
    have hdB : d'.toList = B := in_order HH.out.2.1 (hp4.trans (by simpa using HH.out.2.2.2.1)) (fun i j hi hj hij => by
      have hsz := hS4.size
      have := hs4 i j hij (by simp at hj; omega)
      rw [getElem!_pos _ _ (by simp at hi; omega), getElem!_pos _ _ (by simp at hj; omega)] at this
      simpa using this)
    have hA4 := HH.out.1.later hb4
    have HB4 := Lib.hid (And.intro hb4 (And.intro hdB (And.intro hS4 hA4)))
    clear hso hp4 hs4 hk4 hb3 hdB hS4 hA4 hb4
    obtain ⟨N, hN⟩ : ∃ N, B.length = N := ⟨_, rfl⟩
    have HNN := Lib.hid hN
    rw [hN] at hBl ⊢
    clear hN
    go_wp2
    go_loopw [6, 18] (fun a i wr => ∃ k : Nat, k ≤ N ∧ i = .int .i64 (k : Int) ∧ a = .int .i64 ((posB (ws.getD 15 0) B k - 1 : Nat) : Int) ∧ Below w4.heap.size w4 wr) (fun _ i _ => N - (intOf i).toNat)
    case atStart => exact ⟨0, Nat.zero_le _, rfl, by rw [HH.out.2.2.2.2.2.1]; rfl, Below.refl _ _⟩
    case round =>
      obtain ⟨k, hk, rfl, rfl, hB⟩ := hrel
      by_cases hlt : k < N
      · have d1 : decide ((k : Int) < (N : Int)) = true := by simp; omega
        have d2 : decide (k < N) = true := by simp; omega
        have hkB : k < B.length := by rw [HNN.out]; exact hlt
        have hbk : B[k]? = some B[k] := List.getElem?_eq_getElem hkB
        obtain ⟨g1, g2, g3', g4, g5⟩ := HH.out.2.2.2.2.2.2.1 k B[k] hbk
        have hpo := posB_get (e := ws.getD 15 0) hbk
        have hSr : Srow wr g3 B.length d' := HB4.out.2.2.1.kept (Kept.of_below [] hB) (by simp)
        have hld := hSr.load hkB
        have hel : d'[k]! = B[k] := by
          have e := HB4.out.2.1
          have hsz := hSr.size
          rw [getElem!_pos d' k (by omega)]
          have : d'.toList[k]? = B[k]? := by rw [e]
          rw [hbk, Array.getElem?_toList, Array.getElem?_eq_getElem (by omega)] at this
          exact Option.some.inj this
        rw [hel] at hld
        have hxb := HH.out.2.2.2.2.1 B[k] (List.getElem_mem hkB)
        rw [hpo]
        have hst : (storeSem 90 (.pointer (some ⟨wr.heap.size, 0, none⟩)) (.agg (pccs B[k]))).run Try.prog (wr.alloc (.cells #[.int .i64 0, .int .i64 0] 90)) = .ok () (wr.alloc (.cells (pccs B[k]) 90)) := piece_new B[k] wr
        have hp5 := pow5 g1
        have b6 : Blk (wr.alloc (.cells (pccs B[k]) 90)) wr.heap.size 90 (pccs B[k]) := Blk.new wr _ _
        have hB6 : Below w4.heap.size w4 (wr.alloc (.cells (pccs B[k]) 90)) := hB.alloc hB.size _
        have c0 : (wr.alloc (.cells (pccs B[k]) 90)).cell? ⟨wr.heap.size, 0, none⟩ = some (.int .i64 (B[k].x : Int)) := b6.cell 0
        have c1 : (wr.alloc (.cells (pccs B[k]) 90)).cell? ⟨wr.heap.size, 1, none⟩ = some (.int .i64 (B[k].c : Int)) := b6.cell 1
        have HG5 := Lib.hid (And.intro g5 g2)
        clear hpo hSr hel hbk g3' g4 g5 g2 b6
        generalize B[k] = b at *
        unfold pccs at hst hld c0 c1 hB6
        obtain ⟨W6, hW6⟩ : ∃ W6, wr.alloc (.cells #[.int .i64 (b.x : Int), .int .i64 (b.c : Int)] 90) = W6 := ⟨_, rfl⟩
        rw [hW6] at hst c0 c1 hB6
        have HB6 := Lib.hid hB6
        clear hW6 hB6 hB
        generalize b.x = x at *
        generalize b.c = c at *
        have ex : ((x - 1 : Nat) : Int) + 1 = (x : Int) := by have := HG5.out.2; omega
        have dc0 : decide ((c : Int) < 0) = false := by simp
        have dc5 : decide ((5 : Int) < (c : Int)) = false := by simp; omega
        have dc5n : decide (5 < c) = false := by simp; omega
        generalize x - 1 = x1 at *
        obtain ⟨z, hz⟩ : ∃ z, 2 ^ c = z := ⟨_, rfl⟩
        rw [hz] at hp5 HG5
        have hsh : ((1 : Int) * 2 ^ c) = (z : Int) := by rw [← hz]; simp
        have hsh2 : ((2 : Int) ^ c) = (z : Int) := by rw [← hz]; simp
        have hwx : wrap64 (x : Int) = (x : Int) := w64s (Nat.le_trans hxb (by decide))
        have hw1 : wrap64 (z : Int) = (z : Int) := w64s (Nat.le_trans hp5.2 (by decide))
        obtain ⟨y, hy⟩ : ∃ y, x + z = y := ⟨_, rfl⟩
        obtain ⟨hxy, hw2⟩ := sum_small hxb hp5.2 hy
        have HY := Lib.hid hy
        have hfin : wrap64 ((x : Int) + wrap64 ((2 : Int) ^ min c 64)) = (y : Int) := by rw [Nat.min_eq_left (Nat.le_trans g1 (by decide)), hsh2, hw1, hxy, hw2]
        have HFI := Lib.hid hfin
        clear hfin
        clear hz hp5 hxb hy g1
        have HBN := Lib.hid (And.intro hhi hBl)
        clear hhi hBl
        have HQ := Lib.hid (And.intro hsh (And.intro hsh2 (And.intro hw1 (And.intro hxy hw2))))
        clear hsh hsh2 hw1 hxy hw2
        go_wp2
        obtain ⟨hsh, hsh2, hw1, hxy, hw2⟩ := HQ.out
        have f0 : ∀ w9, w9 = W6.drew → w9.cell? ⟨wr.heap.size, 0, none⟩ = some (.int .i64 (x : Int)) := fun w9 h => by subst h; exact c0
        have f1 : ∀ w9, w9 = W6.drew → w9.cell? ⟨wr.heap.size, 1, none⟩ = some (.int .i64 (c : Int)) := fun w9 h => by subst h; exact c1
        refine wp_region_lin (fun w' => w' = W6.drew) (by kernel_rfl) (by kernel_rfl) rfl ?_
        (repeat (first | (refine lin_off (by rfl) ?_; (try simp only [Act.put, List.setIfInBounds_toArray, List.set_cons_zero, List.set_cons_succ])) | (refine lin_op (v := ?_) (by rfl) (fun w9 hS9 => ?_) ?_; rotate_left; (focus ((have k0 := f0 w9 hS9; have k1 := f1 w9 hS9; (try dsimp only at hS9); go_simp; (try go_bits)) <;> with_reducible rfl)); (try simp only [Act.put, List.setIfInBounds_toArray, List.set_cons_zero, List.set_cons_succ])) ))
        refine lin_nil (fun w8 hS8 => ?_)
        subst hS8
        clear f0 f1 hsh hsh2 hw1 hxy hw2
        have hk20 := w64k (Nat.le_trans hk HBN.out.2)
        go_wp2
        rw [HFI.out, hk20]
        have hpe : posB (ws.getD 15 0) B (k + 1) - 1 = y := by rw [HG5.out.1, ← HY.out]; exact Nat.add_sub_cancel _ _
        refine ⟨⟨k + 1, hlt, by rw [Int.natCast_add]; rfl, by rw [hpe], HB6.out.drew⟩, ?_⟩
        clear hpe hk20
        simp only [intOf]
        omega
      · have e : k = N := by omega
        subst e
        have hce := HH.out.2.2.2.2.2.2.2
        rw [HNN.out] at hce
        rw [hce, Nat.add_sub_cancel]
        have hAr := HB4.out.2.2.2.later hB
        have hlf := aleft_any hAr HH.out.2.2.1
        rw [HN.out] at hlf
        have hed : ws.getD 15 0 ≤ n := by rw [← HN.out]; exact HH.out.2.2.1
        have d1 : decide ((k : Int) < (k : Int)) = false := by simp
        generalize ws.getD 15 0 = ed at *
        obtain ⟨hq2, hq⟩ := sub_small hhi hed
        have HBE := Lib.hid (bel_tr4 HB4.out.1 hB)
        have HBN := Lib.hid (And.intro hhi hBl)
        clear hAr hce hB hhi hBl hed
        go_wp2_with (go_at_call 19; refine hlf.mono ?_; rintro e w5 ⟨rfl, k5, rfl⟩)
        go_ret
        exact ⟨rfl, below_drewN HBE.out k5⟩
end Go.Proofs.Ytngnlepocahpaaa
