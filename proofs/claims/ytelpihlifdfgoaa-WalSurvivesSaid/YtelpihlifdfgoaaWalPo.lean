/-
  partOf: what a sector says of a frame. Nothing here is a statement of the document.
-/
import Derived.Test.YtelpihlifdfgoaaWalT
namespace Go.Proofs.Ytelpihlifdfgoaa
open Go.RowKit Go.Shelf
set_option linter.unusedVariables false
/-- Sectors read one behind the other; the first error ends it. -/
def readsM (D : Dk) (first : Nat) : Nat → Dk × List Bk × Int
  | 0 => (D, [], 0)
  | k + 1 => if (readsM D first k).2.2 ≠ 0 then readsM D first k else if (readM (readsM D first k).1 ((first + k : Nat) : Int)).2.2 ≠ 0 then ((readM (readsM D first k).1 ((first + k : Nat) : Int)).1, (readsM D first k).2.1, (readM (readsM D first k).1 ((first + k : Nat) : Int)).2.2)
    else ((readM (readsM D first k).1 ((first + k : Nat) : Int)).1, (readsM D first k).2.1 ++ [(readM (readsM D first k).1 ((first + k : Nat) : Int)).2.1], 0)
theorem readsM_len (D : Dk) (first : Nat) : ∀ k, (readsM D first k).2.2 = 0 → (readsM D first k).2.1.length = k
  | 0, _ => rfl
  | k + 1, h => by
    unfold readsM at h ⊢
    by_cases h1 : (readsM D first k).2.2 = 0
    · rw [if_neg (by simpa using h1)] at h ⊢
      by_cases h2 : (readM (readsM D first k).1 ((first + k : Nat) : Int)).2.2 = 0
      · rw [if_neg (by simpa using h2)]
        simp [readsM_len D first k h1]
      · rw [if_pos h2] at h
        exact absurd h h2
    · rw [if_pos h1] at h
      exact absurd h h1
theorem readsM_stop (D : Dk) (first k : Nat) (h : (readsM D first k).2.2 ≠ 0) : ∀ n, k ≤ n → readsM D first n = readsM D first k := by
  intro n hn
  induction n with
  | zero => obtain rfl : k = 0 := by omega
            rfl
  | succ n ih =>
    rcases Nat.eq_or_lt_of_le hn with rfl | hlt
    · rfl
    · have h2 := ih (by omega)
      rw [show readsM D first (n + 1) = readsM D first n from by
        conv => lhs; unfold readsM
        rw [if_pos (by rw [h2]; exact h)], h2]
/-- What has been read, noughts behind. -/
def padB (l : List Bk) (n : Nat) : List Bk := l ++ List.replicate (n - l.length) Bk.zero
theorem padB_len {l : List Bk} {n : Nat} (h : l.length ≤ n) : (padB l n).length = n := by simp [padB]; omega
theorem padB_set {l : List Bk} {n : Nat} (h : l.length < n) (b : Bk) : (padB l n).set l.length b = padB (l ++ [b]) n := by
  unfold padB
  rw [List.set_append_right _ _ (Nat.le_refl _), Nat.sub_self]
  obtain ⟨m, hm⟩ : ∃ m, n - l.length = m + 1 := ⟨n - l.length - 1, by omega⟩
  rw [hm, List.replicate_succ, List.set_cons_zero]
  simp
  omega
theorem padB_full {l : List Bk} {n : Nat} (h : l.length = n) : padB l n = l := by simp [padB, h]
theorem goes_below {w W : World} (p pb : Nat) (bv : Value) (hb : Below w.heap.size w W) : Goes w W p pb bv bv := ⟨Kept.of_below _ hb, fun k h => .inl h⟩
theorem sblk_new (w : World) (b : Bk) : (storeSem 81 (.pointer (some ⟨w.heap.size, 0, none⟩)) (.agg b.cs)).run Try.prog (w.alloc (.cells Bk.zero.cs 81)) = .ok () (w.alloc (.cells b.cs 81)) := by
  have := wsblk (c := b) (Blk.new w 81 Bk.zero.cs)
  rwa [World.setRow_alloc_new] at this
theorem sblk_at {w : World} {g k : Nat} {L : List Bk} (h : Blk w g 81 (pcs L).toArray) (hk : k < L.length) (b : Bk) : (storeSem 81 (.pointer (some ⟨g, k * 64, none⟩)) (.agg b.cs)).run Try.prog w = .ok () (w.setRow g (pcs (L.set k b)).toArray) := by
  have := storeRes_of (P := Try.prog) (ty := 81) (o := k * 64) (vs := b.cs) h (by have := pcs_length L; rw [Bk.size]; simp; omega) (s_blk b) b.one
  rw [this]
  simp only [over]
  rw [pcs_set b hk]
theorem readsM_next {D : Dk} {first k : Nat} {D1 : Dk} {L : List Bk} (h : readsM D first k = (D1, L, 0)) {D2 : Dk} {b : Bk} {er : Int} (h2 : readM D1 ((first + k : Nat) : Int) = (D2, b, er)) : readsM D first (k + 1) = if er ≠ 0 then (D2, L, er) else (D2, L ++ [b], 0) := by
  conv => lhs; unfold readsM
  rw [h]
  simp only [ne_eq, not_true_eq_false, if_false, h2]
attribute [local go_sem ↓] load_blk_rule store_blk_rule
set_option maxRecDepth 100000 in
set_option maxHeartbeats 4000000 in
theorem rread_any {w : World} {B p pb first n : Nat} {bv : Value} {D : Dk} (hD : Dsk w B p pb bv D) (h1 : 1 ≤ n) (h2 : n ≤ 2048) (hf : first ≤ 4096) :
    Calls Try.prog 37 #[.agg (rgs first n), .pointer (some ⟨p, 0, none⟩)] w fun e w' => (∃ g, ((readsM D first n).2.2 = 0 → e = .returned (.tuple #[.slice (some ⟨g, 0, none⟩) n n, .int .i64 0]) ∧ w.heap.size ≤ g ∧ Blk w' g 81 (pcs (readsM D first n).2.1).toArray)) ∧
      ((readsM D first n).2.2 ≠ 0 → e = .returned (.tuple #[.slice none 0 0, .int .i64 (readsM D first n).2.2])) ∧ Dsk w' B p pb bv (readsM D first n).1 ∧ Goes w w' p pb bv bv := by
  obtain ⟨i0, hi, hz0, hz1, hz2⟩ := info_parts i_blk
  have hmk : ∀ w, (Instr.makeSlice 72 (.int .i64 (n : Int)) (.int .i64 (n : Int))).run Try.prog w = .ok (.slice (some ⟨w.heap.size, 0, none⟩) n n) (w.alloc (.cells (pcs (List.replicate n Bk.zero)).toArray 81)) := fun w => by
    have h := run_make (P := Try.prog) w 72 81 i0 (.agg Bk.zero.cs) Try.underlying72 hi hz0 .i64 .i64 (n : Int) (n : Int) (by omega) (by omega) (by rw [hz2]; omega) (by omega)
    rw [hz1, show (n : Int).toNat = n from by omega, made_blocks] at h
    exact h
  obtain ⟨PC, hPC⟩ : ∃ PC, (pcs (List.replicate n Bk.zero)).toArray = PC := ⟨_, rfl⟩
  rw [hPC] at hmk
  have HD := Lib.hid (And.intro hD hPC)
  clear hD hPC hi hz0 hz1 hz2
  obtain ⟨W1, hW1⟩ : ∃ W1, w.alloc (.cells (rgs first n) 64) = W1 := ⟨_, rfl⟩
  have br1 : Blk W1 w.heap.size 64 (rgs first n) := by rw [← hW1]; exact Blk.new _ _ _
  have hb1 : Below w.heap.size w W1 := by rw [← hW1]; exact (Below.refl _ _).alloc (Nat.le_refl _) _
  have c1 : W1.cell? ⟨w.heap.size, 1, none⟩ = some (.int .i64 (n : Int)) := br1.cell 1
  obtain ⟨W2, hW2⟩ : ∃ W2, W1.alloc (.cells PC 81) = W2 := ⟨_, rfl⟩
  have bp2 : Blk W2 W1.heap.size 81 (pcs (padB [] n)).toArray := by
    have e : padB [] n = List.replicate n Bk.zero := by simp [padB]
    rw [e, HD.out.2, ← hW2]
    exact Blk.new _ _ _
  have hb2 : Below w.heap.size w W2 := by rw [← hW2]; exact hb1.alloc hb1.size _
  have br2 : Blk W2 w.heap.size 64 (rgs first n) := by rw [← hW2]; exact br1.alloc _
  obtain ⟨g, hg⟩ : ∃ g, W1.heap.size = g := ⟨_, rfl⟩
  have hgw : w.heap.size < g := by rw [← hg]; exact br1.lt
  rw [hg] at bp2
  have H2 := Lib.hid (And.intro bp2 (And.intro hb2 (And.intro br2 hgw)))
  clear bp2 hb2 br2 br1 hb1
  obtain ⟨RC, hRC⟩ : ∃ RC, rgs first n = RC := ⟨_, rfl⟩
  rw [hRC] at hW1 ⊢
  have HRC := Lib.hid hRC
  clear hRC
  obtain ⟨LR, hLR⟩ : ∃ LR, readsM D first n = LR := ⟨_, rfl⟩
  rw [hLR]
  have HLR := Lib.hid hLR
  clear hLR
  go_enter Try.func37, Try.ntmps37
  go_wp2_with fail
  clear hmk c1 hW1 hW2
  try rw [hg]
  clear hg
  go_loopw [15] (fun i wr => ∃ (k : Nat) (D1 : Dk) (L : List Bk), k ≤ n ∧ i = .int .i64 k ∧ readsM D first k = (D1, L, 0) ∧ Dsk wr B p pb bv D1 ∧ Blk wr g 81 (pcs (padB L n)).toArray ∧ Goes w wr p pb bv bv ∧ Blk wr w.heap.size 64 (rgs first n)) (fun i _ => n - (intOf i).toNat)
  case atStart => exact ⟨0, D, [], Nat.zero_le _, rfl, rfl, HD.out.1.later H2.out.2.1, H2.out.1, goes_below p pb bv H2.out.2.1, H2.out.2.2.1⟩
  case round =>
    obtain ⟨k, D1, L, hk, rfl, hR, hDk, hbk, hG, hbr⟩ := hrel
    have hLl : L.length = k := by have := readsM_len D first k (by rw [hR]); rw [hR] at this; exact this
    by_cases hlt : k < n
    · have hki : (k : Int) < (n : Int) := by omega
      obtain ⟨⟨D2, b, er⟩, hrm⟩ : ∃ x, readM D1 ((first + k : Nat) : Int) = x := ⟨_, rfl⟩
      have hnx := readsM_next hR hrm
      have hrd := dread_any hDk ((first + k : Nat) : Int)
      rw [hrm, show ((first + k : Nat) : Int) = (first : Int) + (k : Int) by omega] at hrd
      have c0 : wr.cell? ⟨w.heap.size, 0, none⟩ = some (.int .i64 (first : Int)) := hbr.cell 0
      have HK := Lib.hid (And.intro hDk (And.intro hbk (And.intro hG (And.intro hbr (And.intro hLl hnx)))))
      clear hDk hbk hG hbr hLl hnx
      go_wp2_with fail
      refine hrd.mono ?_
      rintro e W3 ⟨rfl, hD3, hG3⟩
      clear hrd
      have hsn := sblk_new W3 b
      obtain ⟨W4, hW4⟩ : ∃ W4, W3.alloc (.cells b.cs 81) = W4 := ⟨_, rfl⟩
      have b4 : Blk W4 W3.heap.size 81 b.cs := by rw [← hW4]; exact Blk.new _ _ _
      have hb34 : Below W3.heap.size W3 W4 := by rw [← hW4]; exact (Below.refl _ _).alloc (Nat.le_refl _) _
      rw [hW4] at hsn
      have hl4 := wlblk b4
      have hgf : g ∉ fp p pb bv := fun hm => by have := fp_lt HD.out.1 _ hm; omega
      have hrf : w.heap.size ∉ fp p pb bv := fun hm => by have := fp_lt HD.out.1 _ hm; omega
      have hbg3 : Blk W3 g 81 (pcs (padB L n)).toArray := HK.out.2.1.kept hG3.kept hgf
      have hbg4 := hbg3.kept (Kept.of_below [] hb34) (by simp)
      have hbr4 := (HK.out.2.2.2.1.kept hG3.kept hrf).kept (Kept.of_below [] hb34) (by simp)
      have hD4 := hD3.later hb34
      have hG4 : Goes w W4 p pb bv bv := ⟨(HK.out.2.2.1.kept.trans hG3.kept).trans (Kept.of_below _ hb34), fun k h => .inl h⟩
      have hsa := sblk_at hbg4 (k := k) (by rw [padB_len (by rw [HK.out.2.2.2.2.1]; omega)]; exact hlt) b
      rw [show (padB L n).set k b = padB (L ++ [b]) n by rw [← HK.out.2.2.2.2.1]; exact padB_set (by rw [HK.out.2.2.2.2.1]; exact hlt) b] at hsa
      have h5g := hbg4.row (pcs (padB (L ++ [b]) n)).toArray
      obtain ⟨W5, hW5⟩ : ∃ W5, W4.setRow g (pcs (padB (L ++ [b]) n)).toArray = W5 := ⟨_, rfl⟩
      rw [hW5] at hsa h5g
      have hk45 : Kept [g] W4 W5 := by rw [← hW5]; exact (Kept.refl _ _).setRow (.inl (by simp)) _
      have hD5 := hD4.apart hk45 (fun i hi => by rw [List.mem_singleton.1 hi]; exact hgf)
      have hbr5 := hbr4.kept hk45 (by simp; omega)
      have hG5 : Goes w W5 p pb bv bv := ⟨hG4.kept.trans2 hk45 (fun i hi => .inr (by rw [List.mem_singleton.1 hi]; omega)), fun k h => .inl h⟩
      have H4 := Lib.hid (And.intro hD4 (And.intro hG4 (And.intro hD5 (And.intro h5g (And.intro hG5 hbr5)))))
      obtain ⟨BC, hBC⟩ : ∃ BC, b.cs = BC := ⟨_, rfl⟩
      rw [hBC] at hsn hl4 hsa
      try rw [hBC]
      clear hD3 hG3 b4 hb34 hbg3 hbg4 hbr4 hD4 hG4 h5g hk45 hD5 hbr5 hG5 hgf hrf hW4 hW5 hBC
      by_cases he : er = 0
      · subst he
        have hnx : readsM D first (k + 1) = (D2, L ++ [b], 0) := by rw [HK.out.2.2.2.2.2, if_neg (by simp)]
        have HN := Lib.hid hnx
        clear hnx
        go_wp2_with (first | (with_reducible refine wpList_alloc_z rfl 81 rfl Bk.zero.cs 64 z_blk ?_))
        go_roundw
        case rel => exact ⟨k + 1, D2, L ++ [b], by omega, by go_num, HN.out, H4.out.2.2.1, H4.out.2.2.2.1, H4.out.2.2.2.2.1, H4.out.2.2.2.2.2⟩
        case measure => simp [intOf]; omega
      · have heb : (er != 0) = true := by simpa using he
        have hnx : LR = (D2, L, er) := by
          rw [← HLR.out, readsM_stop D first (k + 1) (by rw [HK.out.2.2.2.2.2, if_pos he]; exact he) n (by omega), HK.out.2.2.2.2.2, if_pos he]
        have HN := Lib.hid hnx
        clear hnx
        go_wp2_with (first | (with_reducible refine wpList_alloc_z rfl 81 rfl Bk.zero.cs 64 z_blk ?_))
        go_ret2
        rw [HN.out]
        exact ⟨⟨g, fun h => absurd h he⟩, fun _ => rfl, H4.out.1, H4.out.2.1⟩
    · obtain rfl : k = n := by omega
      have hLR2 : LR = (D1, L, 0) := by rw [← HLR.out, hR]
      have HK := Lib.hid (And.intro hDk (And.intro hbk (And.intro hG (And.intro hLl hLR2))))
      clear hDk hbk hG hbr hLl hLR2
      go_wp2_with fail
      go_ret2
      rw [HK.out.2.2.2.2]
      refine ⟨⟨g, fun _ => ⟨rfl, by omega, ?_⟩⟩, fun h => absurd rfl h, HK.out.1, HK.out.2.2.1⟩
      have := HK.out.2.1
      rw [padB_full HK.out.2.2.2.1] at this
      exact this
end Go.Proofs.Ytelpihlifdfgoaa
namespace Go.Proofs.Ytelpihlifdfgoaa
open Go.RowKit Go.Shelf
set_option linter.unusedVariables false
/-- Each sector is held once at most. -/
structure Dk.Nod (D : Dk) (N : Nat) : Prop where
  once : (D.rows.map (·.s)).Nodup
  at_ : ∀ r ∈ D.rows, r.s < N
  len : D.plate.length = N
theorem nod_ok {D : Dk} (h : D.Ok) : D.Nod D.plate.length := ⟨h.once, h.at_, rfl⟩
theorem downs_at : ∀ (l : List Rw) (D : Dk) (N : Nat) (hl : (l.map (·.s)).Nodup) (ha : ∀ r ∈ l, r.s < N) (hN : D.plate.length = N) (j : Nat), (downsM D l).plate.getD j Bk.zero = match l.find? (fun r => r.s == j) with | some r => r.b | none => D.plate.getD j Bk.zero
  | [], D, N, _, _, _, j => rfl
  | r :: l, D, N, hl, ha, hN, j => by
    rw [List.map_cons, List.nodup_cons] at hl
    have ih := downs_at l (downM D r) N hl.2 (fun x hx => ha x (by simp [hx])) (by simp [downM, hN]) j
    show (downsM (downM D r) l).plate.getD j Bk.zero = _
    rw [ih]
    by_cases he : r.s = j
    · subst he
      rw [List.find?_cons_of_pos (by simp)]
      have hn : l.find? (fun x => x.s == r.s) = none := List.find?_eq_none.2 (fun x hx h => hl.1 (List.mem_map.2 ⟨x, hx, by simpa using h⟩))
      rw [hn]
      have := ha r (by simp)
      simp [downM, List.getD_eq_getElem?_getD, hN, this]
    · rw [List.find?_cons_of_neg (by simpa using he)]
      cases l.find? (fun x => x.s == j) with
      | none => simp [downM, List.getD_eq_getElem?_getD, List.getElem?_set, he]
      | some x => rfl
theorem nod_drain {D : Dk} {N : Nat} (h : D.Nod N) (n : Nat) : (drainM D n).Nod N := by
  refine ⟨?_, fun r hr => h.at_ r (List.mem_of_mem_drop hr), ?_⟩
  · show ((D.rows.drop n).map (·.s)).Nodup
    rw [List.map_drop]
    exact h.once.sublist (List.drop_sublist _ _)
  · show (downsM D (D.rows.take n)).plate.length = N
    rw [downsM_len]; exact h.len
theorem shows_drain {D : Dk} {N : Nat} (h : D.Nod N) (n j : Nat) : showsM (drainM D n) j = showsM D j := by
  have e : D.rows = D.rows.take n ++ D.rows.drop n := (List.take_append_drop n D.rows).symm
  have hnd := h.once
  rw [e, List.map_append, List.nodup_append] at hnd
  have hd := downs_at (D.rows.take n) D N hnd.1 (fun r hr => h.at_ r (List.mem_of_mem_take hr)) h.len j
  have hf : D.rows.find? (fun r => r.s == j) = ((D.rows.take n).find? (fun r => r.s == j)).or ((D.rows.drop n).find? (fun r => r.s == j)) := by
    conv => lhs; rw [e, List.find?_append]
  show (match (D.rows.drop n).find? (fun r => r.s == j) with | some r => r.b | none => (downsM D (D.rows.take n)).plate.getD j Bk.zero) = (match D.rows.find? (fun r => r.s == j) with | some r => r.b | none => D.plate.getD j Bk.zero)
  rw [hd, hf]
  cases h1 : (D.rows.take n).find? (fun r => r.s == j) with
  | none => simp
  | some x =>
    cases h2 : (D.rows.drop n).find? (fun r => r.s == j) with
    | none => rfl
    | some y =>
      exfalso
      have hx : x.s = j := by simpa using List.find?_some h1
      have hy : y.s = j := by simpa using List.find?_some h2
      exact hnd.2.2 _ (List.mem_map.2 ⟨x, List.mem_of_find?_eq_some h1, rfl⟩) _ (List.mem_map.2 ⟨y, List.mem_of_find?_eq_some h2, rfl⟩) (hx.trans hy.symm)
theorem find_set (i : Nat) (b : Bk) (j : Nat) : ∀ (l : List Rw) (k : Nat), l.findIdx? (fun y => y.s == i) = some k → (l.set k ⟨i, b⟩).find? (fun r => r.s == j) = (if j = i then some ⟨i, b⟩ else l.find? (fun r => r.s == j)) ∧ (l.set k ⟨i, b⟩).map (·.s) = l.map (·.s)
  | [], k, h => by simp at h
  | x :: l, k, h => by
    rw [List.findIdx?_cons] at h
    by_cases hx : x.s = i
    · rw [if_pos (by simpa using hx)] at h
      obtain rfl : 0 = k := by simpa using h
      rw [List.set_cons_zero]
      refine ⟨?_, by simp [hx]⟩
      by_cases hj : j = i
      · rw [if_pos hj, List.find?_cons_of_pos (by simp [hj])]
      · rw [if_neg hj, List.find?_cons_of_neg (by simpa using fun h => hj h.symm), List.find?_cons_of_neg (by rw [hx]; simpa using fun h => hj h.symm)]
    · rw [if_neg (by simpa using hx)] at h
      obtain ⟨k', hk', rfl⟩ := Option.map_eq_some_iff.1 h
      obtain ⟨ih1, ih2⟩ := find_set i b j l k' hk'
      rw [List.set_cons_succ]
      refine ⟨?_, by simp [ih2]⟩
      by_cases hj : x.s = j
      · rw [List.find?_cons_of_pos (by simpa using hj), List.find?_cons_of_pos (by simpa using hj), if_neg (fun e => hx (hj.trans e))]
      · rw [List.find?_cons_of_neg (by simpa using hj), List.find?_cons_of_neg (by simpa using hj), ih1]
def setF (f : Nat → Bk) (x : Nat × Bk) : Nat → Bk := fun j => if j = x.1 then x.2 else f j
def putF (f : Nat → Bk) (l : List (Nat × Bk)) : Nat → Bk := l.foldl setF f
theorem shows_hold {D : Dk} {N i : Nat} (h : D.Nod N) (hi : i < N) (b : Bk) : (holdM D ⟨i, b⟩).Nod N ∧ showsM (holdM D ⟨i, b⟩) = setF (showsM D) (i, b) := by
  unfold holdM
  split
  · rename_i k hk
    have hk : D.rows.findIdx? (fun y => y.s == i) = some k := hk
    have hs := fun j => find_set i b j D.rows k hk
    refine ⟨⟨?_, fun r hr => ?_, h.len⟩, funext fun j => ?_⟩
    · show ((D.rows.set k ⟨i, b⟩).map (·.s)).Nodup
      rw [(hs 0).2]; exact h.once
    · rcases List.mem_or_eq_of_mem_set hr with h1 | h1
      · exact h.at_ r h1
      · rw [h1]; exact hi
    · show (match (D.rows.set k ⟨i, b⟩).find? (fun r => r.s == j) with | some r => r.b | none => D.plate.getD j Bk.zero) = (if j = i then b else showsM D j)
      rw [(hs j).1]
      by_cases hj : j = i
      · rw [if_pos hj, if_pos hj]
      · rw [if_neg hj, if_neg hj]; rfl
  · rename_i hk
    have hk : D.rows.findIdx? (fun y => y.s == i) = none := hk
    have hno : ∀ r ∈ D.rows, r.s ≠ i := fun r hr he => by
      have := List.findIdx?_eq_none_iff.1 hk r hr
      simp [he] at this
    obtain ⟨E, hE⟩ : ∃ E, (if D.rows.length = 8 then drainM D 1 else D) = E := ⟨_, rfl⟩
    rw [hE]
    have h2 : E.Nod N ∧ (∀ j, showsM E j = showsM D j) ∧ (∀ r ∈ E.rows, r.s ≠ i) := by
      rw [← hE]
      split
      · exact ⟨nod_drain h 1, shows_drain h 1, fun r hr => hno r (List.mem_of_mem_drop hr)⟩
      · exact ⟨h, fun _ => rfl, hno⟩
    refine ⟨⟨?_, fun r hr => ?_, h2.1.len⟩, funext fun j => ?_⟩
    · show ((E.rows ++ [(⟨i, b⟩ : Rw)]).map (·.s)).Nodup
      rw [List.map_append, List.nodup_append]
      refine ⟨h2.1.once, by simp, fun a ha c hc => ?_⟩
      obtain ⟨r, hr, rfl⟩ := List.mem_map.1 ha
      obtain rfl : c = i := by simpa using hc
      exact h2.2.2 r hr
    · rcases List.mem_append.1 hr with h1 | h1
      · exact h2.1.at_ r h1
      · rw [List.mem_singleton.1 h1]; exact hi
    · show (match (E.rows ++ [(⟨i, b⟩ : Rw)]).find? (fun r => r.s == j) with | some r => r.b | none => E.plate.getD j Bk.zero) = (if j = i then b else showsM D j)
      rw [← h2.2.1 j, List.find?_append]
      show _ = (if j = i then b else (match E.rows.find? (fun r => r.s == j) with | some r => r.b | none => E.plate.getD j Bk.zero))
      cases hf : E.rows.find? (fun r => r.s == j) with
      | some y =>
        have hy : y.s = j := by simpa using List.find?_some hf
        rw [if_neg (fun e => h2.2.2 y (List.mem_of_find?_eq_some hf) (hy.trans e))]
        rfl
      | none =>
        by_cases hj : j = i
        · rw [if_pos hj, List.find?_cons_of_pos (by simp [hj])]; rfl
        · rw [if_neg hj, List.find?_cons_of_neg (by simpa using fun h => hj h.symm)]; rfl
section
variable {D : Dk} {N : Nat}
theorem nod_turn {E : Dk} (h : D.Nod N) (h1 : E.plate = D.plate) (h2 : E.rows = D.rows) : E.Nod N := ⟨by rw [h2]; exact h.once, by rw [h2]; exact h.at_, by rw [h1]; exact h.len⟩
theorem shows_turn {E : Dk} (h1 : E.plate = D.plate) (h2 : E.rows = D.rows) : showsM E = showsM D := by
  funext j
  unfold showsM
  rw [h1, h2]
theorem write_shows (h : D.Well N) (hn : D.Nod N) {i : Nat} (hi : i < N) (b : Bk) : (writeM D (i : Int) b).1.Nod N ∧ showsM (writeM D (i : Int) b).1 = setF (showsM D) (i, b) := by
  have hr : reachE D (i : Int) = 0 := by
    unfold reachE
    rw [h.dead, h.len]
    simp
    omega
  unfold writeM
  rw [if_neg (by rw [hr]; simp), if_neg (by rw [h.fuse]; simp), if_neg (by rw [h.flaw]; simp)]
  have h1 := shows_hold (D := fuseM (flawM D)) (nod_turn hn rfl rfl) hi b
  have h2 : (i : Int).toNat = i := by simp
  rw [h2]
  exact ⟨nod_turn h1.1 rfl rfl, (shows_turn rfl rfl).trans (h1.2.trans (by rw [shows_turn (D := D) (E := fuseM (flawM D)) rfl rfl]))⟩
theorem sync_shows (h : D.Well N) (hn : D.Nod N) : (syncM D).1.Nod N ∧ showsM (syncM D).1 = showsM D := by
  unfold syncM
  rw [if_neg (by rw [h.dead]; simp), if_neg (by rw [h.fuse]; simp), if_neg (by rw [h.flaw]; simp)]
  have h0 : (fuseM (flawM D)).Nod N := nod_turn hn rfl rfl
  exact ⟨nod_turn (nod_drain h0 D.rows.length) rfl rfl, (shows_turn rfl rfl).trans (funext fun j => (shows_drain h0 D.rows.length j).trans (by rw [shows_turn (D := D) (E := fuseM (flawM D)) rfl rfl]))⟩
theorem puts_shows : ∀ (l : List (Nat × Bk)) {D : Dk}, D.Well N → D.Nod N → (∀ x ∈ l, x.1 < N) → (putsM D l).1.Nod N ∧ showsM (putsM D l).1 = putF (showsM D) l
  | [], D, h, hn, _ => ⟨hn, rfl⟩
  | x :: l, D, h, hn, hx => by
    obtain ⟨h1, h2⟩ := write_well h (hx x (by simp)) x.2
    obtain ⟨h3, h4⟩ := write_shows h hn (hx x (by simp)) x.2
    unfold putsM
    rw [if_pos h1]
    obtain ⟨h5, h6⟩ := puts_shows l h2 h3 (fun y hy => hx y (by simp [hy]))
    exact ⟨h5, by rw [h6, h4]; rfl⟩
theorem lay_shows (l : List (Nat × Bk)) (h : D.Well N) (hn : D.Nod N) (hx : ∀ x ∈ l, x.1 < N) : (layM D l).1.Nod N ∧ showsM (layM D l).1 = putF (showsM D) l := by
  obtain ⟨h1, h2⟩ := puts_well l h hx
  obtain ⟨h3, h4⟩ := puts_shows l h hn hx
  unfold layM
  rw [if_pos h1]
  obtain ⟨h5, h6⟩ := sync_shows h2 h3
  exact ⟨h5, h6.trans h4⟩
theorem lays_shows : ∀ (ls : List (List (Nat × Bk))) {D : Dk}, D.Well N → D.Nod N → (∀ l ∈ ls, ∀ x ∈ l, x.1 < N) → (laysM D ls).1.Nod N ∧ showsM (laysM D ls).1 = ls.foldl putF (showsM D)
  | [], D, h, hn, _ => ⟨hn, rfl⟩
  | l :: ls, D, h, hn, hx => by
    obtain ⟨h1, h2⟩ := lay_well l h (hx l (by simp))
    obtain ⟨h3, h4⟩ := lay_shows l h hn (hx l (by simp))
    unfold laysM
    rw [if_pos h1]
    obtain ⟨h5, h6⟩ := lays_shows ls h2 h3 (fun y hy => hx y (by simp [hy]))
    exact ⟨h5, by rw [h6, h4]; rfl⟩
theorem read_well (h : D.Well N) (hn : D.Nod N) {i : Nat} (hi : i < N) : (readM D (i : Int)).2.2 = 0 ∧ (readM D (i : Int)).2.1 = showsM D i ∧ (readM D (i : Int)).1.Well N ∧ (readM D (i : Int)).1.Nod N ∧ showsM (readM D (i : Int)).1 = showsM D := by
  have hr : reachE D (i : Int) = 0 := by
    unfold reachE
    rw [h.dead, h.len]
    simp
    omega
  unfold readM
  rw [if_neg (by rw [hr]; simp), if_neg (by rw [h.flaw]; simp)]
  exact ⟨rfl, by simp, ⟨h.dead, h.fuse, by simp [countM, flawM, h.flaw, passO], h.len⟩, nod_turn hn rfl rfl, shows_turn rfl rfl⟩
theorem reads_well (h : D.Well N) (hn : D.Nod N) (first : Nat) : ∀ k, first + k ≤ N → ∃ E, readsM D first k = (E, (List.range k).map (fun i => showsM D (first + i)), 0) ∧ E.Well N ∧ E.Nod N ∧ showsM E = showsM D
  | 0, _ => ⟨D, rfl, h, hn, rfl⟩
  | k + 1, hk => by
    obtain ⟨E, h1, h2, h3, h4⟩ := reads_well h hn first k (by omega)
    obtain ⟨e1, e2, e3, e4, e5⟩ := read_well h2 h3 (i := first + k) (by omega)
    obtain ⟨⟨E2, b, er⟩, hE2⟩ : ∃ x, readM E ((first + k : Nat) : Int) = x := ⟨_, rfl⟩
    rw [hE2] at e1 e2 e3 e4 e5
    have e1 : er = 0 := e1
    have e2 : b = showsM E (first + k) := e2
    have hx := readsM_next h1 hE2
    rw [if_neg (by rw [e1]; simp)] at hx
    refine ⟨E2, ?_, e3, e4, e5.trans h4⟩
    rw [hx, e2, h4, List.range_succ, List.map_append]
    rfl
end
/-- A row of sectors one behind the other. -/
theorem put_row (f : Nat → Bk) (first : Nat) (g : Nat → Bk) : ∀ k j, putF f ((List.range k).map fun i => (first + i, g i)) j = if first ≤ j ∧ j < first + k then g (j - first) else f j
  | 0, j => by rw [if_neg (by omega)]; rfl
  | k + 1, j => by
    have ih := put_row f first g k j
    unfold putF at ih ⊢
    rw [List.range_succ, List.map_append, List.foldl_append]
    show setF (((List.range k).map fun i => (first + i, g i)).foldl setF f) (first + k, g k) j = _
    show (if j = first + k then g k else ((List.range k).map fun i => (first + i, g i)).foldl setF f j) = _
    rw [ih]
    by_cases h1 : j = first + k
    · rw [if_pos h1, if_pos (by omega)]
      congr 1; omega
    · rw [if_neg h1]
      by_cases h2 : first ≤ j ∧ j < first + k
      · rw [if_pos h2, if_pos (by omega)]
      · rw [if_neg h2, if_neg (by omega)]
end Go.Proofs.Ytelpihlifdfgoaa
namespace Go.Proofs.Ytelpihlifdfgoaa
open Go.RowKit Go.Shelf
set_option linter.unusedVariables false
/-- Numbers off bytes. -/
def num4 (m : List Nat) (j : Nat) : Nat := pile 0 ((m.drop j).take 4) % 4294967296
def num2 (m : List Nat) (j : Nat) : Nat := pile 0 ((m.drop j).take 2) % 65536
/-- What sixty-four bytes say of a part; whether it is one's. -/
def ptOf (m : List Nat) : Pt := ⟨num4 m 0, num4 m 4, num2 m 8, num2 m 10, (m.drop 16).take 48⟩
def okPt (m : List Nat) : Bool := decide ((ptOf m).sz ≤ 48) && decide (num4 m 12 = (ptOf m).sum)
theorem num4_lt (m : List Nat) (j : Nat) : num4 m j ≤ 4294967295 := by unfold num4; omega
theorem num2_lt (m : List Nat) (j : Nat) : num2 m j ≤ 65535 := by unfold num2; omega
theorem ptOf_ok {m : List Nat} (hl : m.length = 64) (hB : Bys m) : (ptOf m).Ok :=
  ⟨num4_lt _ _, num4_lt _ _, num2_lt _ _, num2_lt _ _, by simp [ptOf, hl], (hB.drop _).take _⟩
theorem came_at {m : List Nat} {j n : Nat} (h : j + n ≤ m.length) : came m j 0 (n : Int) = (m.drop j).take n := by
  unfold came
  rw [if_neg (by simp), if_neg (by omega), if_neg (by omega), Int.toNat_natCast]
theorem off_at {m : List Nat} {j n : Nat} (h : j + n ≤ m.length) : offTo m.length j 0 (n : Int) = (j + n, 0) := by
  unfold offTo
  rw [if_neg (by simp), if_neg (by omega), if_neg (by omega), Int.toNat_natCast]
theorem u32_at {p g j : Nat} {m : List Nat} {w : World} (h : Rd w p g m j 0) (hB : Bys m) (hl : m.length = 64) (hj : j + 4 ≤ 64) :
    Calls Try.prog 56 #[.pointer (some ⟨p, 0, none⟩)] w fun e w' => e = .returned (.int .u32 ((num4 m j : Nat) : Int)) ∧ Rd w' p g m (j + 4) 0 ∧ w.grownBy w' (some p) := by
  refine (u32_any h hB (by omega)).mono fun e w' ⟨he, hA⟩ => ?_
  have e1 := came_at (m := m) (j := j) (n := 4) (by omega)
  have e2 := off_at (m := m) (j := j) (n := 4) (by omega)
  rw [show ((4 : Nat) : Int) = 4 from rfl] at e1 e2
  unfold Aft at hA
  rw [e2] at hA
  rw [e1] at he
  exact ⟨he, hA⟩
theorem u16_at {p g j : Nat} {m : List Nat} {w : World} (h : Rd w p g m j 0) (hB : Bys m) (hl : m.length = 64) (hj : j + 2 ≤ 64) :
    Calls Try.prog 99 #[.pointer (some ⟨p, 0, none⟩)] w fun e w' => e = .returned (.int .u16 ((num2 m j : Nat) : Int)) ∧ Rd w' p g m (j + 2) 0 ∧ w.grownBy w' (some p) := by
  refine (u16_any h hB (by omega)).mono fun e w' ⟨he, hA⟩ => ?_
  have e1 := came_at (m := m) (j := j) (n := 2) (by omega)
  have e2 := off_at (m := m) (j := j) (n := 2) (by omega)
  rw [show ((2 : Nat) : Int) = 2 from rfl] at e1 e2
  unfold Aft at hA
  rw [e2] at hA
  rw [e1] at he
  exact ⟨he, hA⟩
theorem raw_at {p g j n : Nat} {m : List Nat} {w : World} (h : Rd w p g m j 0) (hB : Bys m) (hl : m.length = 64) (hj : j + n ≤ 64) :
    Calls Try.prog 100 #[.pointer (some ⟨p, 0, none⟩), .int .i64 (n : Int)] w fun e w' => ∃ v, e = .returned v ∧ Handed w w' v ((m.drop j).take n) ∧ Rd w' p g m (j + n) 0 ∧ w.grownBy w' (some p) := by
  refine (raw_any h hB (by omega)).mono fun e w' ⟨v, he, hH, hA⟩ => ?_
  have e1 := came_at (m := m) (j := j) (n := n) (by omega)
  have e2 := off_at (m := m) (j := j) (n := n) (by omega)
  unfold Aft at hA
  rw [e2] at hA
  rw [e1] at hH
  exact ⟨v, he, hH, hA⟩
theorem zero_set4 (t n bh sz : Nat) : (((Pt.zero.cs.setIfInBounds 0 (.int .u32 (t : Int))).setIfInBounds 1 (.int .u32 (n : Int))).setIfInBounds 2 (.int .u16 (bh : Int))).setIfInBounds 3 (.int .u16 (sz : Int)) = (Pt.mk t n bh sz z48).cs := by
  rw [zero_set]
  unfold Pt.cs
  rw [Array.setIfInBounds_append]
  simp
-- the building of a part with all its numbers, as WalB's build_part
theorem build_part4 (t n bh sz : Nat) (w : World) : (Instr.build 126 #[(0, .int .u32 (t : Int)), (1, .int .u32 (n : Int)), (2, .int .u16 (bh : Int)), (3, .int .u16 (sz : Int))]).run Try.prog w = .ok (.agg (Pt.mk t n bh sz z48).cs) w := by
  have hz := (zero_of_info z_part).1 w
  have hu := run_underlying (P := Try.prog) Try.underlying126 w
  have h52 : Pt.zero.cs.size = 52 := rfl
  rw [← zero_set4]
  generalize Pt.zero.cs = zs at *
  unfold Instr.build
  simp only [Sem.run_bind, hz, hu, Result.andThen_ok]
  go_simp

theorem buildPt4_run (t n bh sz : Nat) (w : World) : (buildPt #[(0, .int .u32 (t : Int)), (1, .int .u32 (n : Int)), (2, .int .u16 (bh : Int)), (3, .int .u16 (sz : Int))]).run Try.prog w = .ok (.agg (Pt.mk t n bh sz z48).cs) w := build_part4 t n bh sz w
theorem part_copy4 {w : World} {t n bh sz g cap : Nat} {a : Option Addr} {m0 : List Nat} (hl : m0.length = 48) (hb : Blk w g 126 (Pt.mk t n bh sz z48).cs) (hL : Lies w a m0) :
    (wcopySem 3 #[.slice (some ⟨g, 4, none⟩) 48 48, .slice a 48 cap]).run Try.prog w = .ok (goInt 48) (w.setRow g (Pt.mk t n bh sz m0).cs) := by
  obtain ⟨ad, rfl, hsrc⟩ := hL.cells (by rw [hl]; omega)
  have := run_copy_row (P := Try.prog) w 29 29 3 5 g 4 48 48 ad 48 cap (Pt.mk t n bh sz z48).cs 126 (m0.map byc) Try.underlying29 Try.size5 hb (by rw [List.length_map, hl]; rfl) hsrc (by rw [Pt.size (by rfl), List.length_map, hl]; omega) (byc_one _)
  have e : ((Pt.mk t n bh sz z48).cs.toList.take 4 ++ m0.map byc ++ (Pt.mk t n bh sz z48).cs.toList.drop (4 + (m0.map byc).length)).toArray = (Pt.mk t n bh sz m0).cs := by
    have hd : (Pt.mk t n bh sz z48).cs.toList = [.int .u32 (t : Int), .int .u32 (n : Int), .int .u16 (bh : Int), .int .u16 (sz : Int)] ++ z48.map byc := by simp [Pt.cs]
    have hd2 : (Pt.mk t n bh sz m0).cs.toList = [.int .u32 (t : Int), .int .u32 (n : Int), .int .u16 (bh : Int), .int .u16 (sz : Int)] ++ m0.map byc := by simp [Pt.cs]
    rw [← Array.toList_inj, hd2, hd]
    obtain ⟨A, hA⟩ : ∃ A, [Value.int IntKind.u32 (t : Int), .int .u32 (n : Int), .int .u16 (bh : Int), .int .u16 (sz : Int)] = A := ⟨_, rfl⟩
    have hA4 : A.length = 4 := by rw [← hA]; rfl
    rw [hA, List.take_append_of_le_length (by omega), List.take_of_length_le (by omega), List.drop_append, List.drop_eq_nil_of_le (by rw [hA4, List.length_map]; omega), hA4, List.length_map, hl]
    simp [z48]
  rw [wcopySem, this, e, List.length_map, hl]
  rfl
theorem s_part0 : (Try.prog.info? 126).map (·.size) = some 52 := by kernel_rfl
theorem below_rowset {B : Nat} {w w' : World} {g : Nat} (h : Below B w w') (hg : B ≤ g) (cs : Array Value) : Below B w (w'.setRow g cs) :=
  h.trans ⟨rfl, rfl, rfl, by simp, fun k hk => setRow_other _ _ _ _ (by omega)⟩
theorem grown_tr {a b c : World} {r : Option Nat} (h : a.grownBy b r) (k : b.grownBy c r) : a.grownBy c r :=
  ⟨k.os.trans h.os, k.tape.trans h.tape, k.output.trans h.output, Nat.le_trans h.size k.size, fun i hi hr => (k.block i (Nat.lt_of_lt_of_le hi h.size) hr).trans (h.block i hi hr)⟩
theorem kept_gr {a b : World} {r : Nat} (h : a.grownBy b (some r)) : Kept [r] a b :=
  ⟨h.os, h.tape, h.output, h.size, fun k hk hm => h.block k hk (fun e => hm (by cases e; simp))⟩
theorem spart_new (w : World) (p : Pt) (h : p.l.length = 48) : (storeSem 126 (.pointer (some ⟨w.heap.size, 0, none⟩)) (.agg p.cs)).run Try.prog (w.alloc (.cells Pt.zero.cs 126)) = .ok () (w.alloc (.cells p.cs 126)) := by
  have := storeRes_of (P := Try.prog) (ty := 126) (o := 0) (vs := p.cs) (Blk.new w 126 Pt.zero.cs) (by rw [Pt.size h, Pt.size (by rfl)]; omega) (s_part h) p.one
  rwa [over_all (by rw [Pt.size h, Pt.size (by rfl)]), World.setRow_alloc_new] at this
theorem lies_blk {w : World} {g : Nat} {b : Bk} (h : Blk w g 81 b.cs) (hb : b.Byt) : Lies w (some ⟨g, 0, none⟩) b.n := by
  refine .inr ⟨g, 0, rfl, h.lt, fun i hi => ?_⟩
  have e : b.cs = (b.n.map byc).toArray := by
    conv => lhs; rw [hb.of]
    exact Bk.of_cs _ b.n_len
  rw [Nat.zero_add, h.cell, e]
  simp [byc, hi]
attribute [local go_sem ↓] wcopy_rule load_part_rule store_part_rule build_rule_pt
set_option maxRecDepth 100000 in
set_option maxHeartbeats 4000000 in
theorem partof_any (b : Bk) (hb : b.Byt) (w : World) : Calls Try.prog 97 #[.agg b.cs] w fun e w' => e = .returned (.tuple #[.agg (ptOf b.n).cs, .bool (okPt b.n)]) ∧ Below w.heap.size w w' := by
  obtain ⟨W1, hW1⟩ : ∃ W1, (w.alloc (.cells b.cs 81)).alloc (.cells Pt.zero.cs 126) = W1 := ⟨_, rfl⟩
  have bq : Blk W1 w.heap.size 81 b.cs := by rw [← hW1]; exact (Blk.new w _ _).alloc _
  have bz : Blk W1 (w.heap.size + 1) 126 Pt.zero.cs := by rw [← hW1]; exact Blk.wnew2 w _ _ _
  have hb1 : Below w.heap.size w W1 := by rw [← hW1]; exact ((Below.refl _ w).alloc (Nat.le_refl _) _).alloc (by simp) _
  have hrd := read_any (some ⟨w.heap.size, 0, none⟩) 64 64 b.n W1 b.n_len (by omega) (lies_blk bq hb)
  have hmB := hb.bys
  have hmL := b.n_len
  have HB := Lib.hid (And.intro bz hb1)
  clear bq bz hb1 hb
  generalize b.n = m at *
  generalize b.cs = bc at *
  go_enter Try.func97, Try.ntmps97
  go_wp2_with (first | (with_reducible refine wpList_alloc_z rfl 126 rfl Pt.zero.cs 52 z_part ?_))
  refine hrd.mono ?_
  rintro e W2 ⟨r, rfl, hr, hR2, hb2⟩
  clear hrd
  have HR2 := Lib.hid (And.intro hr (And.intro hR2 hb2))
  clear hr hR2 hb2
  go_wp2_with fail
  refine (u32_at HR2.out.2.1 hmB hmL (by omega)).mono ?_
  rintro e W3 ⟨rfl, hR3, hg3⟩
  go_wp2_with fail
  refine (u32_at hR3 hmB hmL (by omega)).mono ?_
  rintro e W4 ⟨rfl, hR4, hg4⟩
  go_wp2_with fail
  refine (u16_at hR4 hmB hmL (by omega)).mono ?_
  rintro e W5 ⟨rfl, hR5, hg5⟩
  go_wp2_with fail
  refine (u16_at hR5 hmB hmL (by omega)).mono ?_
  rintro e W6 ⟨rfl, hR6, hg6⟩
  have hG : W2.grownBy W6 (some r) := grown_tr (grown_tr (grown_tr hg3 hg4) hg5) hg6
  obtain ⟨pt, hpt⟩ : ∃ pt, (Pt.mk (num4 m (0)) (num4 m (0 + 4)) (num2 m (0 + 4 + 4)) (num2 m (0 + 4 + 4 + 2)) z48) = pt := ⟨_, rfl⟩
  have hbu := fun W => buildPt4_run (num4 m (0)) (num4 m (0 + 4)) (num2 m (0 + 4 + 4)) (num2 m (0 + 4 + 4 + 2)) W
  rw [hpt] at hbu
  have hsn := spart_new W6 pt (by rw [← hpt]; rfl)
  obtain ⟨W7, hW7⟩ : ∃ W7, W6.alloc (.cells pt.cs 126) = W7 := ⟨_, rfl⟩
  rw [hW7] at hsn
  have HG := Lib.hid (And.intro hG (And.intro hR6 (And.intro hpt hW7)))
  clear hR3 hR4 hR5 hR6 hg3 hg4 hg5 hg6 hG hpt hW7 hW1
  obtain ⟨m', hm'⟩ : ∃ m', m' = m := ⟨_, rfl⟩
  have HE := Lib.hid (show num4 m 0 = num4 m' 0 ∧ num4 m (0 + 4) = num4 m' 4 ∧ num2 m (0 + 4 + 4) = num2 m' 8 ∧ num2 m (0 + 4 + 4 + 2) = num2 m' 10 ∧ num4 m 12 = num4 m' 12 from by rw [hm']; exact ⟨rfl, rfl, rfl, rfl, rfl⟩)
  have HM := Lib.hid hm'
  clear hm'
  generalize num4 m 0 = n0 at *
  generalize num4 m (0 + 4) = n1 at *
  generalize num2 m (0 + 4 + 4) = n2 at *
  generalize num2 m (0 + 4 + 4 + 2) = n3 at *
  go_wp2_with (first | (with_reducible refine wpList_alloc_z rfl 126 rfl Pt.zero.cs 52 z_part ?_))
  have hR7 : Rd W7 r W1.heap.size m 12 0 := HG.out.2.1.below (by rw [← HG.out.2.2.2]; exact (Below.refl _ _).alloc (Nat.le_refl _) _)
  have b7 : Blk W7 W6.heap.size 126 pt.cs := by rw [← HG.out.2.2.2]; exact Blk.new _ _ _
  refine (u32_at hR7 hmB hmL (by omega)).mono ?_
  rintro e W8 ⟨rfl, hR8, hg8⟩
  have hrW : r < W6.heap.size := by
    have h1 := HG.out.2.1.cells
    exact (Array.getElem?_eq_some_iff.1 h1).1
  have b8 := b7.kept (kept_gr hg8) (by simp; omega)
  have H8 := Lib.hid (And.intro hR8 (And.intro b8 (And.intro (kept_gr hg8) hrW)))
  clear hR7 b7 hR8 hg8 b8 hsn hbu
  generalize num4 m 12 = n12 at *
  obtain ⟨P7, hP7⟩ : ∃ P7, W6.heap.size = P7 := ⟨_, rfl⟩
  rw [hP7] at H8 ⊢
  have HP := Lib.hid hP7
  clear hP7
  go_wp2_with fail
  refine wp_region_linY (fun _ => True) [3, 4] [0, 1, 2, 3, 4] (by kernel_rfl) (by kernel_rfl) trivial ?_
  (repeat (first | (refine linX_off rfl rfl (by rfl) ?_; (try simp only [Act.put, List.getElem_toArray, List.getElem_cons_zero, List.getElem_cons_succ, List.setIfInBounds_toArray, List.set_cons_zero, List.set_cons_succ])) | (refine linX_op (v := ?_) rfl rfl (by rfl) (fun w9 hS9 => ?_) ?_; rotate_left; (focus ((( go_simp; (try go_bits)) <;> with_reducible rfl))); (try simp only [Act.put, List.getElem_toArray, List.getElem_cons_zero, List.getElem_cons_succ, List.setIfInBounds_toArray, List.set_cons_zero, List.set_cons_succ]))))
  obtain ⟨m0, hm0⟩ : ∃ m0, (m.drop 16).take 48 = m0 := ⟨_, rfl⟩
  have hl0 : m0.length = 48 := by rw [← hm0]; simp [hmL]
  have hrw := raw_at (n := 48) (H8.out.1.below (show Below W8.heap.size W8 W8.drew from ⟨rfl, rfl, rfl, Nat.le_refl _, fun _ _ => rfl⟩)) hmB hmL (by omega)
  rw [hm0] at hrw
  have hrw' : Calls Try.prog 100 #[.pointer (some ⟨r, 0, none⟩), .int .i64 48] W8.drew fun e w' => ∃ a cap, e = .returned (.slice a 48 cap) ∧ Lies w' a m0 ∧ Kept [r] W8.drew w' := hrw.mono fun e w' ⟨v, he, ⟨a, cap, hv, hL, _, _⟩, _, hg⟩ => ⟨a, cap, by rw [he, hv, hl0], hL, kept_gr hg⟩
  obtain ⟨pf, hpf⟩ : ∃ pf, Pt.mk n0 n1 n2 n3 m0 = pf := ⟨_, rfl⟩
  have hptm : pf = ptOf m := by
    rw [← hpf, HE.out.1, HE.out.2.1, HE.out.2.2.1, HE.out.2.2.2.1, HM.out, ← hm0]
    rfl
  have hcp : ∀ (W : World) (a : Option Addr) (cap : Nat), Blk W P7 126 pt.cs → Lies W a m0 → (wcopySem 3 #[.slice (some ⟨P7, 4, none⟩) 48 48, .slice a 48 cap]).run Try.prog W = .ok (goInt 48) (W.setRow P7 pf.cs) := fun W a cap hb hL => by
    rw [← HG.out.2.2.1] at hb
    rw [← hpf]
    exact part_copy4 hl0 hb hL
  have HF := Lib.hid (And.intro hptm (And.intro hcp hl0))
  clear hrw hptm hcp hl0 hpf hm0
  refine linX_call (f := 100) (args := #[.pointer (some ⟨r, 0, none⟩), .int .i64 48]) rfl rfl (by rfl) rfl rfl (enters_of Try.func100 (by kernel_rfl) rfl) ?_ ?_
  · simp [Act.eval]
  refine hrw'.mono ?_
  rintro e W9 ⟨a9, cap9, rfl, hL9, hk9⟩
  clear hrw'
  have b9 : Blk W9 P7 126 pt.cs := H8.out.2.1.drew.kept hk9 (by have := H8.out.2.2.2; have := HP.out; simp; omega)
  have hc9 := HF.out.2.1 W9 a9 cap9 b9 hL9
  have bf9 := b9.row pf.cs
  obtain ⟨W10, hW10⟩ : ∃ W10, W9.setRow P7 pf.cs = W10 := ⟨_, rfl⟩
  rw [hW10] at hc9 bf9
  have hk810 : Kept [r, P7] W8.drew W10 := by rw [← hW10]; exact (hk9.more (by simp)).setRow (.inl (by simp)) _
  have HK := Lib.hid (And.intro bf9 hk810)
  clear b9 bf9 hk9 hL9 hk810 hW10
  refine ⟨_, rfl, trivial, ?_⟩
  (try simp only [Act.put, List.getElem_toArray, List.getElem_cons_zero, List.getElem_cons_succ, List.setIfInBounds_toArray, List.set_cons_zero, List.set_cons_succ])
  refine linX_do (v := goInt 48) (w' := W10) rfl rfl (by rfl) ?_ trivial ?_
  · (focus ((go_simp; (try go_bits)) <;> with_reducible rfl))
  (try simp only [Act.put, List.getElem_toArray, List.getElem_cons_zero, List.getElem_cons_succ, List.setIfInBounds_toArray, List.set_cons_zero, List.set_cons_succ])
  refine linX_nil ?_
  have hpo : pf.Ok := by rw [HF.out.1]; exact ptOf_ok hmL hmB
  have hf10 := HK.out.1
  have hk210 : Kept [r] W2 W6 := kept_gr HG.out.1
  have hbw : Below w.heap.size w W10 := by
    have h2 : Below w.heap.size w W2 := HB.out.2.trans (HR2.out.2.2.mono HB.out.2.size)
    have hrw : w.heap.size ≤ r := by have := HR2.out.1; have := HB.out.2.size; omega
    have h6 : Below w.heap.size w W6 := h2.trans (hk210.below (by simpa using hrw) h2.size)
    have h7 : Below w.heap.size w W7 := by rw [← HG.out.2.2.2]; exact h6.alloc h6.size _
    have h8 : Below w.heap.size w W8 := h7.trans (H8.out.2.2.1.below (by simpa using hrw) h7.size)
    have hp7 : w.heap.size ≤ P7 := by rw [← HP.out]; exact h6.size
    exact h8.drew.trans (HK.out.2.below (by simp; exact ⟨hrw, hp7⟩) h8.size)
  have hq1 : Blk W10 (w.heap.size + 1) 126 Pt.zero.cs := by
    have g1 := HB.out.1.lt
    have k2 := HB.out.1.kept (Kept.of_below [] HR2.out.2.2) (by simp)
    have g2 := HR2.out.2.2.size
    have k6 := k2.kept hk210 (by have := HR2.out.1; simp; omega)
    have k7 : Blk W7 (w.heap.size + 1) 126 Pt.zero.cs := by rw [← HG.out.2.2.2]; exact k6.alloc _
    have k8 := k7.kept H8.out.2.2.1 (by have := HR2.out.1; simp; omega)
    exact k8.drew.kept HK.out.2 (by have := HR2.out.1; have := HP.out; have := hk210.size; simp; omega)
  have HW := Lib.hid (And.intro hbw (And.intro hq1 (And.intro hf10 hpo)))
  clear hbw hq1 hk210
  obtain ⟨PC, hPC⟩ : ∃ PC, pf.cs = PC := ⟨_, rfl⟩
  have hPs : PC.size = 52 := by rw [← hPC]; exact Pt.size hpo.len
  have hPo : PC.all (·.oneCell') = true := by rw [← hPC]; exact pf.one
  have hch := fun W => check_any pf hpo W
  obtain ⟨S, hS⟩ : ∃ S : World → Prop, S = fun w' => Blk w' P7 126 PC := ⟨_, rfl⟩
  have L3 : ∀ w', S w' → w'.cell? ⟨P7, 3, none⟩ = some (.int .u16 (pf.sz : Int)) := fun w' h => by
    rw [hS] at h
    rw [h.cell, ← hPC]
    exact pf.c3
  have LP : ∀ w', S w' → (loadSem 126 (.pointer (some ⟨P7, 0, none⟩))).run Try.prog w' = .ok (.agg PC) w' := fun w' h => by
    rw [hS, ← hPC] at h
    rw [← hPC]
    exact lpart h hpo.len
  have hSb : ∀ (a b : World), S a → Below a.heap.size a b → S b := fun a b h k => by
    rw [hS] at h ⊢
    exact h.kept (Kept.of_below [] k) (by simp)
  have hP7 : w.heap.size + 1 ≠ P7 := by
    have := HB.out.1.lt
    have := HR2.out.2.2.size
    have := (kept_gr HG.out.1).size
    have := HP.out
    omega
  have hSr : ∀ (a : World) (cs : Array Value), S a → S (a.setRow (w.heap.size + 1) cs) := fun a cs h => by
    rw [hS] at h ⊢
    exact (setRow_other _ _ _ _ (Ne.symm hP7)).trans h
  have hS0 : S W10.drew := by rw [hS, ← hPC]; exact hf10.drew
  have hq1d : Blk W10.drew (w.heap.size + 1) 126 Pt.zero.cs := HW.out.2.1.drew
  have hbd : Below w.heap.size w W10.drew := HW.out.1.drew
  rw [hPC] at hch
  have HZ := Lib.hid (And.intro hPC (And.intro hpo hf10))
  clear hPC hpo hf10
  go_wp2_with fail
  by_cases hsz : pf.sz ≤ 48
  · have hszi : (pf.sz : Int) ≤ 48 := by omega
    have dsz : decide ((pf.sz : Int) ≤ 48) = true := decide_eq_true hszi
    refine wp_region_linY S [7, 10] [0, 1, 2, 3, 4, 5, 6, 7, 8, 9, 10, 11] (by kernel_rfl) (by kernel_rfl) hS0 ?_
    (repeat (first | (refine linX_off rfl rfl (by rfl) ?_; (try simp only [Act.put, List.getElem_toArray, List.getElem_cons_zero, List.getElem_cons_succ, List.setIfInBounds_toArray, List.set_cons_zero, List.set_cons_succ])) | (refine linX_op (v := ?_) rfl rfl (by rfl) (fun w9 hS9 => ?_) ?_; rotate_left; (focus (((have k0 := L3 w9 hS9; have k1 := LP w9 hS9; go_simp; (try go_bits)) <;> with_reducible rfl))); (try simp only [Act.put, List.getElem_toArray, List.getElem_cons_zero, List.getElem_cons_succ, List.setIfInBounds_toArray, List.set_cons_zero, List.set_cons_succ]))))
    refine linX_call (f := 82) (args := #[.agg PC]) rfl rfl (by rfl) rfl rfl (enters_of Try.func82 (by kernel_rfl) rfl) ?_ ?_
    · simp [Act.eval]
    refine (hch _).mono ?_
    rintro e W11 ⟨rfl, hb11⟩
    have S11 := hSb _ _ hS0 hb11
    have q11 := hq1d.kept (Kept.of_below [] hb11) (by simp)
    have bw11 : Below w.heap.size w W11 := bel_lat hbd hb11
    refine ⟨_, rfl, S11, ?_⟩
    (try simp only [Act.put, List.getElem_toArray, List.getElem_cons_zero, List.getElem_cons_succ, List.setIfInBounds_toArray, List.set_cons_zero, List.set_cons_succ])
    (repeat (first | (refine linX_off rfl rfl (by rfl) ?_; (try simp only [Act.put, List.getElem_toArray, List.getElem_cons_zero, List.getElem_cons_succ, List.setIfInBounds_toArray, List.set_cons_zero, List.set_cons_succ])) | (refine linX_op (v := ?_) rfl rfl (by rfl) (fun w9 hS9 => ?_) ?_; rotate_left; (focus (((have k0 := L3 w9 hS9; have k1 := LP w9 hS9; go_simp; (try go_bits)) <;> with_reducible rfl))); (try simp only [Act.put, List.getElem_toArray, List.getElem_cons_zero, List.getElem_cons_succ, List.setIfInBounds_toArray, List.set_cons_zero, List.set_cons_succ]))))
    have hsto := storeRes_of (P := Try.prog) (ty := 126) (o := 0) (vs := PC) q11 (by rw [hPs, Pt.size (by rfl)]; omega) (by rw [hPs]; exact s_part0) hPo
    rw [over_all (by rw [hPs, Pt.size (by rfl)])] at hsto
    have qE := q11.row PC
    have bE : Below w.heap.size w (W11.setRow (w.heap.size + 1) PC) := below_rowset bw11 (by omega) PC
    have SE : S (W11.setRow (w.heap.size + 1) PC) := hSr _ _ S11
    refine linX_store (w' := W11.setRow (w.heap.size + 1) PC) rfl rfl (by rfl) ?_ SE ?_
    · (focus ((go_simp; (try go_bits)) <;> with_reducible rfl))
    (try simp only [Act.put, List.getElem_toArray, List.getElem_cons_zero, List.getElem_cons_succ, List.setIfInBounds_toArray, List.set_cons_zero, List.set_cons_succ])
    (repeat (first | (refine linX_off rfl rfl (by rfl) ?_; (try simp only [Act.put, List.getElem_toArray, List.getElem_cons_zero, List.getElem_cons_succ, List.setIfInBounds_toArray, List.set_cons_zero, List.set_cons_succ])) | (refine linX_op (v := ?_) rfl rfl (by rfl) (fun w9 hS9 => ?_) ?_; rotate_left; (focus (((have k0 := L3 w9 hS9; have k1 := LP w9 hS9; go_simp; (try go_bits)) <;> with_reducible rfl))); (try simp only [Act.put, List.getElem_toArray, List.getElem_cons_zero, List.getElem_cons_succ, List.setIfInBounds_toArray, List.set_cons_zero, List.set_cons_succ]))))
    refine linX_nil ?_
    go_wp2_with fail
    refine bodyPost_ret (results_blk (p := 2) (u := 3) (ty := 126) rfl _ _ (w.heap.size + 1) PC _ rfl qE Try.underlying126 rfl (by rw [hPs]; exact s_part0)) rfl ?_
    refine ⟨?_, bE⟩
    rw [HZ.out.1.symm, HF.out.1]
    show Ending.returned (.tuple #[.agg (ptOf m).cs, .bool ((n12 : Int) == ((ptOf m).sum : Int))]) = _
    have h4 : n12 = num4 m 12 := by rw [HE.out.2.2.2.2, HM.out]
    rw [HF.out.1] at hsz
    have : okPt m = ((n12 : Int) == ((ptOf m).sum : Int)) := by
      unfold okPt
      rw [decide_eq_true hsz, Bool.true_and, h4]
      by_cases hq : num4 m 12 = (ptOf m).sum
      · rw [hq]; simp
      · rw [decide_eq_false hq]
        have : ¬ ((num4 m 12 : Nat) : Int) = ((ptOf m).sum : Int) := by omega
        exact (beq_eq_false_iff_ne.2 this).symm
    rw [this]
  · have hszi : ¬ (pf.sz : Int) ≤ 48 := by omega
    have dsz : decide ((pf.sz : Int) ≤ 48) = false := decide_eq_false hszi
    refine wp_region_linY S [10] [0, 1, 2, 3, 4, 5, 6, 7, 8, 9, 10, 11] (by kernel_rfl) (by kernel_rfl) hS0 ?_
    (repeat (first | (refine linX_off rfl rfl (by rfl) ?_; (try simp only [Act.put, List.getElem_toArray, List.getElem_cons_zero, List.getElem_cons_succ, List.setIfInBounds_toArray, List.set_cons_zero, List.set_cons_succ])) | (refine linX_op (v := ?_) rfl rfl (by rfl) (fun w9 hS9 => ?_) ?_; rotate_left; (focus (((have k0 := L3 w9 hS9; have k1 := LP w9 hS9; go_simp; (try go_bits)) <;> with_reducible rfl))); (try simp only [Act.put, List.getElem_toArray, List.getElem_cons_zero, List.getElem_cons_succ, List.setIfInBounds_toArray, List.set_cons_zero, List.set_cons_succ]))))
    have hsto := storeRes_of (P := Try.prog) (ty := 126) (o := 0) (vs := PC) hq1d (by rw [hPs, Pt.size (by rfl)]; omega) (by rw [hPs]; exact s_part0) hPo
    rw [over_all (by rw [hPs, Pt.size (by rfl)])] at hsto
    have qE := hq1d.row PC
    have bE : Below w.heap.size w (W10.drew.setRow (w.heap.size + 1) PC) := below_rowset hbd (by omega) PC
    have SE : S (W10.drew.setRow (w.heap.size + 1) PC) := hSr _ _ hS0
    refine linX_store (w' := W10.drew.setRow (w.heap.size + 1) PC) rfl rfl (by rfl) ?_ SE ?_
    · (focus ((go_simp; (try go_bits)) <;> with_reducible rfl))
    (try simp only [Act.put, List.getElem_toArray, List.getElem_cons_zero, List.getElem_cons_succ, List.setIfInBounds_toArray, List.set_cons_zero, List.set_cons_succ])
    (repeat (first | (refine linX_off rfl rfl (by rfl) ?_; (try simp only [Act.put, List.getElem_toArray, List.getElem_cons_zero, List.getElem_cons_succ, List.setIfInBounds_toArray, List.set_cons_zero, List.set_cons_succ])) | (refine linX_op (v := ?_) rfl rfl (by rfl) (fun w9 hS9 => ?_) ?_; rotate_left; (focus (((have k0 := L3 w9 hS9; have k1 := LP w9 hS9; go_simp; (try go_bits)) <;> with_reducible rfl))); (try simp only [Act.put, List.getElem_toArray, List.getElem_cons_zero, List.getElem_cons_succ, List.setIfInBounds_toArray, List.set_cons_zero, List.set_cons_succ]))))
    refine linX_nil ?_
    go_wp2_with fail
    refine bodyPost_ret (results_blk (p := 2) (u := 3) (ty := 126) rfl _ _ (w.heap.size + 1) PC _ rfl qE Try.underlying126 rfl (by rw [hPs]; exact s_part0)) rfl ?_
    refine ⟨?_, bE⟩
    rw [HZ.out.1.symm, HF.out.1]
    rw [HF.out.1] at hsz
    have : okPt m = false := by
      unfold okPt
      rw [decide_eq_false hsz, Bool.false_and]
    rw [this]
    rfl
end Go.Proofs.Ytelpihlifdfgoaa
