/-
  The document's arena and the program's: publishing and raising of both. Nothing here is a statement of the document.
-/
import Derived.Test.YtoidklkloagioaaRfR
import Derived.Test.YtoidklkloagioaaArnU
import Derived.Test.YtoidklkloagioaaRfQ
import Derived.Test.YtoidklkloagioaaRfI
namespace Go.Proofs.Ytoidklkloagioaa
open Go.RowKit Go.Shelf
set_option linter.unusedVariables false
theorem nodup_len : ∀ (n : Nat) (l : List Nat), l.Nodup → (∀ x ∈ l, x < n) → l.length ≤ n
  | 0, l, _, h => by
    cases l with
    | nil => simp
    | cons x l => exact absurd (h x (by simp)) (by omega)
  | n + 1, l, hn, h => by
    by_cases hm : n ∈ l
    · have h1 := nodup_len n (l.erase n) (hn.erase n) (fun x hx => by
        have h2 := h x (List.mem_of_mem_erase hx)
        have h3 : x ≠ n := fun e => by subst e; exact hn.not_mem_erase hx
        omega)
      have := List.length_erase_of_mem hm
      omega
    · have := nodup_len n l hn (fun x hx => by
        have h2 := h x hx
        have h3 : x ≠ n := fun e => hm (e ▸ hx)
        omega)
      omega
section
variable {ws : List Nat} {bs : List Bool} {M : Mo}
theorem mem_bl {b : Rb} (h : b ∈ M.R) : b.bl ∈ M.B := List.mem_map.2 ⟨b, h, rfl⟩
theorem get_bl {k : Nat} {b : Rb} (h : M.R[k]? = some b) : M.B[k]? = some b.bl := by simp [Mo.B, h]
/-- In a chain places are apart. -/
theorem chain_uq : ∀ {B : List Bl} {a0 : Nat}, Chain ws a0 B → ∀ (i j : Nat) (b b' : Bl), B[i]? = some b → B[j]? = some b' → b.x = b'.x → i = j
  | [], _, _, i, j, b, b', hi, _, _ => by simp at hi
  | d :: B, a0, h, i, j, b, b', hi, hj, he => by
    have hlow : ∀ (k : Nat) (c : Bl), B[k]? = some c → a0 + 1 + 2 ^ d.c + 1 ≤ c.x := fun k c hk => (chain_low (h.2.2.2.2) (List.mem_of_getElem? hk))
    have hd := h.1
    have hz : 0 ≤ 2 ^ d.c := Nat.zero_le _
    cases i with
    | zero =>
      cases j with
      | zero => rfl
      | succ j =>
        rw [List.getElem?_cons_zero] at hi
        rw [List.getElem?_cons_succ] at hj
        obtain rfl : d = b := by simpa using hi
        have := hlow j b' hj
        generalize 2 ^ d.c = z at *
        omega
    | succ i =>
      rw [List.getElem?_cons_succ] at hi
      cases j with
      | zero =>
        rw [List.getElem?_cons_zero] at hj
        obtain rfl : d = b' := by simpa using hj
        have := hlow i b hi
        generalize 2 ^ d.c = z at *
        omega
      | succ j =>
        rw [List.getElem?_cons_succ] at hj
        have := chain_uq h.2.2.2.2 i j b b' hi hj he
        omega
where
  chain_low {ws : List Nat} : ∀ {B : List Bl} {a0 : Nat}, Chain ws a0 B → ∀ {b : Bl}, b ∈ B → a0 + 1 ≤ b.x
  | [], _, _, b, hb => by simp at hb
  | d :: B, a0, h, b, hb => by
    rcases List.mem_cons.1 hb with rfl | hb
    · have := h.1; omega
    · have := chain_low h.2.2.2.2 hb
      have hz : 0 ≤ 2 ^ d.c := Nat.zero_le _
      generalize 2 ^ d.c = z at *
      omega
theorem mok_of (hI : Inv ws bs M.B M.L) (hhi : ws.length ≤ 16384) (hn : M.N = ws.length) (hw : ∀ b ∈ M.R, b.ws.length = 2 ^ b.c) : Mok M := by
  have hE := hI.edge
  have hcl := chain_len hI.chain
  have hB : M.B.length = M.R.length := by simp [Mo.B]
  refine ⟨fun b hb => ⟨(hI.at (mem_bl hb)).1, hw b hb, ?_⟩, fun i j b b' hi hj he => chain_uq hI.chain i j b.bl b'.bl (get_bl hi) (get_bl hj) he, by omega, fun c hc => ?_, by omega⟩
  · have := hI.lt_edge (mem_bl hb)
    have hx : b.bl.x = b.x := rfl
    omega
  · refine Nat.le_trans (nodup_len 16384 _ (hI.nodup c hc) (fun x hx => ?_)) (by omega)
    obtain ⟨d, hd, rfl, _, _⟩ := hI.free_of hc hx
    have := hI.lt_edge hd
    omega
theorem lists_len (hI : Inv ws bs M.B M.L) (hhi : ws.length ≤ 16384) {c : Nat} (hc : c ≤ 5) : (M.L c).length < 20000 := by
  have hE := hI.edge
  refine Nat.lt_of_le_of_lt (nodup_len 16384 _ (hI.nodup c hc) (fun x hx => ?_)) (by omega)
  obtain ⟨d, hd, rfl, _, _⟩ := hI.free_of hc hx
  have := hI.lt_edge hd
  omega
/-- One block marked, the others as they were. -/
theorem marked_set (hI : Inv ws bs M.B M.L) {k : Nat} {b b' : Rb} (hb : M.R[k]? = some b) {t : Bool} (hx : b'.bl = b.bl.mark t) : (M.R.set k b').map Rb.bl = marked M.B b.x t := by
  apply List.ext_getElem?
  intro i
  unfold marked Mo.B
  rw [List.getElem?_map, List.getElem?_map, List.getElem?_map, List.getElem?_set]
  have hk := (List.getElem?_eq_some_iff.1 hb).1
  by_cases hi : k = i
  · subst hi
    rw [if_pos rfl, if_pos hk, hb]
    show some b'.bl = some (if b.bl.x = b.x then b.bl.mark t else b.bl)
    rw [if_pos (show b.bl.x = b.x from rfl), hx]
  · rw [if_neg hi]
    cases h9 : M.R[i]? with
    | none => rfl
    | some d =>
      show some d.bl = some (if d.bl.x = b.x then d.bl.mark t else d.bl)
      rw [if_neg]
      intro e
      exact hi (chain_uq hI.chain k i b.bl d.bl (get_bl hb) (get_bl h9) (by rw [e]; rfl))
/-- The first nine words are as they were. -/
theorem Same.low {ws' : List Nat} (h : Same ws M) {R' : List Rb} {L' : Nat → List Nat} (hl : ws'.length = ws.length) (hlo : ∀ i, 1 ≤ i → i ≤ 8 → ws'.getD i 0 = ws.getD i 0) (hw : ∀ b ∈ R', b.t = true → ∀ j, j < 2 ^ b.c → b.ws.getD j 0 = ws'.getD (b.x + j) 0) : Same ws' { M with R := R', L := L' } :=
  ⟨by show M.N = _; rw [hl]; exact h.n, hw, by show M.v = _; rw [h.v, twoN_same (hlo 1 (by omega) (by omega)) (hlo 2 (by omega) (by omega))], by show M.e = _; rw [h.e, twoN_same (hlo 3 (by omega) (by omega)) (hlo 4 (by omega) (by omega))], by show M.four = _; rw [h.four, hlo 5 (by omega) (by omega)], by show M.six = _; rw [h.six, hlo 6 (by omega) (by omega)], by show M.gd = _; rw [h.gd, twoN_same (hlo 7 (by omega) (by omega)) (hlo 8 (by omega) (by omega))]⟩
theorem repl_get (z j : Nat) : (List.replicate z 0).getD j 0 = 0 := by
  simp only [List.getD_eq_getElem?_getD, List.getElem?_replicate]
  split <;> rfl
theorem same_list (h : Same ws M) (hI : Inv ws bs M.B M.L) (hN : Nice ws M.B) {c k : Nat} {b : Rb} {r : List Nat} (hc : c ≤ 5) (hL : M.L c = b.x :: r) (hb : M.R[k]? = some b) (hbc : b.c = c) : Same (listW ws c b.x) { M with R := M.R.set k { b with t := true, ws := List.replicate (2 ^ c) 0 }, L := upd M.L c r } := by
  obtain ⟨h1, h2, h3, _⟩ := hI.list hc hL
  obtain ⟨b0, hb0, hx0, hc0, ht0⟩ := hI.free_of hc (show b.x ∈ M.L c by rw [hL]; simp)
  have hbb : b0 = b.bl := chain_same hI.chain (Nat.le_refl _) hb0 (mem_bl (List.mem_of_getElem? hb)) hx0
  subst hbb
  have hg := fun i => listW_get (ws := ws) hc h2 h3 i
  have hst := hI.step_list hc hL (fun _ => False)
  refine h.low (listW_len _ _ _) (fun i h4 h5 => by rw [hg, if_neg (by omega), if_neg (by omega), if_neg (by omega)]) (fun d hd ht j hj => ?_)
  obtain ⟨i, hi⟩ := List.mem_iff_getElem?.1 hd
  rcases set_same hi with ⟨rfl, rfl, _⟩ | ⟨_, h9⟩
  · show (List.replicate (2 ^ c) 0).getD j 0 = (listW ws c b.x).getD (b.x + j) 0
    rw [repl_get, hg]
    by_cases h0 : j = 0
    · rw [if_neg (by omega), if_pos (by omega)]
    · rw [if_neg (by omega), if_neg (by omega), if_neg (by omega)]
      exact (hN.nought b.bl hb0 ht0 (b.x + j) (by show b.x < _; omega) (by show _ < b.x + 2 ^ b.c; have : j < 2 ^ b.c := hj; omega)).symm
  · have hm := List.mem_of_getElem? h9
    rw [h.words d hm ht j hj]
    exact ((hst.keep d.bl (mem_bl hm) ht (fun h => h)).2 j hj).symm
theorem same_grow (h : Same ws M) (hI : Inv ws bs M.B M.L) (hN : Nice ws M.B) {c : Nat} (hc : c ≤ 5) (hf : ws.getD 15 0 + 1 + 2 ^ c ≤ ws.length) : Same (growW ws c) { M with R := M.R ++ [⟨ws.getD 15 0 + 1, c, true, List.replicate (2 ^ c) 0⟩] } := by
  have h16 := hI.edge16
  have hp := (pow5 hc).1
  have hg := fun i => growW_get (c := c) h16 (by omega : ws.getD 15 0 < ws.length) i
  have hst := hI.step_grow hc hf (fun _ => False)
  refine h.low (L' := M.L) (growW_len _ _) (fun i h1 h2 => by rw [hg, if_neg (by omega), if_neg (by omega)]) (fun d hd ht j hj => ?_)
  rcases List.mem_append.1 hd with hd | hd
  · rw [h.words d hd ht j hj]
    exact ((hst.keep d.bl (mem_bl hd) ht (fun h => h)).2 j hj).symm
  · obtain rfl : d = _ := by simpa using hd
    show (List.replicate (2 ^ c) 0).getD j 0 = (growW ws c).getD (ws.getD 15 0 + 1 + j) 0
    have hj' : j < 2 ^ c := hj
    rw [repl_get, hg, if_neg (by omega), if_neg (by omega)]
    exact (hN.behind _ (by omega) (by omega)).symm
theorem same_free (h : Same ws M) (hI : Inv ws bs M.B M.L) {k : Nat} {b : Rb} (hb : M.R[k]? = some b) (ht : b.t = true) (hx5 : ws.getD 5 0 ≠ b.x) (hx6 : ws.getD 6 0 ≠ b.x) : Same (freeW ws b.x b.c) { M with R := M.R.set k { b with t := false }, L := upd M.L b.c (b.x :: M.L b.c) } := by
  have hm := mem_bl (List.mem_of_getElem? hb)
  obtain ⟨hc, h2, hh, he⟩ := hI.at hm
  have hE := hI.edge
  have hg := fun i => freeW_get (ws := ws) (c := b.c) (x := b.x) hc h2 (Nat.le_trans he hE) i
  have hst := hI.step_free hm ht hx5 hx6
  have h17 : 17 ≤ b.x := h2
  refine h.low (freeW_len _ _ _) (fun i h4 h5 => by rw [hg, if_neg (by omega), if_neg (by omega), if_neg (by omega), if_neg (by omega)]) (fun d hd htd j hj => ?_)
  obtain ⟨i, hi⟩ := List.mem_iff_getElem?.1 hd
  rcases set_same hi with ⟨rfl, rfl, _⟩ | ⟨hne, h9⟩
  · cases htd
  · have hm9 := List.mem_of_getElem? h9
    rw [h.words d hm9 htd j hj]
    refine ((hst.keep d.bl (mem_bl hm9) htd (fun e => hne ?_)).2 j hj).symm
    exact chain_uq hI.chain k i b.bl d.bl (get_bl hb) (get_bl h9) (by have e' : (d.bl.x : Int) = (b.x : Int) := e; show b.x = d.bl.x; omega)
theorem same_store (h : Same ws M) (hI : Inv ws bs M.B M.L) {k : Nat} {b : Rb} (hb : M.R[k]? = some b) (ht : b.t = true) (hbl : b.ws.length = 2 ^ b.c) {i : Nat} (hi : i < 2 ^ b.c) (y : Nat) : Same (ws.set (b.x + i) y) { M with R := M.R.set k { b with ws := b.ws.set i y } } := by
  have hm := mem_bl (List.mem_of_getElem? hb)
  obtain ⟨hc, h2, hh, he⟩ := hI.at hm
  have hE := hI.edge
  have he' : b.x + 2 ^ b.c ≤ ws.getD 15 0 := he
  have h17 : 17 ≤ b.x := h2
  have hst := hI.step_store hm ht hi y
  have hlt : b.x + i < ws.length := by omega
  refine h.low (L' := M.L) (by simp) (fun q h4 h5 => by rw [getD_set _ _ _ _ _ hlt, if_neg (by omega)]) (fun d hd htd j hj => ?_)
  obtain ⟨q, hq⟩ := List.mem_iff_getElem?.1 hd
  rcases set_same hq with ⟨rfl, rfl, _⟩ | ⟨hne, h9⟩
  · show (b.ws.set i y).getD j 0 = _
    have hj' : j < 2 ^ b.c := hj
    rw [getD_set _ _ _ _ _ (by omega), getD_set _ _ _ _ _ hlt, h.words b (List.mem_of_getElem? hb) ht j hj]
    by_cases hij : i = j
    · rw [if_pos hij, if_pos (by show b.x + i = b.x + j; omega)]
    · rw [if_neg hij, if_neg (by show ¬ (b.x + i = b.x + j); omega)]
  · have hm9 := List.mem_of_getElem? h9
    rw [h.words d hm9 htd j hj]
    refine ((hst.keep d.bl (mem_bl hm9) htd (fun e => hne ?_)).2 j hj).symm
    exact chain_uq hI.chain k q b.bl d.bl (get_bl hb) (get_bl h9) (by have e' : (d.bl.x : Int) = (b.x : Int) := e; show b.x = d.bl.x; omega)
end
end Go.Proofs.Ytoidklkloagioaa
namespace Go.Proofs.Ytoidklkloagioaa
open Go.RowKit Go.Shelf
set_option linter.unusedVariables false
/-- What is answered of the document's arena, changed or not. -/
def An (W W' : World) (lo : Nat) (v : Value) (M' : Mo) : Prop := ∃ bv' ls' vs' lo', v = .agg (M'.vals bv' ls') ∧ Rfa W' lo' bv' ls' vs' M' ∧ lo ≤ lo' ∧ lo' ≤ W'.heap.size ∧ Below W.heap.size W W'
theorem An.of_ans {W W' : World} {lo : Nat} {v : Value} {M' : Mo} (h : Ans W W' v M') (hlo : lo ≤ W.heap.size) : An W W' lo v M' := by
  obtain ⟨bv', ls', vs', h1, h2, h3⟩ := h
  exact ⟨bv', ls', vs', W.heap.size, h1, h2, hlo, h3.size, h3⟩
theorem An.same {W W' : World} {lo : Nat} {bv : Value} {ls : Nat → Value} {vs : List Value} {M : Mo} (h : Rfa W lo bv ls vs M) (hb : Below W.heap.size W W') (hlo : lo ≤ W.heap.size) : An W W' lo (.agg (M.vals bv ls)) M :=
  ⟨bv, ls, vs, lo, rfl, h.later hb, Nat.le_refl _, Nat.le_trans hlo hb.size, hb⟩
/-- What holds of both. -/
structure Pur (ws : List Nat) (bs : List Bool) (M : Mo) : Prop where
  inv : Inv ws bs M.B M.L
  nice : Nice ws M.B
  same : Same ws M
section
variable {g p q : Nat} {ws : List Nat} {bs : List Bool} {M : Mo}
theorem kept_drewN (w : World) (n : Nat) (S : List Nat) : Kept S w (w.drewN n) := (Kept.refl S w).drewN n
/-- A place: a block that is taken is there, or none, in both. -/
theorem Pur.cases (h : Pur ws bs M) (x : Int) : (∃ (k : Nat) (b : Rb), M.R[k]? = some b ∧ b.t = true ∧ x = (b.x : Int) ∧ Yes ws bs b.x b.c) ∨ (No ws bs x ∧ ∀ b ∈ M.R, b.t = true → (b.x : Int) ≠ x) := by
  rcases h.inv.cases x with ⟨d, hd, ht, rfl⟩ | ⟨hn, hx⟩
  · obtain ⟨b, hb, rfl⟩ := List.mem_map.1 hd
    obtain ⟨k, hk⟩ := List.mem_iff_getElem?.1 hb
    exact .inl ⟨k, b, hk, ht, rfl, h.inv.yes hd ht⟩
  · exact .inr ⟨hn, fun b hb ht => hx b.bl (mem_bl hb) ht⟩
theorem alloc_both (h : Pur ws bs M) (hbl : bs.length = ws.length) (hlo : 64 ≤ ws.length) (hhi : ws.length ≤ 16384) (hwl : ∀ b ∈ M.R, b.ws.length = 2 ^ b.c) (c : Int) : ∃ (ws' : List Nat) (bs' : List Bool) (M' : Mo) (x er : Int),
    (∀ W, Ar W g p q ws bs → Calls Try.prog 11 #[.pointer (some ⟨g, 0, none⟩), .int .i64 c] W fun e W' => e = .returned (.tuple #[.int .i64 x, .int .i64 er]) ∧ Ar W' g p q ws' bs' ∧ Kept [p, q] W W') ∧
    (∀ W lo bv ls vs, Rfa W lo bv ls vs M → lo ≤ W.heap.size → Calls Try.prog 22 #[.agg (M.vals bv ls), .int .i64 c] W fun e W' => ∃ v, e = .returned (.tuple #[v, .int .i64 x, .int .i64 er]) ∧ An W W' lo v M') ∧ Pur ws' bs' M' := by
  by_cases hc : c < 0 ∨ 5 < c
  · exact ⟨ws, bs, M, 0, 2, fun W hA => (alloc_arg c hc ⟨g, 0, none⟩ W).mono fun e W' ⟨h1, h2⟩ => ⟨h1, h2 ▸ hA, h2 ▸ Kept.refl _ _⟩, fun W lo bv ls vs hR hl => (ralloc_arg hR c hc).mono fun e W' ⟨h1, h2⟩ => ⟨_, h1, An.same hR h2 hl⟩, h⟩
  · obtain ⟨n, rfl⟩ := Int.eq_ofNat_of_zero_le (show 0 ≤ c by omega)
    have hn : n ≤ 5 := by omega
    have hls := h.inv.lst n hn
    cases hL : M.L n with
    | nil =>
      rw [hL] at hls
      have h0 : ws.getD (9 + n) 0 = 0 := hls
      by_cases hf : ws.getD 15 0 + 1 + 2 ^ n ≤ ws.length
      · have hI' := h.inv.grow hbl hn hf
        have hS' := same_grow h.same h.inv h.nice hn hf
        have hed := edge_eq h.inv
        have hp : Pur (growW ws n) (bs.set (ws.getD 15 0 + 1) true) { M with R := M.R ++ [⟨ws.getD 15 0 + 1, n, true, List.replicate (2 ^ n) 0⟩] } := by
          have e : Mo.B { M with R := M.R ++ [⟨ws.getD 15 0 + 1, n, true, List.replicate (2 ^ n) 0⟩] } = M.B ++ [⟨ws.getD 15 0 + 1, n, true⟩] := by simp [Mo.B, Rb.bl]
          exact ⟨by rw [e]; exact hI', by rw [e]; exact (h.inv.step_grow hn hf (fun _ => False)).nice h.nice, hS'⟩
        have hM : Mok { M with R := M.R ++ [⟨M.edge + 1, n, true, List.replicate (2 ^ n) 0⟩] } := by
          rw [hed]
          exact mok_of hp.inv (by rw [growW_len]; exact hhi) hp.same.n (fun b hb => by
            rcases List.mem_append.1 hb with hb | hb
            · exact hwl b hb
            · obtain rfl : b = _ := by simpa using hb
              simp)
        refine ⟨_, _, _, ((ws.getD 15 0 + 1 : Nat) : Int), 0, fun W hA => alloc_grow hA n hn h0 h.inv.edge16 hf, fun W lo bv ls vs hR hl => (ralloc_grow hR n hn hL (by rw [hed, h.same.n]; exact hf) hM).mono fun e W' ⟨u, h1, h2⟩ => ?_, hp⟩
        rw [hed] at h1 h2
        exact ⟨u, h1, An.of_ans h2 hl⟩
      · have hed := edge_eq h.inv
        have hE := h.inv.edge
        exact ⟨ws, bs, M, 0, 6, fun W hA => (alloc_full hA n hn h0 h.inv.edge16 hE (by omega)).mono fun e W' ⟨h1, h2⟩ => ⟨h1, h2 ▸ hA, h2 ▸ Kept.refl _ _⟩, fun W lo bv ls vs hR hl => (ralloc_full hR n hn hL (by rw [hed, h.same.n]; omega) (by rw [hed]; omega)).mono fun e W' ⟨h1, h2⟩ => ⟨_, h1, An.same hR h2 hl⟩, h⟩
    | cons y r =>
      rw [hL] at hls
      obtain ⟨hl1, hl2, hl3, hI'⟩ := h.inv.list hn hL
      obtain ⟨d, hd, hdx, hdc, hdt⟩ := h.inv.free_of hn (show y ∈ M.L n by rw [hL]; simp)
      obtain ⟨b, hb, rfl⟩ := List.mem_map.1 hd
      obtain ⟨k, hk⟩ := List.mem_iff_getElem?.1 hb
      have hbx : b.x = y := hdx
      have hbc : b.c = n := hdc
      subst hbx
      have e : Mo.B { M with R := M.R.set k { b with t := true, ws := List.replicate (2 ^ n) 0 }, L := upd M.L n r } = marked M.B b.x true := marked_set h.inv hk rfl
      refine ⟨listW ws n b.x, bs, { M with R := M.R.set k { b with t := true, ws := List.replicate (2 ^ n) 0 }, L := upd M.L n r }, (b.x : Int), 0, fun W hA => (alloc_list hA n b.x hn hl1 hl2 hl3).mono fun e W' ⟨h1, h2, h3⟩ => ⟨h1, h2, h3.more (by simp)⟩, fun W lo bv ls vs hR hl => (ralloc_list hR n hn hL hk hbc).mono fun e W' ⟨u, h1, h2⟩ => ⟨u, h1, An.of_ans h2 hl⟩, ⟨by rw [e]; exact hI', by rw [e]; exact (h.inv.step_list hn hL (fun _ => False)).nice h.nice, same_list h.same h.inv h.nice hn hL hk hbc⟩⟩
theorem free_both (h : Pur ws bs M) (hhi : ws.length ≤ 16384) (x : Int) : ∃ (ws' : List Nat) (M' : Mo) (er : Int),
    (∀ W, Ar W g p q ws bs → Calls Try.prog 16 #[.pointer (some ⟨g, 0, none⟩), .int .i64 x] W fun e W' => e = .returned (.int .i64 er) ∧ Ar W' g p q ws' bs ∧ Kept [p, q] W W') ∧
    (∀ W lo bv ls vs, Rfa W lo bv ls vs M → lo ≤ W.heap.size → Calls Try.prog 23 #[.agg (M.vals bv ls), .int .i64 x] W fun e W' => ∃ v, e = .returned (.tuple #[v, .int .i64 er]) ∧ An W W' lo v M') ∧ Pur ws' bs M' := by
  rcases h.cases x with ⟨k, b, hk, ht, rfl, hy⟩ | ⟨hn, hx⟩
  · by_cases hx5 : ws.getD 5 0 = b.x ∨ ws.getD 6 0 = b.x
    · exact ⟨ws, M, 2, fun W hA => (free_arg hA hy hx5).mono fun e W' ⟨h1, h2⟩ => ⟨h1, hA.later h2, Kept.of_below _ h2⟩, fun W lo bv ls vs hR hl => (rfree_arg hR hk ht (by rw [h.same.four, h.same.six]; omega)).mono fun e W' ⟨h1, h2⟩ => ⟨_, h1, An.same hR h2 hl⟩, h⟩
    · have h5 : ws.getD 5 0 ≠ b.x := fun e => hx5 (.inl e)
      have h6 : ws.getD 6 0 ≠ b.x := fun e => hx5 (.inr e)
      have hm := mem_bl (List.mem_of_getElem? hk)
      have h17 : 17 ≤ b.x := (h.inv.at hm).2.1
      have e : Mo.B { M with R := M.R.set k { b with t := false }, L := upd M.L b.c (b.x :: M.L b.c) } = marked M.B b.x false := marked_set h.inv hk rfl
      refine ⟨freeW ws b.x b.c, { M with R := M.R.set k { b with t := false }, L := upd M.L b.c (b.x :: M.L b.c) }, 0, fun W hA => (free_yes hA hy h17 h5 h6).mono fun e W' ⟨h1, h2, h3⟩ => ⟨h1, h2, h3.more (by simp)⟩, fun W lo bv ls vs hR hl => (rfree_yes hR hk ht (by rw [h.same.four]; omega) (by rw [h.same.six]; omega) (lists_len h.inv hhi (h.inv.at hm).1)).mono fun e W' ⟨u, h1, h2⟩ => ⟨u, h1, An.of_ans h2 hl⟩, ⟨by rw [e]; exact h.inv.free hm ht, by rw [e]; exact (h.inv.step_free hm ht h5 h6).nice h.nice, same_free h.same h.inv hk ht h5 h6⟩⟩
  · exact ⟨ws, M, 4, fun W hA => (free_no hA x hn).mono fun e W' ⟨h1, h2⟩ => ⟨h1, h2 ▸ hA, h2 ▸ Kept.refl _ _⟩, fun W lo bv ls vs hR hl => (rfree_no hR x hx).mono fun e W' ⟨h1, h2⟩ => ⟨_, h1, An.same hR h2 hl⟩, h⟩
theorem load_both (h : Pur ws bs M) (x i : Int) : ∃ (y er : Int),
    (∀ W, Ar W g p q ws bs → Calls Try.prog 14 #[.pointer (some ⟨g, 0, none⟩), .int .i64 x, .int .i64 i] W fun e W' => e = .returned (.tuple #[.int .u32 y, .int .i64 er]) ∧ Ar W' g p q ws bs ∧ Kept [p, q] W W') ∧
    (∀ W lo bv ls vs, Rfa W lo bv ls vs M → Calls Try.prog 24 #[.agg (M.vals bv ls), .int .i64 x, .int .i64 i] W fun e W' => e = .returned (.tuple #[.int .u32 y, .int .i64 er]) ∧ Below W.heap.size W W') ∧ ((er = 0 ∧ ∃ (k : Nat) (b : Rb) (j : Nat), M.R[k]? = some b ∧ b.t = true ∧ x = (b.x : Int) ∧ i = (j : Int) ∧ j < 2 ^ b.c ∧ Yes ws bs b.x b.c) ∨ ((er = 2 ∨ er = 4) ∧ y = 0 ∧ ∀ W (z : Int), Ar W g p q ws bs → Calls Try.prog 13 #[.pointer (some ⟨g, 0, none⟩), .int .i64 x, .int .i64 i, .int .u32 z] W fun e W' => e = .returned (.int .i64 er) ∧ Ar W' g p q ws bs ∧ Kept [p, q] W W')) := by
  have dr : ∀ {W W' : World}, Ar W g p q ws bs → (∃ n, W' = W.drewN n) → Ar W' g p q ws bs ∧ Kept [p, q] W W' := fun hA hn => by
    obtain ⟨n, rfl⟩ := hn
    exact ⟨hA.drewN n, kept_drewN _ n _⟩
  rcases h.cases x with ⟨k, b, hk, ht, rfl, hy⟩ | ⟨hn, hx⟩
  · by_cases hi : i < 0 ∨ ((2 ^ b.c : Nat) : Int) ≤ i
    · exact ⟨0, 2, fun W hA => (load_out hA hy i hi).mono fun e W' ⟨h1, h2⟩ => ⟨h1, dr hA h2⟩, fun W lo bv ls vs hR => rload_out hR hk ht i hi, .inr ⟨.inl rfl, rfl, fun W z hA => (store_out hA hy i z hi).mono fun e W' ⟨h1, h2⟩ => ⟨h1, dr hA h2⟩⟩⟩
    · obtain ⟨j, rfl⟩ := Int.eq_ofNat_of_zero_le (show 0 ≤ i by omega)
      have hj : j < 2 ^ b.c := by
        generalize 2 ^ b.c = z at *
        omega
      refine ⟨((ws.getD (b.x + j) 0 : Nat) : Int), 0, fun W hA => (load_yes hA hy hj).mono fun e W' ⟨h1, h2⟩ => ⟨h1, dr hA h2⟩, fun W lo bv ls vs hR => ?_, .inl ⟨rfl, k, b, j, hk, ht, rfl, rfl, hj, hy⟩⟩
      have := rload_yes hR hk ht j hj
      rw [h.same.words b (List.mem_of_getElem? hk) ht j hj] at this
      exact this
  · exact ⟨0, 4, fun W hA => (load_no hA x i hn).mono fun e W' ⟨h1, h2⟩ => ⟨h1, h2 ▸ hA, h2 ▸ Kept.refl _ _⟩, fun W lo bv ls vs hR => rload_no hR x i hx, .inr ⟨.inr rfl, rfl, fun W z hA => (store_no hA x i z hn).mono fun e W' ⟨h1, h2⟩ => ⟨h1, h2 ▸ hA, h2 ▸ Kept.refl _ _⟩⟩⟩
theorem store_both (h : Pur ws bs M) (hwl : ∀ b ∈ M.R, b.ws.length = 2 ^ b.c) (x i : Int) (z : Nat) (hz : z < 4294967296) : ∃ (ws' : List Nat) (M' : Mo) (er : Int),
    (∀ W, Ar W g p q ws bs → Calls Try.prog 13 #[.pointer (some ⟨g, 0, none⟩), .int .i64 x, .int .i64 i, .int .u32 (z : Int)] W fun e W' => e = .returned (.int .i64 er) ∧ Ar W' g p q ws' bs ∧ Kept [p, q] W W') ∧
    (∀ W lo bv ls vs, Rfa W lo bv ls vs M → lo ≤ W.heap.size → Calls Try.prog 25 #[.agg (M.vals bv ls), .int .i64 x, .int .i64 i, .int .u32 (z : Int)] W fun e W' => ∃ v, e = .returned (.tuple #[v, .int .i64 er]) ∧ An W W' lo v M') ∧ Pur ws' bs M' := by
  obtain ⟨y, er, _, hld, ⟨_, k, b, j, hk, ht, rfl, rfl, hj, hy⟩ | ⟨her, rfl, hst⟩⟩ := load_both (g := g) (p := p) (q := q) h x i
  · have hm := mem_bl (List.mem_of_getElem? hk)
    have e : Mo.B { M with R := M.R.set k { b with ws := b.ws.set j z } } = M.B := by
      apply List.ext_getElem?
      intro i
      unfold Mo.B
      rw [List.getElem?_map, List.getElem?_map, List.getElem?_set]
      split
      · rename_i hki
        subst hki
        rw [if_pos (List.getElem?_eq_some_iff.1 hk).1, hk]; rfl
      · rfl
    refine ⟨ws.set (b.x + j) z, { M with R := M.R.set k { b with ws := b.ws.set j z } }, 0, fun W hA => (store_yes hA hy hj z hz).mono fun e W' hh => ?_, fun W lo bv ls vs hR hl => (rstore_yes hR hk ht j hj z).mono fun e W' ⟨u, h1, h2⟩ => ⟨u, h1, An.of_ans h2 hl⟩, ⟨by rw [e]; exact h.inv.store hm ht hj z, by rw [e]; exact (h.inv.step_store hm ht hj z).nice h.nice, same_store h.same h.inv hk ht (hwl b (List.mem_of_getElem? hk)) hj z⟩⟩
    exact ⟨hh.1, hh.2.1, hh.2.2.more (by simp)⟩
  · have hnn : ∃ ern : Nat, (ern : Int) = er ∧ (ern = 2 ∨ ern = 4) := by
      rcases her with rfl | rfl
      · exact ⟨2, rfl, .inl rfl⟩
      · exact ⟨4, rfl, .inr rfl⟩
    obtain ⟨ern, rfl, hern⟩ := hnn
    exact ⟨ws, M, ern, fun W hA => hst W z hA, fun W lo bv ls vs hR hl => (rstore_err hR x i z ern hern (fun hR' => hld _ _ _ _ _ hR')).mono fun e W' ⟨h1, h2⟩ => ⟨_, h1, An.same hR h2 hl⟩, h⟩
end
end Go.Proofs.Ytoidklkloagioaa
namespace Go.Proofs.Ytoidklkloagioaa
open Go.RowKit Go.Shelf
set_option linter.unusedVariables false
section
variable {g p q : Nat} {ws : List Nat} {bs : List Bool} {M : Mo}
theorem same_root (h : Same ws M) (hI : Inv ws bs M.B M.L) (hlo : 64 ≤ ws.length) {v e : Nat} {four six : Int} (h4 : 0 ≤ four) (h6 : 0 ≤ six) : Same (rootW ws v e four.toNat six.toNat) { M with v := v, e := e, four := four, six := six } := by
  have hw := rootW_two hlo v e four.toNat six.toNat
  have hg := fun i hi => rootW_get hlo v e four.toNat six.toNat i hi
  have hl := rootW_len ws v e four.toNat six.toNat
  refine ⟨by show M.N = _; rw [hl]; exact h.n, fun b hb ht j hj => ?_, hw.1.symm, hw.2.symm, ?_, ?_, ?_⟩
  · have h17 : 17 ≤ b.x := (hI.at (mem_bl hb)).2.1
    rw [hg _ (by omega)]
    exact h.words b hb ht j hj
  · show four = _
    unfold rootW
    rw [getD_set _ _ _ _ _ (by simp [setN_len]; omega), if_neg (by omega), getD_set _ _ _ _ _ (by simp [setN_len]; omega), if_pos rfl]
    omega
  · show six = _
    unfold rootW
    rw [getD_set _ _ _ _ _ (by simp [setN_len]; omega), if_pos rfl]
    omega
  · show M.gd = _
    rw [h.gd, twoN_same (hg 7 (by omega)) (hg 8 (by omega))]
theorem same_raise (h : Same ws M) (hI : Inv ws bs M.B M.L) (hlo : 64 ≤ ws.length) (y : Nat) : Same (setN ws 7 y) { M with gd := y } := by
  have hg : ∀ i, i ≠ 7 → i ≠ 8 → (setN ws 7 y).getD i 0 = ws.getD i 0 := fun i h1 h2 => by rw [setN_get (by omega), if_neg (by omega), if_neg (by omega)]
  refine ⟨by show M.N = _; rw [setN_len]; exact h.n, fun b hb ht j hj => ?_, ?_, ?_, ?_, ?_, (twoN_setN (by omega)).symm⟩
  · have h17 : 17 ≤ b.x := (hI.at (mem_bl hb)).2.1
    rw [hg _ (by omega) (by omega)]
    exact h.words b hb ht j hj
  · show M.v = _; rw [h.v, twoN_same (hg 1 (by omega) (by omega)) (hg 2 (by omega) (by omega))]
  · show M.e = _; rw [h.e, twoN_same (hg 3 (by omega) (by omega)) (hg 4 (by omega) (by omega))]
  · show M.four = _; rw [h.four, hg 5 (by omega) (by omega)]
  · show M.six = _; rw [h.six, hg 6 (by omega) (by omega)]
theorem raise_both (h : Pur ws bs M) (hlo : 64 ≤ ws.length) (y : Nat) (hy : y < 18446744073709551616) : ∃ (ws' : List Nat) (M' : Mo) (er : Int),
    (∀ W, Ar W g p q ws bs → Calls Try.prog 17 #[.pointer (some ⟨g, 0, none⟩), .int .u64 (y : Int)] W fun e W' => e = .returned (.int .i64 er) ∧ Ar W' g p q ws' bs ∧ Kept [p, q] W W') ∧
    (∀ W lo bv ls vs, Rfa W lo bv ls vs M → lo ≤ W.heap.size → Calls Try.prog 28 #[.agg (M.vals bv ls), .int .u64 (y : Int)] W fun e W' => ∃ v, e = .returned (.tuple #[v, .int .i64 er]) ∧ An W W' lo v M') ∧ Pur ws' bs M' := by
  by_cases h1 : y < twoN ws 7
  · exact ⟨ws, M, 161, fun W hA => (raise_low hA y h1).mono fun e W' ⟨h2, n, h3⟩ => ⟨h2, h3 ▸ hA.drewN n, h3 ▸ kept_drewN _ n _⟩, fun W lo bv ls vs hR hl => (rraise_low hR y (by rw [h.same.gd]; exact h1)).mono fun e W' ⟨h1, h2⟩ => ⟨_, h1, An.same hR h2 hl⟩, h⟩
  · exact ⟨setN ws 7 y, { M with gd := y }, 0, fun W hA => (raise_yes hA y (by omega) hy).mono fun e W' ⟨h1, h2, h3⟩ => ⟨h1, h2, h3.more (by simp)⟩, fun W lo bv ls vs hR hl => (rraise_yes hR y (by rw [h.same.gd]; omega)).mono fun e W' ⟨u, h1, h2⟩ => ⟨u, h1, An.of_ans h2 hl⟩, ⟨h.inv.raise hlo y, (h.inv.step_raise hlo (by omega) (fun _ => False)).nice h.nice, same_raise h.same h.inv hlo y⟩⟩
/-- A place: nought, a block that is taken, or neither. -/
theorem Pur.lead (h : Pur ws bs M) (x : Int) : (Lead ws bs x ∧ (x = 0 ∨ Tkn M.R x)) ∨ (x ≠ 0 ∧ No ws bs x ∧ Bad M.R x) := by
  rcases h.cases x with ⟨k, b, hk, ht, rfl, hy⟩ | ⟨hn, hx⟩
  · exact .inl ⟨.inr ⟨b.x, b.c, rfl, hy⟩, .inr ⟨k, b, hk, ht, rfl⟩⟩
  · by_cases h0 : x = 0
    · subst h0; exact .inl ⟨.inl ⟨rfl, hn⟩, .inl rfl⟩
    · exact .inr ⟨h0, hn, h0, hx⟩
theorem pub_both (h : Pur ws bs M) (hlo : 64 ≤ ws.length) (hhi : ws.length ≤ 16384) (hsm : ∀ n ∈ ws, n < 4294967296) (v e : Nat) (hv : v < 18446744073709551616) (he : e < 18446744073709551616) (four six : Int) : ∃ (ws' : List Nat) (M' : Mo) (er : Int),
    (∀ W, Ar W g p q ws bs → Calls Try.prog 15 #[.pointer (some ⟨g, 0, none⟩), .agg (rtcs v e four six)] W fun e W' => e = .returned (.int .i64 er) ∧ Ar W' g p q ws' bs ∧ Kept [p, q] W W') ∧
    (∀ W lo bv ls vs, Rfa W lo bv ls vs M → lo ≤ W.heap.size → Calls Try.prog 27 #[.agg (M.vals bv ls), .agg (rtcs v e four six)] W fun e W' => ∃ v, e = .returned (.tuple #[v, .int .i64 er]) ∧ An W W' lo v M') ∧ Pur ws' bs M' := by
  have hpos : ∀ b ∈ M.R, 0 < b.x := fun b hb => by
    have : 17 ≤ b.x := (h.inv.at (mem_bl hb)).2.1
    omega
  have hvv : M.v < 18446744073709551616 := by
    rw [h.same.v]
    have h1 := word_lt hsm 1
    have h2 := word_lt hsm 2
    unfold twoN
    show ws.getD 1 0 * 4294967296 + ws.getD 2 0 < _
    omega
  have bel : ∀ {W W' : World}, Ar W g p q ws bs → Below W.heap.size W W' → Ar W' g p q ws bs ∧ Kept [p, q] W W' := fun hA hb => ⟨hA.later hb, Kept.of_below _ hb⟩
  by_cases h1 : e < twoN ws 7
  · exact ⟨ws, M, 161, fun W hA => (pub_fence hA v e four six h1).mono fun x W' ⟨h2, h3⟩ => ⟨h2, bel hA h3⟩, fun W lo bv ls vs hR hl => (rpub_fence hR v e four six (by rw [h.same.gd]; exact h1)).mono fun x W' ⟨h1, h2⟩ => ⟨_, h1, An.same hR h2 hl⟩, h⟩
  · have hge : M.gd ≤ e := by rw [h.same.gd]; omega
    by_cases h2 : v = 0 ∨ v - 1 ≠ twoN ws 1
    · exact ⟨ws, M, 162, fun W hA => (pub_version hA v e four six (by omega) hv h2).mono fun x W' ⟨h2, h3⟩ => ⟨h2, bel hA h3⟩, fun W lo bv ls vs hR hl => (rpub_version hR v e four six hge hvv hv (by rw [h.same.v]; exact h2)).mono fun x W' ⟨h1, h2⟩ => ⟨_, h1, An.same hR h2 hl⟩, h⟩
    · have hz : v ≠ 0 := fun e => h2 (.inl e)
      have hn : v - 1 = twoN ws 1 := Decidable.byContradiction fun e => h2 (.inr e)
      have hn' : v - 1 = M.v := by rw [h.same.v]; exact hn
      have none : ∀ (_ : (four ≠ 0 ∧ No ws bs four) ∨ (Lead ws bs four ∧ six ≠ 0 ∧ No ws bs six)) (_ : ∀ W lo bv ls vs, Rfa W lo bv ls vs M → Calls Try.prog 27 #[.agg (M.vals bv ls), .agg (rtcs v e four six)] W fun x W' => x = .returned (.tuple #[.agg (M.vals bv ls), .int .i64 4]) ∧ Below W.heap.size W W'), ∃ (ws' : List Nat) (M' : Mo) (er : Int),
          (∀ W, Ar W g p q ws bs → Calls Try.prog 15 #[.pointer (some ⟨g, 0, none⟩), .agg (rtcs v e four six)] W fun e W' => e = .returned (.int .i64 er) ∧ Ar W' g p q ws' bs ∧ Kept [p, q] W W') ∧
          (∀ W lo bv ls vs, Rfa W lo bv ls vs M → lo ≤ W.heap.size → Calls Try.prog 27 #[.agg (M.vals bv ls), .agg (rtcs v e four six)] W fun e W' => ∃ v, e = .returned (.tuple #[v, .int .i64 er]) ∧ An W W' lo v M') ∧ Pur ws' bs M' := fun hp hr =>
        ⟨ws, M, 4, fun W hA => (pub_none hA v e four six (by omega) hv hz hn hp).mono fun x W' ⟨h2, h3⟩ => ⟨h2, bel hA h3⟩, fun W lo bv ls vs hR hl => (hr W lo bv ls vs hR).mono fun x W' ⟨h1, h2⟩ => ⟨_, h1, An.same hR h2 hl⟩, h⟩
      rcases h.lead four with ⟨hl4, h4⟩ | ⟨h40, h4n, h4b⟩
      · rcases h.lead six with ⟨hl6, h6⟩ | ⟨h60, h6n, h6b⟩
        · have s4 := (hl4.small hhi).1
          have s6 := (hl6.small hhi).1
          refine ⟨rootW ws v e four.toNat six.toNat, { M with v := v, e := e, four := four, six := six }, 0, fun W hA => (pub_yes hA v e four six (by omega) he hv hz hn hl4 hl6).mono fun x W' ⟨h1, h2, h3⟩ => ⟨h1, h2, h3.more (by simp)⟩, fun W lo bv ls vs hR hl => ?_, ⟨h.inv.root hlo v e four.toNat six.toNat, (h.inv.step_root hlo four.toNat six.toNat hz hn (by omega) (h.inv.led hl4) (h.inv.led hl6) (fun _ => False)).nice h.nice, same_root h.same h.inv hlo s4 s6⟩⟩
          have fin : ∀ {x : Ending} {W' : World}, (∃ u, x = .returned (.tuple #[u, .int .i64 0]) ∧ Ans W W' u { M with v := v, e := e, four := four, six := six }) → ∃ v', x = .returned (.tuple #[v', .int .i64 0]) ∧ An W W' lo v' { M with v := v, e := e, four := four, six := six } := fun ⟨u, h1, h2⟩ => ⟨u, h1, An.of_ans h2 hl⟩
          rcases h4 with h4 | h4 <;> rcases h6 with h6 | h6
          · exact (rpub_zz hR v e four six hge hv hz hn' h4 h6).mono fun x W' hh => fin hh
          · exact (rpub_zt hR v e four six hge hv hz hn' h4 h6 hpos).mono fun x W' hh => fin hh
          · exact (rpub_tz hR v e four six hge hv hz hn' h4 h6 hpos).mono fun x W' hh => fin hh
          · exact (rpub_tt hR v e four six hge hv hz hn' h4 h6 hpos).mono fun x W' hh => fin hh
        · refine none (.inr ⟨hl4, h60, h6n⟩) (fun W lo bv ls vs hR => ?_)
          rcases h4 with h4 | h4
          · exact rpub_zb hR v e four six hge hv hz hn' h4 h6b
          · exact rpub_tb hR v e four six hge hv hz hn' h4 h6b hpos
      · exact none (.inl ⟨h40, h4n⟩) (fun W lo bv ls vs hR => rpub_bx hR v e four six hge hv hz hn' h4b)
end
end Go.Proofs.Ytoidklkloagioaa
