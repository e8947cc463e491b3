/-
  Blocks, taken and given back. Nothing here is a statement of the document.
-/
import Derived.Test.YtgnpoehcmlmajaaIt
import Derived.Lib.SliceRun
namespace Go.Proofs.Ytgnpoehcmlmajaa
open Go.RowKit Go.Shelf
set_option linter.unusedVariables false

/-- n words from x on are noughts. -/
def zeroW (ws : List Nat) (x : Nat) : Nat → List Nat
  | 0 => ws
  | n + 1 => zeroW (ws.set x 0) (x + 1) n
theorem zeroW_len : ∀ (n x : Nat) (ws : List Nat), (zeroW ws x n).length = ws.length
  | 0, _, _ => rfl
  | n + 1, x, ws => by rw [zeroW, zeroW_len]; simp
theorem getD_set {α : Type} (l : List α) (i j : Nat) (x d : α) (hi : i < l.length) : (l.set i x).getD j d = if i = j then x else l.getD j d := by
  by_cases h : i = j
  · subst h; simp [hi]
  · simp [List.getElem?_set, h]
theorem zeroW_get : ∀ (n x : Nat) (ws : List Nat) (i : Nat), x + n ≤ ws.length → (zeroW ws x n).getD i 0 = if x ≤ i ∧ i < x + n then 0 else ws.getD i 0
  | 0, x, ws, i, _ => by rw [zeroW, if_neg (by omega)]
  | n + 1, x, ws, i, h => by
    rw [zeroW, zeroW_get n (x + 1) (ws.set x 0) i (by simp; omega), getD_set _ _ _ _ _ (by omega)]
    by_cases h1 : x = i
    · subst h1
      rw [if_neg (by omega), if_pos rfl, if_pos (by omega)]
    · rw [if_neg h1]
      by_cases h2 : x ≤ i ∧ i < x + (n + 1)
      · rw [if_pos h2, if_pos (by omega)]
      · rw [if_neg h2, if_neg (by omega)]

section
variable {w : World} {g p q : Nat} {ws : List Nat} {bs : List Bool}
theorem Ar.zero : ∀ (n x : Nat) {w : World} {ws : List Nat}, Ar w g p q ws bs → Ar (w.setCells p x (List.replicate n (Value.int .u32 0))) g p q (zeroW ws x n) bs
  | 0, x, w, ws, h => h
  | n + 1, x, w, ws, h => by
    rw [List.replicate_succ, World.setCells, zeroW]
    exact Ar.zero n (x + 1) (h.set x 0 (by omega))
theorem kept_zero (S : List Nat) (p : Nat) (hp : p ∈ S) : ∀ (n x : Nat) {a b : World}, Kept S a b → Kept S a (b.setCells p x (List.replicate n (Value.int .u32 0)))
  | 0, x, _, _, h => h
  | n + 1, x, a, b, h => by
    rw [List.replicate_succ, World.setCells]
    exact kept_zero S p hp n (x + 1) (h.setCell (p := ⟨p, x, none⟩) (.inl hp) _)

/-! ### from the edge on -/
/-- What a taking from the edge on makes of the words. -/
def growW (ws : List Nat) (c : Nat) : List Nat := (ws.set (ws.getD 15 0) (hdN c true)).set 15 (ws.getD 15 0 + 1 + 2 ^ c)
set_option maxRecDepth 100000 in
set_option maxHeartbeats 2000000 in
theorem grow_full (h : Ar w g p q ws bs) (c : Nat) (hc : c ≤ 5) (he1 : 16 ≤ ws.getD 15 0) (he2 : ws.getD 15 0 ≤ ws.length) (hf : ws.length < ws.getD 15 0 + 1 + 2 ^ c) : Calls Try.prog 51 #[.pointer (some ⟨g, 0, none⟩), .int .i64 (c : Int)] w fun e w' => e = .returned (.tuple #[.int .i64 0, .int .i64 6]) ∧ w = w' := by
  have he := edge_any h
  have hh := headof_any c true hc w
  have hs := hsize_any c true hc w
  have hp2 := pow5 hc
  have c0 := h.c0
  have hhi := h.hi
  clear h
  generalize hdN c true = hv at *
  generalize ws.getD 15 0 = x at *
  generalize ws.length = m at *
  generalize 2 ^ c = z at *
  have d1 : decide ((m : Int) < (x : Int) + 1 + (z : Int)) = true := decide_eq_true (by omega)
  go_enter Try.func51, Try.ntmps51
  go_wp2_with fail
  refine he.mono ?_
  rintro e w' ⟨rfl, rfl⟩
  go_wp2_with fail
  refine hh.mono ?_
  rintro e w' ⟨rfl, rfl⟩
  go_wp2_with fail
  refine hs.mono ?_
  rintro e w' ⟨rfl, rfl⟩
  clear he hh hs
  go_wp2
  go_ret2
  exact ⟨rfl, rfl⟩
set_option maxRecDepth 100000 in
set_option maxHeartbeats 2000000 in
theorem grow_yes (h : Ar w g p q ws bs) (c : Nat) (hc : c ≤ 5) (he1 : 16 ≤ ws.getD 15 0) (hf : ws.getD 15 0 + 1 + 2 ^ c ≤ ws.length) : Calls Try.prog 51 #[.pointer (some ⟨g, 0, none⟩), .int .i64 (c : Int)] w fun e w' => e = .returned (.tuple #[.int .i64 ((ws.getD 15 0 + 1 : Nat) : Int), .int .i64 0]) ∧ Ar w' g p q (growW ws c) (bs.set (ws.getD 15 0 + 1) true) ∧ Kept [p, q] w w' := by
  have he := edge_any h
  have hh := headof_any c true hc w
  have hs := hsize_any c true hc w
  have hp2 := pow5 hc
  have hhi := h.hi
  have c0 := h.c0
  have c1 := h.c1
  have e1 := h.word (i := ws.getD 15 0) (by omega)
  have e15 := h.word (i := 15) (by omega)
  have e2 := h.beg (i := ws.getD 15 0 + 1) (by omega)
  have f1 := h.wds.free (ws.getD 15 0)
  have f15 := h.wds.free 15
  have f2 := h.bgs.free (ws.getD 15 0 + 1)
  have hdl : hdN c true < 4294967296 := by unfold hdN; simp; omega
  have A2 := ((h.set (ws.getD 15 0) (hdN c true) hdl).set 15 (ws.getD 15 0 + 1 + 2 ^ c) (by omega)).setB (ws.getD 15 0 + 1) true
  have K2 := (((Kept.refl [p, q] w).setCell (p := ⟨p, ws.getD 15 0, none⟩) (.inl (by simp)) (.int .u32 ((hdN c true : Nat) : Int))).setCell (p := ⟨p, 15, none⟩) (.inl (by simp)) (.int .u32 ((ws.getD 15 0 + 1 + 2 ^ c : Nat) : Int))).setCell (p := ⟨q, ws.getD 15 0 + 1, none⟩) (.inl (by simp)) (.bool true)
  have HQ := Lib.hid (And.intro A2 K2)
  have HG := Lib.hid (show growW ws c = (ws.set (ws.getD 15 0) (hdN c true)).set 15 (ws.getD 15 0 + 1 + 2 ^ c) from rfl)
  generalize bs.getD (ws.getD 15 0 + 1) false = y2 at *
  generalize ws.getD (ws.getD 15 0) 0 = y1 at *
  have hgp := h.gp
  have hgq := h.gq
  have hpq := h.pq
  clear h A2 K2
  generalize growW ws c = GW at *
  generalize hdN c true = hv at *
  generalize ws.getD 15 0 = x at *
  have HL := Lib.hid (show ws.length = ws.length from rfl)
  generalize hm : ws.length = m at *
  have HM := Lib.hid hm
  clear hm HL
  generalize 2 ^ c = z at *
  have d1 : decide ((m : Int) < (x : Int) + 1 + (z : Int)) = false := decide_eq_false (by omega)
  have nx : ¬ x = 15 := by omega
  have nx2 : ¬ 15 = x := by omega
  go_enter Try.func51, Try.ntmps51
  go_wp2_with fail
  refine he.mono ?_
  rintro e w' ⟨rfl, rfl⟩
  go_wp2_with fail
  refine hh.mono ?_
  rintro e w' ⟨rfl, rfl⟩
  go_wp2_with fail
  refine hs.mono ?_
  rintro e w' ⟨rfl, rfl⟩
  clear he hh hs
  go_wp2_with fail
  go_region
  go_wp2
  go_ret2
  obtain ⟨a1, k1⟩ := HQ.out
  rw [show ((x + 1 + z : Nat) : Int) = (x : Int) + 1 + (z : Int) from by omega] at a1 k1
  exact ⟨by rw [show ((x + 1 : Nat) : Int) = (x : Int) + 1 from by omega]; rfl, by rw [HG.out]; exact a1.drew, k1.drew⟩

/-! ### Alloc -/
set_option maxRecDepth 100000 in
set_option maxHeartbeats 2000000 in
theorem alloc_nil (x : Int) (w : World) : Calls Try.prog 11 #[.pointer none, .int .i64 x] w fun e w' => e = .returned (.tuple #[.int .i64 0, .int .i64 1]) ∧ w = w' := by
  go_enter Try.func11, Try.ntmps11
  go_wp2
  go_ret2
  exact ⟨rfl, rfl⟩
set_option maxRecDepth 100000 in
set_option maxHeartbeats 2000000 in
theorem alloc_arg (x : Int) (hx : x < 0 ∨ 5 < x) (a : Addr) (w : World) : Calls Try.prog 11 #[.pointer (some a), .int .i64 x] w fun e w' => e = .returned (.tuple #[.int .i64 0, .int .i64 2]) ∧ w = w' := by
  by_cases h0 : x < 0
  · have d1 : decide (x < 0) = true := decide_eq_true h0
    go_enter Try.func11, Try.ntmps11
    go_wp2
    go_ret2
    exact ⟨rfl, rfl⟩
  · have d1 : decide (x < 0) = false := decide_eq_false h0
    have d2 : decide (5 < x) = true := decide_eq_true (by omega)
    go_enter Try.func11, Try.ntmps11
    go_wp2
    go_ret2
    exact ⟨rfl, rfl⟩
set_option maxRecDepth 100000 in
set_option maxHeartbeats 2000000 in
theorem alloc_full (h : Ar w g p q ws bs) (c : Nat) (hc : c ≤ 5) (h0 : ws.getD (9 + c) 0 = 0) (he1 : 16 ≤ ws.getD 15 0) (he2 : ws.getD 15 0 ≤ ws.length) (hf : ws.length < ws.getD 15 0 + 1 + 2 ^ c) : Calls Try.prog 11 #[.pointer (some ⟨g, 0, none⟩), .int .i64 (c : Int)] w fun e w' => e = .returned (.tuple #[.int .i64 0, .int .i64 6]) ∧ w = w' := by
  have hg := grow_full h c hc he1 he2 hf
  have hhi := h.hi
  have hlo := h.lo
  have c0 := h.c0
  have cl := h.word (i := 9 + c) (by omega)
  have d1 : decide ((c : Int) < 0) = false := decide_eq_false (by omega)
  have d2 : decide ((5 : Int) < (c : Int)) = false := decide_eq_false (by omega)
  have d3 : decide (5 < c) = false := decide_eq_false (by omega)
  rw [h0] at cl
  clear h h0 he1 he2 hf
  generalize ws.length = m at *
  have i1 : (9 : Int) + (c : Int) < (m : Int) := by omega
  go_enter Try.func11, Try.ntmps11
  go_wp2_with fail
  refine hg.mono ?_
  rintro e w' ⟨rfl, rfl⟩
  go_wp2
  go_ret2
  exact ⟨rfl, rfl⟩
set_option maxRecDepth 100000 in
set_option maxHeartbeats 2000000 in
theorem alloc_grow (h : Ar w g p q ws bs) (c : Nat) (hc : c ≤ 5) (h0 : ws.getD (9 + c) 0 = 0) (he1 : 16 ≤ ws.getD 15 0) (hf : ws.getD 15 0 + 1 + 2 ^ c ≤ ws.length) : Calls Try.prog 11 #[.pointer (some ⟨g, 0, none⟩), .int .i64 (c : Int)] w fun e w' => e = .returned (.tuple #[.int .i64 ((ws.getD 15 0 + 1 : Nat) : Int), .int .i64 0]) ∧ Ar w' g p q (growW ws c) (bs.set (ws.getD 15 0 + 1) true) ∧ Kept [p, q] w w' := by
  have hg := grow_yes h c hc he1 hf
  have hhi := h.hi
  have hlo := h.lo
  have c0 := h.c0
  have cl := h.word (i := 9 + c) (by omega)
  have d1 : decide ((c : Int) < 0) = false := decide_eq_false (by omega)
  have d2 : decide ((5 : Int) < (c : Int)) = false := decide_eq_false (by omega)
  have d3 : decide (5 < c) = false := decide_eq_false (by omega)
  rw [h0] at cl
  clear h h0 he1 hf
  generalize ws.length = m at *
  generalize ws.getD 15 0 = x at *
  have i1 : (9 : Int) + (c : Int) < (m : Int) := by omega
  go_enter Try.func11, Try.ntmps11
  go_wp2_with fail
  refine hg.mono ?_
  rintro e w' ⟨rfl, ha, hk⟩
  have HQ := Lib.hid (And.intro ha hk)
  clear ha hk hg
  go_wp2
  go_ret2
  exact ⟨rfl, HQ.out⟩
/-- What a taking out of a list makes of the words: the list begins at x. -/
def listW (ws : List Nat) (c x : Nat) : List Nat := ((ws.set (9 + c) (ws.getD x 0)).set x 0).set (x - 1) (hdN c true)
set_option maxRecDepth 100000 in
set_option maxHeartbeats 2000000 in
theorem alloc_list (h : Ar w g p q ws bs) (c x : Nat) (hc : c ≤ 5) (h0 : ws.getD (9 + c) 0 = x) (hx1 : 17 ≤ x) (hx2 : x < ws.length) : Calls Try.prog 11 #[.pointer (some ⟨g, 0, none⟩), .int .i64 (c : Int)] w fun e w' => e = .returned (.tuple #[.int .i64 (x : Int), .int .i64 0]) ∧ Ar w' g p q (listW ws c x) bs ∧ Kept [p] w w' := by
  have hhi := h.hi
  have hlo := h.lo
  have c0 := h.c0
  have cl := h.word (i := 9 + c) (by omega)
  have d1 : decide ((c : Int) < 0) = false := decide_eq_false (by omega)
  have d2 : decide ((5 : Int) < (c : Int)) = false := decide_eq_false (by omega)
  have d3 : decide (5 < c) = false := decide_eq_false (by omega)
  rw [h0] at cl
  have cx := h.word hx2
  have e1 : w.cell? ⟨p, x - 1, none⟩ = some (.int .u32 ((ws.getD (x - 1) 0 : Nat) : Int)) := h.word (by omega)
  have fl := h.wds.free (9 + c)
  have fx := h.wds.free x
  have fx1 := h.wds.free (x - 1)
  have hh := fun w => headof_any c true hc w
  have hs1 := h.small x
  have hdl : hdN c true < 4294967296 := by unfold hdN; simp; omega
  have A1 := (h.set (9 + c) (ws.getD x 0) hs1).set x 0 (by omega)
  have K1 := ((Kept.refl [p] w).setCell (p := ⟨p, 9 + c, none⟩) (.inl (by simp)) (.int .u32 ((ws.getD x 0 : Nat) : Int))).setCell (p := ⟨p, x, none⟩) (.inl (by simp)) (.int .u32 ((0 : Nat) : Int))
  have HG := Lib.hid (show listW ws c x = ((ws.set (9 + c) (ws.getD x 0)).set x 0).set (x - 1) (hdN c true) from rfl)
  rw [show (((0 : Nat) : Int)) = 0 from rfl] at A1 K1
  have hlen : ((ws.set (9 + c) (ws.getD x 0)).set x 0).length = ws.length := by simp
  generalize (ws.set (9 + c) (ws.getD x 0)).set x 0 = ws2 at *
  have hgp := h.gp
  generalize ws.getD x 0 = y1 at *
  generalize ws.getD (x - 1) 0 = y2 at *
  generalize listW ws c x = LW at *
  generalize hdN c true = hv at *
  clear h h0
  obtain ⟨u, rfl⟩ : ∃ u, x = u + 1 := ⟨x - 1, by omega⟩
  rw [Nat.add_sub_cancel] at e1 fx1 HG
  generalize ws.length = m at *
  obtain ⟨W, hW⟩ : ∃ W, (w.setCell ⟨p, 9 + c, none⟩ (.int .u32 (y1 : Int))).setCell ⟨p, u + 1, none⟩ (.int .u32 0) = W := ⟨_, rfl⟩
  rw [hW] at A1 K1
  obtain ⟨S, hS⟩ : ∃ S : World → Prop, S = fun w' => ∃ ws', ws'.length = m ∧ Ar w' g p q ws' bs := ⟨_, rfl⟩
  have hSd : ∀ w' n, S w' → S (w'.drewN n) := by rw [hS]; exact fun w' n ⟨l, h1, h2⟩ => ⟨l, h1, h2.drewN n⟩
  have hS0 : S W.drew := by rw [hS]; exact ⟨_, hlen, A1.drew⟩
  have s0 : ∀ w', S w' → w'.cell? ⟨g, 0, none⟩ = some (.slice (some ⟨p, 0, none⟩) m m) := by
    rw [hS]
    rintro w' ⟨l, h1, h2⟩
    rw [← h1]; exact h2.c0
  have hhS := fun w' (h' : S w') => (hh w').mono (R' := fun e w2 => e = .returned (.int .u32 (hv : Int)) ∧ ∃ n, w2 = w'.drewN n) fun e w2 h => ⟨h.1, 0, h.2.symm⟩
  have hst : ∀ n, (∃ y : Nat, (W.drew.drewN n).cell? ⟨p, u, none⟩ = some (.int .u32 (y : Int))) ∧ (W.drew.drewN n).frozen? ⟨p, u, none⟩ = false ∧ S ((W.drew.drewN n).setCell ⟨p, u, none⟩ (.int .u32 (hv : Int))) := fun n => by
    have hA := A1.drew.drewN n
    refine ⟨⟨_, hA.word (by rw [hlen]; omega)⟩, hA.wds.free _, ?_⟩
    rw [hS]
    exact ⟨_, by simpa using hlen, hA.set u hv hdl⟩
  have HZ := Lib.hid (fun n n2 => And.intro ((A1.drew.drewN n).set u hv hdl) (((((K1.drew).drewN n).setCell (p := ⟨p, u, none⟩) (.inl (by simp)) (.int .u32 (hv : Int)))).drewN n2))
  clear hS A1 K1
  have i1 : (9 : Int) + (c : Int) < (m : Int) := by omega
  have i2 : ((u : Int) + 1) < (m : Int) := by omega
  have i3 : (u : Int) < (m : Int) := by omega
  have z1 : ((u : Int) + 1 != 0) = true := by simp; omega
  have z2 : ((u : Int) + 1 == 0) = false := by simp; omega
  have n1 : ¬ u + 1 = 9 + c := by omega
  have n2 : ¬ 9 + c = u + 1 := by omega
  have n3 : ¬ u = 9 + c := by omega
  have n4 : ¬ 9 + c = u := by omega
  have HLEN := Lib.hid hlen
  clear hlen
  go_enter Try.func11, Try.ntmps11
  go_wp2_with fail
  refine wp_region_linD S [9] [0, 1, 2, 3, 4, 5, 6, 7, 8, 9] (by kernel_rfl) (by kernel_rfl) hSd hS0 ?_
  (repeat (first | (refine linD_off rfl rfl (by rfl) ?_; (try simp only [Act.put, List.getElem_toArray, List.getElem_cons_zero, List.getElem_cons_succ, List.setIfInBounds_toArray, List.set_cons_zero, List.set_cons_succ])) | (refine linD_op (v := ?_) rfl rfl (by rfl) (fun w9 hS9 => ?_) ?_; rotate_left; (focus ((have k0 := s0 w9 hS9; (try dsimp only at hS9); go_simp; (try go_bits)) <;> with_reducible rfl)); (try simp only [Act.put, List.getElem_toArray, List.getElem_cons_zero, List.getElem_cons_succ, List.setIfInBounds_toArray, List.set_cons_zero, List.set_cons_succ])) | (refine linD_fn (f := 50) rfl rfl (by rfl) rfl rfl (enters_of Try.func50 (by kernel_rfl) rfl) (fun w9 hS9 => hhS w9 hS9) ?_ ?_; (focus (simp [Act.eval]; done)); (try simp only [Act.put, List.getElem_toArray, List.getElem_cons_zero, List.getElem_cons_succ, List.setIfInBounds_toArray, List.set_cons_zero, List.set_cons_succ]))))
  refine linD_store rfl rfl (by rfl) (fun n => ?_)
  obtain ⟨⟨y, t1⟩, t2, t3⟩ := hst n
  have HZn := Lib.hid (HZ.out n)
  clear hst HZ
  generalize W.drew.drewN n = V at t1 t2 t3 HZn ⊢
  refine ⟨_, ?_, t3, ?_⟩
  · go_simp
  clear t1 t2 t3
  refine linD_nil (fun n2 => ?_)
  go_wp2
  go_ret2
  exact ⟨by rw [show ((u + 1 : Nat) : Int) = (u : Int) + 1 from by omega]; rfl, by rw [HG.out]; exact (HZn.out n2).1.drewN n2, (HZn.out n2).2⟩
/-! ### Free -/
set_option maxRecDepth 100000 in
set_option maxHeartbeats 2000000 in
theorem free_nil (x : Int) (w : World) : Calls Try.prog 16 #[.pointer none, .int .i64 x] w fun e w' => e = .returned (.int .i64 1) ∧ w = w' := by
  have ht := taken_nil x w
  go_enter Try.func16, Try.ntmps16
  go_wp2_with fail
  refine ht.mono ?_
  rintro e w' ⟨rfl, rfl⟩
  go_wp2
  go_ret
  exact ⟨rfl, rfl⟩
set_option maxRecDepth 100000 in
set_option maxHeartbeats 2000000 in
theorem free_no (h : Ar w g p q ws bs) (x : Int) (hn : No ws bs x) : Calls Try.prog 16 #[.pointer (some ⟨g, 0, none⟩), .int .i64 x] w fun e w' => e = .returned (.int .i64 4) ∧ w = w' := by
  have ht := taken_no h x hn
  clear h hn
  go_enter Try.func16, Try.ntmps16
  go_wp2_with fail
  refine ht.mono ?_
  rintro e w' ⟨rfl, rfl⟩
  go_wp2
  go_ret
  exact ⟨rfl, rfl⟩
set_option maxRecDepth 100000 in
set_option maxHeartbeats 2000000 in
theorem free_arg (h : Ar w g p q ws bs) {x c : Nat} (hy : Yes ws bs x c) (hx : ws.getD 5 0 = x ∨ ws.getD 6 0 = x) : Calls Try.prog 16 #[.pointer (some ⟨g, 0, none⟩), .int .i64 (x : Int)] w fun e w' => e = .returned (.int .i64 2) ∧ Below w.heap.size w w' := by
  have ht := taken_yes h hy
  have hr := fun n => root_any (h.drewN n)
  have hhi := h.hi
  have hlo := h.lo
  unfold rootCs rtcs at hr
  clear h hy
  generalize twoN ws 1 = t1 at *
  generalize twoN ws 3 = t3 at *
  generalize 2 ^ c = z at *
  generalize hx5 : ws.getD 5 0 = x5 at *
  generalize hx6 : ws.getD 6 0 = x6 at *
  generalize ws.length = m at *
  clear hx5 hx6
  have finish : ∀ n w1, Below (w.drewN n).heap.size (w.drewN n) w1 → ∀ k n2, Below w.heap.size w ((w1.alloc k).drewN n2) := fun n w1 hb k n2 => below_drewN ((below_drewN (Below.refl _ w) n).trans ((hb.alloc hb.size k))) n2
  have HF := Lib.hid finish
  clear finish
  by_cases h5 : x5 = x
  · have d5 : ((x : Int) == (x5 : Int)) = true := by simp; omega
    have d5' : (x == x5) = true := by simpa using h5.symm
    clear hx h5
    go_enter Try.func16, Try.ntmps16
    go_wp2_with fail
    refine ht.mono ?_
    rintro e w' ⟨rfl, n, rfl⟩
    clear ht
    go_wp2_with fail
    refine (hr n).mono ?_
    rintro e w1 ⟨rfl, hb⟩
    have HB := Lib.hid hb
    clear hr hb
    go_wp2
    go_ret
    exact ⟨rfl, by first | exact HF.out n w1 HB.out _ 0 | exact HF.out n w1 HB.out _ _⟩
  · have h6 : x6 = x := by rcases hx with h | h; exact absurd h h5; exact h
    have d5 : ((x : Int) == (x5 : Int)) = false := by simp; omega
    have d5' : (x == x5) = false := by simp; omega
    have d6 : ((x : Int) == (x6 : Int)) = true := by simp; omega
    have d6' : (x == x6) = true := by simpa using h6.symm
    clear hx h5 h6
    go_enter Try.func16, Try.ntmps16
    go_wp2_with fail
    refine ht.mono ?_
    rintro e w' ⟨rfl, n, rfl⟩
    clear ht
    go_wp2_with fail
    refine (hr n).mono ?_
    rintro e w1 ⟨rfl, hb⟩
    have HB := Lib.hid hb
    clear hr hb
    go_wp2
    go_ret
    exact ⟨rfl, by first | exact HF.out n w1 HB.out _ 0 | exact HF.out n w1 HB.out _ _⟩
/-- What a giving back makes of the words. -/
def freeW (ws : List Nat) (x c : Nat) : List Nat := (((zeroW ws x (2 ^ c)).set x (ws.getD (9 + c) 0)).set (9 + c) x).set (x - 1) (hdN c false)
set_option maxRecDepth 100000 in
set_option maxHeartbeats 2000000 in
theorem free_yes (h : Ar w g p q ws bs) {x c : Nat} (hy : Yes ws bs x c) (hx0 : 17 ≤ x) (hx5 : ws.getD 5 0 ≠ x) (hx6 : ws.getD 6 0 ≠ x) : Calls Try.prog 16 #[.pointer (some ⟨g, 0, none⟩), .int .i64 (x : Int)] w fun e w' => e = .returned (.int .i64 0) ∧ Ar w' g p q (freeW ws x c) bs ∧ Kept [p] w w' := by
  have ht := taken_yes h hy
  have hr := fun n => root_any (h.drewN n)
  have hhi := h.hi
  have hlo := h.lo
  have hc := hy.cl
  have hp5 := pow5 hc
  have hxh := hy.hi
  have hd := fun w' (hA : Ar w' g p q ws bs) => head_any hA x hy.lo hy.lt
  simp only [hy.hd] at hd
  have hcl := fun w => hclass_any c true hc w
  have hh := fun w => headof_any c false hc w
  have hdl : hdN c false < 4294967296 := by unfold hdN; simp; omega
  have HG := Lib.hid (show freeW ws x c = (((zeroW ws x (2 ^ c)).set x (ws.getD (9 + c) 0)).set (9 + c) x).set (x - 1) (hdN c false) from rfl)
  have hz9 : (zeroW ws x (2 ^ c)).getD (9 + c) 0 = ws.getD (9 + c) 0 := by rw [zeroW_get _ _ _ _ hxh, if_neg (by omega)]
  have hzl := zeroW_len (2 ^ c) x ws
  have hl9 := h.small (9 + c)
  have d5 : ((x : Int) == ((ws.getD 5 0 : Nat) : Int)) = false := by simp at hx5 ⊢; omega
  have d5' : (x == ws.getD 5 0) = false := by simp at hx5 ⊢; omega
  have d6 : ((x : Int) == ((ws.getD 6 0 : Nat) : Int)) = false := by simp at hx6 ⊢; omega
  have d6' : (x == ws.getD 6 0) = false := by simp at hx6 ⊢; omega
  unfold rootCs rtcs at hr
  clear hy hx5 hx6
  generalize hwz : zeroW ws x (2 ^ c) = wz at *
  have Hwz := Lib.hid hwz
  clear hwz
  generalize hdN c true = hw at *
  generalize hdN c false = hv at *
  generalize freeW ws x c = FW at *
  generalize twoN ws 1 = t1 at *
  generalize twoN ws 3 = t3 at *
  generalize ws.getD 5 0 = x5 at *
  generalize ws.getD 6 0 = x6 at *
  generalize hl9e : ws.getD (9 + c) 0 = l9 at *
  clear hl9e
  have hzp : ∀ w, (zeroValue 53).run Try.prog w = .ok (.int .u32 0) w := fun w => by kernel_rfl
  have hgp := h.gp
  have hhA := Lib.hid h
  clear h
  go_enter Try.func16, Try.ntmps16
  go_wp2_with fail
  refine ht.mono ?_
  rintro e w' ⟨rfl, n, rfl⟩
  clear ht
  go_wp2_with fail
  refine (hr n).mono ?_
  rintro e w1 ⟨rfl, hb⟩
  clear hr
  have hbw : Below w.heap.size w w1 := (below_drewN (Below.refl _ w) n).trans hb
  obtain ⟨W2, hW2⟩ : ∃ W2, w1.alloc (.cells #[.int .u64 (t1 : Int), .int .u64 (t3 : Int), .int .i64 (x5 : Int), .int .i64 (x6 : Int)] 34) = W2 := ⟨_, rfl⟩
  have hb2 : Below w.heap.size w W2 := by rw [← hW2]; exact hbw.alloc hbw.size _
  have B2 : Blk W2 w1.heap.size 34 #[.int .u64 (t1 : Int), .int .u64 (t3 : Int), .int .i64 (x5 : Int), .int .i64 (x6 : Int)] := by rw [← hW2]; exact Blk.new _ _ _
  have r2 : W2.cell? ⟨w1.heap.size, 2, none⟩ = some (.int .i64 (x5 : Int)) := B2.cell 2
  have r3 : W2.cell? ⟨w1.heap.size, 3, none⟩ = some (.int .i64 (x6 : Int)) := B2.cell 3
  have A2 := hhA.out.later hb2
  have K2 : Kept [p] w W2 := ⟨hb2.os, hb2.tape, hb2.output, hb2.size, fun k hk _ => hb2.block k hk⟩
  have hd2 := hd W2 A2
  have c02 := A2.c0
  have hclr := fun ty => Lib.run_clear_slice (P := Try.prog) W2 62 53 ty (.int .u32 0) Try.underlying62 hzp rfl rfl p x (2 ^ c) (ws.length - x) (by omega) (fun j hj => by rw [A2.word (by omega)]; rfl) (fun j hj => A2.wds.free _)
  obtain ⟨W3, hW3⟩ : ∃ W3, W2.setCells p x (List.replicate (2 ^ c) (.int .u32 0)) = W3 := ⟨_, rfl⟩
  have A3 := A2.zero (2 ^ c) x
  have K3 := kept_zero [p] p (by simp) (2 ^ c) x K2
  rw [hW3] at A3 K3
  rw [Hwz.out] at A3
  simp only [hW3] at hclr
  have c03 := A3.c0
  have c93 := A3.word (i := 9 + c) (by omega)
  have cx3 := A3.word (i := x) (by omega)
  have f93 := A3.wds.free (9 + c)
  have fx3 := A3.wds.free x
  rw [hz9] at c93
  rw [hzl] at c03
  have A4 := (A3.set x l9 hl9).set (9 + c) x (by omega)
  have K4 := (K3.setCell (p := ⟨p, x, none⟩) (.inl (by simp)) (.int .u32 (l9 : Int))).setCell (p := ⟨p, 9 + c, none⟩) (.inl (by simp)) (.int .u32 (x : Int))
  have hlen : ((wz.set x l9).set (9 + c) x).length = ws.length := by simp [hzl]
  generalize wz.getD x 0 = yx at *
  generalize (wz.set x l9).set (9 + c) x = ws2 at *
  obtain ⟨W, hW⟩ : ∃ W, (W3.setCell ⟨p, x, none⟩ (.int .u32 (l9 : Int))).setCell ⟨p, 9 + c, none⟩ (.int .u32 (x : Int)) = W := ⟨_, rfl⟩
  rw [hW] at A4 K4
  clear hb hbw hb2 B2 A2 K2 A3 K3 hhA hd hW3 Hwz hz9 hzl
  obtain ⟨u, rfl⟩ : ∃ u, x = u + 1 := ⟨x - 1, by omega⟩
  rw [Nat.add_sub_cancel] at HG
  generalize 2 ^ c = z at *
  generalize ws.length = m at *
  obtain ⟨S, hS⟩ : ∃ S : World → Prop, S = fun w' => ∃ ws', ws'.length = m ∧ Ar w' g p q ws' bs := ⟨_, rfl⟩
  have hSd : ∀ w' n, S w' → S (w'.drewN n) := by rw [hS]; exact fun w' n ⟨l, h1, h2⟩ => ⟨l, h1, h2.drewN n⟩
  have hS0 : S W.drew := by rw [hS]; exact ⟨_, hlen, A4.drew⟩
  have s0 : ∀ w', S w' → w'.cell? ⟨g, 0, none⟩ = some (.slice (some ⟨p, 0, none⟩) m m) := by
    rw [hS]
    rintro w' ⟨l, h1, h2⟩
    rw [← h1]; exact h2.c0
  have hhS := fun w' (h' : S w') => (hh w').mono (R' := fun e w2 => e = .returned (.int .u32 (hv : Int)) ∧ ∃ n, w2 = w'.drewN n) fun e w2 h => ⟨h.1, 0, h.2.symm⟩
  have hst : ∀ n, (∃ y : Nat, (W.drew.drewN n).cell? ⟨p, u, none⟩ = some (.int .u32 (y : Int))) ∧ (W.drew.drewN n).frozen? ⟨p, u, none⟩ = false ∧ S ((W.drew.drewN n).setCell ⟨p, u, none⟩ (.int .u32 (hv : Int))) := fun n => by
    have hA := A4.drew.drewN n
    refine ⟨⟨_, hA.word (by rw [hlen]; omega)⟩, hA.wds.free _, ?_⟩
    rw [hS]
    exact ⟨_, by simpa using hlen, hA.set u hv hdl⟩
  have HZ := Lib.hid (fun n n2 => And.intro ((A4.drew.drewN n).set u hv hdl) (((((K4.drew).drewN n).setCell (p := ⟨p, u, none⟩) (.inl (by simp)) (.int .u32 (hv : Int)))).drewN n2))
  clear hS A4 K4
  have HLEN := Lib.hid hlen
  clear hlen
  have i1 : (9 : Int) + (c : Int) < (m : Int) := by omega
  have i2 : ((u : Int) + 1) < (m : Int) := by omega
  have i3 : (u : Int) < (m : Int) := by omega
  have n1 : ¬ u + 1 = 9 + c := by omega
  rw [show ((u + 1 : Nat) : Int) = (u : Int) + 1 from by omega] at hW
  have e5 : ((u : Int) + 1 == (x5 : Int)) = false := by simpa using d5
  have e6 : ((u : Int) + 1 == (x6 : Int)) = false := by simpa using d6
  have n2 : ¬ 9 + c = u + 1 := by omega
  go_wp2_with fail
  refine hd2.mono ?_
  rintro e w' ⟨rfl, rfl⟩
  go_wp2_with fail
  refine (hcl _).mono ?_
  rintro e w' ⟨rfl, rfl⟩
  clear hd2 hcl
  go_wp2_with fail
  refine wp_region_linD S [9] [0, 1, 2, 3, 4, 5, 6, 7, 8, 9] (by kernel_rfl) (by kernel_rfl) hSd hS0 ?_
  (repeat (first | (refine linD_off rfl rfl (by rfl) ?_; (try simp only [Act.put, List.getElem_toArray, List.getElem_cons_zero, List.getElem_cons_succ, List.setIfInBounds_toArray, List.set_cons_zero, List.set_cons_succ])) | (refine linD_op (v := ?_) rfl rfl (by rfl) (fun w9 hS9 => ?_) ?_; rotate_left; (focus ((have k0 := s0 w9 hS9; (try dsimp only at hS9); go_simp; (try go_bits)) <;> with_reducible rfl)); (try simp only [Act.put, List.getElem_toArray, List.getElem_cons_zero, List.getElem_cons_succ, List.setIfInBounds_toArray, List.set_cons_zero, List.set_cons_succ])) | (refine linD_fn (f := 50) rfl rfl (by rfl) rfl rfl (enters_of Try.func50 (by kernel_rfl) rfl) (fun w9 hS9 => hhS w9 hS9) ?_ ?_; (focus (simp [Act.eval]; done)); (try simp only [Act.put, List.getElem_toArray, List.getElem_cons_zero, List.getElem_cons_succ, List.setIfInBounds_toArray, List.set_cons_zero, List.set_cons_succ]))))
  refine linD_store rfl rfl (by rfl) (fun n => ?_)
  obtain ⟨⟨y, t1⟩, t2, t3⟩ := hst n
  have HZn := Lib.hid (HZ.out n)
  clear hst HZ
  generalize W.drew.drewN n = V at t1 t2 t3 HZn ⊢
  refine ⟨_, ?_, t3, ?_⟩
  · go_simp
  clear t1 t2 t3
  refine linD_nil (fun n2 => ?_)
  go_wp2
  go_ret
  exact ⟨rfl, by rw [HG.out]; exact (HZn.out n2).1.drewN n2, (HZn.out n2).2⟩
end
end Go.Proofs.Ytgnpoehcmlmajaa
