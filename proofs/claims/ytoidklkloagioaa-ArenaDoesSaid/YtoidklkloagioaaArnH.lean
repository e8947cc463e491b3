/-
  Block behind block; the iterator over an arena's blocks. Nothing here is a statement of the document.
-/
import Derived.Test.YtoidklkloagioaaArnE
import Derived.Test.YtoidklkloagioaaLinI
namespace Go.Proofs.Ytoidklkloagioaa
open Go.RowKit Go.Shelf
set_option linter.unusedVariables false

/-- A block: its place, its class, whether it is taken. -/
structure Bl where
  x : Nat
  c : Nat
  t : Bool
def Bl.zero : Bl := ⟨0, 0, false⟩
/-- Block stands behind block from a word on, up to the edge. -/
def Chain (ws : List Nat) : Nat → List Bl → Prop
  | a0, [] => a0 = ws.getD 15 0
  | a0, b :: r => b.x = a0 + 1 ∧ b.c ≤ 5 ∧ ws.getD a0 0 = hdN b.c b.t ∧ a0 + 1 + 2 ^ b.c ≤ ws.getD 15 0 ∧ Chain ws (a0 + 1 + 2 ^ b.c) r
/-- Where the k-th block is; behind all: one behind the edge. -/
def posB (e : Nat) (B : List Bl) (k : Nat) : Nat := (B[k]?.map Bl.x).getD (e + 1)
theorem chain_head {ws : List Nat} {a0 : Nat} {B : List Bl} (h : Chain ws a0 B) : posB (ws.getD 15 0) B 0 = a0 + 1 := by
  cases B with
  | nil => have h1 : a0 = ws.getD 15 0 := h; simp only [posB]; rw [h1]; rfl
  | cons b r => exact h.1
theorem chain_get {ws : List Nat} : ∀ {B : List Bl} {a0 : Nat}, Chain ws a0 B → 16 ≤ a0 → ∀ {k : Nat} {b : Bl}, B[k]? = some b →
    b.c ≤ 5 ∧ a0 + 1 ≤ b.x ∧ ws.getD (b.x - 1) 0 = hdN b.c b.t ∧ b.x + 2 ^ b.c ≤ ws.getD 15 0 ∧ posB (ws.getD 15 0) B (k + 1) = b.x + 2 ^ b.c + 1
  | [], _, _, _, k, b, hb => by simp at hb
  | c :: r, a0, h, h16, 0, b, hb => by
    obtain rfl : c = b := by simpa using hb
    obtain ⟨h1, h2, h3, h4, h5⟩ := h
    refine ⟨h2, by omega, by rw [h1]; exact h3, by omega, ?_⟩
    have := chain_head h5
    have e : posB (ws.getD 15 0) (c :: r) 1 = posB (ws.getD 15 0) r 0 := rfl
    rw [e, this]; omega
  | c :: r, a0, h, h16, k + 1, b, hb => by
    obtain ⟨h1, h2, h3, h4, h5⟩ := h
    have hz : 0 ≤ 2 ^ c.c := Nat.zero_le _
    generalize 2 ^ c.c = z at *
    obtain ⟨g1, g2, g3, g4, g5⟩ := chain_get h5 (by omega) (k := k) (b := b) (by simpa using hb)
    exact ⟨g1, by omega, g3, g4, g5⟩
theorem posB_get {e : Nat} {B : List Bl} {k : Nat} {b : Bl} (hb : B[k]? = some b) : posB e B k = b.x := by simp [posB, hb]
theorem posB_end (e : Nat) (B : List Bl) : posB e B B.length = e + 1 := by simp [posB]

/-- Of an arena nothing turns: of this type pieces are. -/
def XP : TypeId → Bool := fun t => t == 86
section
variable {w : World} {g p q : Nat} {ws : List Nat} {bs : List Bool}
theorem Ar.kx (h : Ar w g p q ws bs) {S : List Nat} {w' : World} (k : KX XP S w w') (hg : g ∉ S) (hp : p ∉ S) (hq : q ∉ S) : Ar w' g p q ws bs :=
  ⟨k.blk h.box hg (by decide), k.blk h.wds hp (by decide), k.blk h.bgs hq (by decide), h.len, h.lo, h.hi, h.sml⟩

set_option maxHeartbeats 400000 in
theorem blocks_any (a : Option Addr) (w : World) : Calls Try.prog 68 #[.pointer a] w fun e w' =>
    e = .returned (.func (.func 82) #[] #[.pointer (some ⟨w.heap.size, 0, none⟩)]) ∧ Blk w' w.heap.size 25 #[.pointer a] ∧ Below w.heap.size w w' ∧ w'.heap.size = w.heap.size + 1 := by
  have hmf : ∀ (fn : Fn) (first cap : Array Value) (w : World), (Instr.makeFunc fn first cap).run Try.prog w = .ok (.func fn first cap) w := fun _ _ _ _ => rfl
  have HB := Lib.hid (And.intro (Blk.new w 25 #[.pointer a]) ((Below.refl w.heap.size w).alloc (Nat.le_refl _) (.cells #[.pointer a] 25)))
  go_enter Try.func68, Try.ntmps68
  go_wp2
  go_ret
  exact ⟨rfl, HB.out.1, HB.out.2, by simp⟩

/-- What the iterator over all blocks tells. -/
def encB (B : List Bl) (k : Nat) : Array Value := #[.int .i64 ((B.getD k Bl.zero).x : Int), .int .u32 ((hdN (B.getD k Bl.zero).c (B.getD k Bl.zero).t : Nat) : Int)]

attribute [local go_sem] Oper.semAt_some
set_option maxRecDepth 100000 in
set_option maxHeartbeats 1000000 in
theorem blocks_tells {S : List Nat} {box : Nat} {B : List Bl} (h : Ar w g p q ws bs) (hC : Chain ws 16 B) (he : ws.getD 15 0 ≤ ws.length) (hb : Blk w box 25 #[.pointer (some ⟨g, 0, none⟩)])
    (hgS : g ∉ S) (hpS : p ∉ S) (hqS : q ∉ S) (hbS : box ∉ S) :
    Tells XP 82 #[.pointer (some ⟨box, 0, none⟩)] S B.length (encB B) w := by
  intro lo J Jx W hWk hlw hlo hJ hJx hY h0
  have n1 : g ≠ lo := by have := h.box.lt; omega
  have n2 : p ≠ lo := by have := h.wds.lt; omega
  have n3 : q ≠ lo := by have := h.bgs.lt; omega
  have n4 : box ≠ lo := by have := hb.lt; omega
  replace h := h.kx hWk hgS hpS hqS
  replace hb := hWk.blk hb hbS (by decide)
  have hhi := h.hi
  have hC0 := chain_head hC
  have hCg := fun (k : Nat) (b : Bl) (hb : B[k]? = some b) => chain_get hC (Nat.le_refl _) hb
  have hCe := posB_end (ws.getD 15 0) B
  clear hlw hWk hC
  generalize hee : ws.getD 15 0 = e at *
  have HE := Lib.hid hee
  clear hee
  refine callsIn_of_wp Try.func82 rfl trivial ?_ rfl
  simp only [Try.ntmps82, List.size_toArray, List.length_cons, List.length_nil, Nat.reduceAdd, Nat.reduceSub, Array.replicate_succ, Array.replicate_zero, List.push_toArray, List.append_toArray, List.nil_append, List.cons_append]
  gi_wp2
  gi_loopw [3] (fun i wr => ∃ k : Nat, k ≤ B.length ∧ i = .int .i64 (posB e B k : Int) ∧ J k wr ∧ Ar wr g p q ws bs ∧ Blk wr box 25 #[.pointer (some ⟨g, 0, none⟩)] ∧ 0 ≤ wr.heap.size) (fun i _ => e + 2 - (intOf i).toNat)
  case atStart => exact ⟨0, Nat.zero_le _, by rw [hC0]; rfl, h0, h, hb, Nat.zero_le _⟩
  case round =>
    obtain ⟨k, hk, rfl, hJs, hA, hbw, _⟩ := hrel
    have cb : wr.cell? ⟨box, 0, none⟩ = some (.pointer (some ⟨g, 0, none⟩)) := hbw.cell 0
    have hed := edge_any hA
    rw [HE.out] at hed
    by_cases hlt : k < B.length
    · obtain ⟨g1, g2, g3, g4, g5⟩ := hCg k B[k] (List.getElem?_eq_getElem hlt)
      have hpo := posB_get (e := e) (List.getElem?_eq_getElem hlt)
      have hdd : B.getD k Bl.zero = B[k] := by simp [hlt]
      obtain ⟨fn, tmps, assign, body, hy, hR⟩ := hY k wr hlt hJs
      unfold encB at hy
      rw [hdd] at hy
      rw [hpo]
      have hhd := head_any hA B[k].x (by omega) (by have := (pow5 g1).1; omega)
      rw [g3] at hhd
      have hsz := fun w => hsize_any B[k].c B[k].t g1 w
      have hp5 := pow5 g1
      generalize B[k] = b at *
      generalize hdN b.c b.t = hv at *
      generalize b.x = x at *
      generalize 2 ^ b.c = z at *
      have d1 : decide ((x : Int) ≤ (e : Int)) = true := decide_eq_true (by omega)
      have d2 : decide (x ≤ e) = true := decide_eq_true (by omega)
      have HJ := Lib.hid (And.intro hA (And.intro hbw (And.intro hpo g5)))
      clear hJs hA hbw hC0 hCe hCg h hb h0 hpo g5 hY
      gi_wp2
      refine ⟨trivial, ?_⟩
      refine (callsIn_wide.2 hed).mono ?_
      rintro e1 w1 ⟨rfl, rfl⟩
      gi_wp2
      refine ⟨trivial, ?_⟩
      refine (callsIn_wide.2 hhd).mono ?_
      rintro e1 w1 ⟨rfl, rfl⟩
      clear hed hhd
      gi_wp2
      refine hR.mono ?_
      rintro e2 W4 ⟨hk4, ⟨rfl, hJ4⟩ | ⟨rfl, hJx4⟩⟩
      · have hA4 := HJ.out.1.kx hk4 (by simp [n1, hgS]) (by simp [n2, hpS]) (by simp [n3, hqS])
        have hb4 := hk4.blk HJ.out.2.1 (by simp [n4, hbS]) (by decide)
        have hnx : posB e B (k + 1) = x + (z + 1) := by have := HJ.out.2.2.2; omega
        have HN := Lib.hid hnx
        clear hnx hy
        gi_wp2
        refine ⟨trivial, ?_⟩
        refine (callsIn_wide.2 (hsz _)).mono ?_
        rintro e1 w1 ⟨rfl, rfl⟩
        clear hsz
        gi_wp2
        go_roundw
        case rel => exact ⟨k + 1, by omega, by rw [HN.out]; go_num, hJ4, hA4, hb4, Nat.zero_le _⟩
        case measure => simp [intOf]; omega
      · gi_wp2
        refine bodyPost_ret (results_none rfl _ _ _) rfl ?_
        exact ⟨⟨_, rfl⟩, .inr ⟨k, by omega, hJx4⟩⟩
    · obtain rfl : k = B.length := by omega
      rw [hCe]
      have d1 : decide ((e : Int) + 1 ≤ (e : Int)) = false := decide_eq_false (by omega)
      clear hC0 hCe hCg h hb h0 hY
      gi_wp2
      refine ⟨trivial, ?_⟩
      refine (callsIn_wide.2 hed).mono ?_
      rintro e1 w1 ⟨rfl, rfl⟩
      gi_wp2
      go_end0
      exact ⟨⟨_, rfl⟩, .inl hJs⟩
end
end Go.Proofs.Ytoidklkloagioaa
