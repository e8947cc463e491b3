/-
  What a disk holds, as plain data; how it lies in memory; and the contracts of disk's functions that only read, or turn one field. Nothing here is a statement of the document.
-/
import Derived.Test.YtkfpkolgikpcpaaDskA
namespace Go.Proofs.Ytkfpkolgikpcpaa
open Go.RowKit
set_option linter.unusedVariables false

/-- What a disk holds. -/
structure Dk where
  plate : List Bk
  rows : List Rw
  fuse : Option Nat
  flaw : Option Nat
  dead : Bool
  ops : Int

def cdB (o : Option Nat) : Bool := o.isSome
def cdI (o : Option Nat) : Int := ((o.getD 0 : Nat) : Int)

/-- A disk's own cells. -/
def dcs (pb : Nat) (bv : Value) (D : Dk) : Array Value :=
  #[.slice (some ⟨pb, 0, none⟩) D.plate.length D.plate.length, bv, .bool (cdB D.fuse), .int .i64 (cdI D.fuse), .bool (cdB D.flaw), .int .i64 (cdI D.flaw), .bool D.dead, .int .i64 D.ops]

/-- What holds of every disk. -/
structure Dk.Ok (D : Dk) : Prop where
  pos : 1 ≤ D.plate.length
  max : D.plate.length ≤ 2048
  held : D.rows.length ≤ 8
  at_ : ∀ r ∈ D.rows, r.s < D.plate.length
  once : (D.rows.map (·.s)).Nodup
  fuse : ∀ n, D.fuse = some n → n ≤ 9223372036854775807
  flaw : ∀ n, D.flaw = some n → n ≤ 9223372036854775807

/-- At block p lies a disk that holds D; pb is its plate's block, bv its buffer; none of it lies below B. -/
structure Dsk (w : World) (B p pb : Nat) (bv : Value) (D : Dk) : Prop where
  cells : Blk w p 102 (dcs pb bv D)
  plate : Blk w pb 77 (pcs D.plate).toArray
  buf : w.ownsRow B 108 65 bv D.rows.length (rcs D.rows)
  hp : B ≤ p
  hpb : B ≤ pb
  ok : D.Ok

/-- The blocks of a disk. -/
def fp (p pb : Nat) (bv : Value) : List Nat := p :: pb :: bv.ownBlock.toList

/-- Only a disk's blocks have changed; its buffer is where it was, or new. -/
structure Goes (w w' : World) (p pb : Nat) (bv bv' : Value) : Prop where
  kept : Kept (fp p pb bv) w w'
  new : ∀ k, bv'.ownBlock = some k → bv.ownBlock = some k ∨ w.heap.size ≤ k

theorem Goes.refl (w : World) (p pb : Nat) (bv : Value) : Goes w w p pb bv bv := ⟨Kept.refl _ _, fun k h => .inl h⟩
theorem Goes.trans {w w' w2 : World} {p pb : Nat} {bv bv' bv2 : Value} (h : Goes w w' p pb bv bv') (k : Goes w' w2 p pb bv' bv2) : Goes w w2 p pb bv bv2 := by
  refine ⟨h.kept.trans2 k.kept (fun i hi => ?_), fun i hi => ?_⟩
  · simp only [fp, List.mem_cons, Option.mem_toList] at hi ⊢
    rcases hi with rfl | rfl | hi
    · exact .inl (.inl rfl)
    · exact .inl (.inr (.inl rfl))
    · rcases h.new i hi with h1 | h1
      · exact .inl (.inr (.inr h1))
      · exact .inr h1
  · rcases k.new i hi with h1 | h1
    · exact h.new i h1
    · exact .inr (Nat.le_trans h.kept.size h1)
theorem Goes.alloc {w w' : World} {p pb : Nat} {bv bv' : Value} (h : Goes w w' p pb bv bv') (o : Obj) : Goes w (w'.alloc o) p pb bv bv' := ⟨h.kept.alloc o, h.new⟩
theorem Goes.drew {w w' : World} {p pb : Nat} {bv bv' : Value} (h : Goes w w' p pb bv bv') : Goes w w'.drew p pb bv bv' := ⟨h.kept.drew, h.new⟩
theorem Goes.later {w w' w2 : World} {p pb : Nat} {bv bv' : Value} (h : Goes w w' p pb bv bv') (k : Below w'.heap.size w' w2) : Goes w w2 p pb bv bv' :=
  ⟨h.kept.trans (Kept.of_below _ k), h.new⟩
theorem Goes.setCell {w w' : World} {p pb : Nat} {bv bv' : Value} (h : Goes w w' p pb bv bv') (i : Nat) (v : Value) : Goes w (w'.setCell ⟨p, i, none⟩ v) p pb bv bv' :=
  ⟨h.kept.setCell (.inl (by simp [fp])) v, h.new⟩

section
variable {w w' : World} {B p pb : Nat} {bv : Value} {D : Dk}
theorem Dsk.c0 (h : Dsk w B p pb bv D) : w.cell? ⟨p, 0, none⟩ = some (.slice (some ⟨pb, 0, none⟩) D.plate.length D.plate.length) := h.cells.cell 0
theorem Dsk.c1 (h : Dsk w B p pb bv D) : w.cell? ⟨p, 1, none⟩ = some bv := h.cells.cell 1
theorem Dsk.c2 (h : Dsk w B p pb bv D) : w.cell? ⟨p, 2, none⟩ = some (.bool (cdB D.fuse)) := h.cells.cell 2
theorem Dsk.c3 (h : Dsk w B p pb bv D) : w.cell? ⟨p, 3, none⟩ = some (.int .i64 (cdI D.fuse)) := h.cells.cell 3
theorem Dsk.c4 (h : Dsk w B p pb bv D) : w.cell? ⟨p, 4, none⟩ = some (.bool (cdB D.flaw)) := h.cells.cell 4
theorem Dsk.c5 (h : Dsk w B p pb bv D) : w.cell? ⟨p, 5, none⟩ = some (.int .i64 (cdI D.flaw)) := h.cells.cell 5
theorem Dsk.c6 (h : Dsk w B p pb bv D) : w.cell? ⟨p, 6, none⟩ = some (.bool D.dead) := h.cells.cell 6
theorem Dsk.c7 (h : Dsk w B p pb bv D) : w.cell? ⟨p, 7, none⟩ = some (.int .i64 D.ops) := h.cells.cell 7
theorem Dsk.lt (h : Dsk w B p pb bv D) : p < w.heap.size := h.cells.lt
theorem Dsk.ne (h : Dsk w B p pb bv D) : p ≠ pb := h.cells.ne h.plate (by decide)
/-- The buffer's block is neither the disk's own, nor the plate's. -/
theorem Dsk.far (h : Dsk w B p pb bv D) : ∀ k, bv.ownBlock = some k → k ≠ p ∧ k ≠ pb ∧ B ≤ k ∧ k < w.heap.size := by
  intro k hk
  have hl := h.buf.lt k hk
  rcases h.buf.2 with ⟨rfl, _⟩ | ⟨g, cap, cur, rfl, _, hg, _⟩
  · simp [Value.ownBlock] at hk
  · obtain rfl : g = k := by simpa [Value.ownBlock] using hk
    have hb : Blk w g 108 cur := hg
    exact ⟨hb.ne h.cells (by decide), hb.ne h.plate (by decide), hl.1, hl.2⟩
/-- Whatever has changed elsewhere. -/
theorem Dsk.apart (h : Dsk w B p pb bv D) {S : List Nat} (k : Kept S w w') (hS : ∀ i ∈ S, i ∉ fp p pb bv) : Dsk w' B p pb bv D := by
  refine ⟨h.cells.kept k (fun hm => hS _ hm (by simp [fp])), h.plate.kept k (fun hm => hS _ hm (by simp [fp])), ?_, h.hp, h.hpb, h.ok⟩
  rcases h.buf.2 with ⟨rfl, h0⟩ | ⟨g, cap, cur, rfl, hB, hg, r⟩
  · exact ⟨h.buf.1, .inl ⟨rfl, h0⟩⟩
  · exact ⟨h.buf.1, .inr ⟨g, cap, cur, rfl, hB, Blk.kept (cs := cur) hg k (fun hm => hS _ hm (by simp [fp, Value.ownBlock])), r⟩⟩
theorem Dsk.later (h : Dsk w B p pb bv D) (k : Below w.heap.size w w') : Dsk w' B p pb bv D := h.apart (Kept.of_below [] k) (by simp)
theorem Dsk.alloc (h : Dsk w B p pb bv D) (o : Obj) : Dsk (w.alloc o) B p pb bv D := h.later ((Below.refl _ _).alloc (Nat.le_refl _) _)
theorem Dsk.drew (h : Dsk w B p pb bv D) : Dsk w.drew B p pb bv D := h.later (Below.refl _ _).drew
/-- A field of the disk's own cells is turned. -/
theorem Dsk.turn (h : Dsk w B p pb bv D) (i : Nat) (v : Value) (D' : Dk) (hc : (dcs pb bv D).setIfInBounds i v = dcs pb bv D') (h1 : D'.plate = D.plate) (h2 : D'.rows = D.rows) (ok : D'.Ok) : Dsk (w.setCell ⟨p, i, none⟩ v) B p pb bv D' := by
  have hg : w.grownBy (w.setCell ⟨p, i, none⟩ v) (some p) := ⟨rfl, rfl, rfl, by simp [World.setCell], fun k _ hk => Below.heap_setCell _ _ _ _ (fun e => hk (by rw [e]))⟩
  refine ⟨?_, ?_, ?_, h.hp, h.hpb, ok⟩
  · rw [← hc]; exact h.cells.set i v
  · rw [h1]; exact h.plate.far (p := ⟨p, i, none⟩) h.ne.symm v
  · rw [h2]
    refine h.buf.kept hg ?_
    cases e : bv.ownBlock with
    | none => exact .inl rfl
    | some k => exact .inr (fun e2 => (h.far k e).1 (by injection e2))
theorem Goes.below {bv' : Value} (h : Goes w w' p pb bv bv') (hD : Dsk w B p pb bv D) (hB : B ≤ w.heap.size) : Below B w w' :=
  h.kept.below (fun k hk => by
    simp only [fp, List.mem_cons, Option.mem_toList] at hk
    rcases hk with rfl | rfl | hk
    · exact hD.hp
    · exact hD.hpb
    · exact (hD.far k hk).2.2.1) hB
end

/-! ### What only reads -/

set_option maxHeartbeats 400000 in
theorem power_nil (w : World) : Calls Try.prog 49 #[.pointer none] w fun e w' => e = .returned (.int .i64 1) ∧ w = w' := by
  go_enter Try.func49, Try.ntmps49
  go_wp2
  go_ret
  exact ⟨rfl, rfl⟩
set_option maxHeartbeats 400000 in
theorem power_any {w : World} {B p pb : Nat} {bv : Value} {D : Dk} (h : Dsk w B p pb bv D) :
    Calls Try.prog 49 #[.pointer (some ⟨p, 0, none⟩)] w fun e w' => e = .returned (.int .i64 (if D.dead then 9 else 0)) ∧ w = w' := by
  have c := h.c6
  clear h
  cases hd : D.dead <;> rw [hd] at c
  all_goals
    go_enter Try.func49, Try.ntmps49
    go_wp2
    go_ret
    exact ⟨rfl, rfl⟩
set_option maxHeartbeats 400000 in
theorem len_nil (w : World) : Calls Try.prog 55 #[.pointer none] w fun e w' => e = .returned (.int .i64 0) ∧ w = w' := by
  go_enter Try.func55, Try.ntmps55
  go_wp2
  go_ret
  exact ⟨rfl, rfl⟩
set_option maxHeartbeats 400000 in
theorem len_any {w : World} {B p pb : Nat} {bv : Value} {D : Dk} (h : Dsk w B p pb bv D) :
    Calls Try.prog 55 #[.pointer (some ⟨p, 0, none⟩)] w fun e w' => e = .returned (.int .i64 (D.plate.length : Int)) ∧ w = w' := by
  have c := h.c0
  clear h
  go_enter Try.func55, Try.ntmps55
  go_wp2
  go_ret
  exact ⟨rfl, rfl⟩
set_option maxHeartbeats 400000 in
theorem ops_nil (w : World) : Calls Try.prog 30 #[.pointer none] w fun e w' => e = .returned (.int .i64 0) ∧ w = w' := by
  go_enter Try.func30, Try.ntmps30
  go_wp2
  go_ret
  exact ⟨rfl, rfl⟩
set_option maxHeartbeats 400000 in
theorem ops_any {w : World} {B p pb : Nat} {bv : Value} {D : Dk} (h : Dsk w B p pb bv D) :
    Calls Try.prog 30 #[.pointer (some ⟨p, 0, none⟩)] w fun e w' => e = .returned (.int .i64 D.ops) ∧ w = w' := by
  have c := h.c7
  clear h
  go_enter Try.func30, Try.ntmps30
  go_wp2
  go_ret
  exact ⟨rfl, rfl⟩

/-! ### Countdowns -/

set_option maxHeartbeats 400000 in
theorem comes_any (o : Option Nat) (w : World) :
    Calls Try.prog 87 #[.agg #[.bool (cdB o), .int .i64 (cdI o)]] w fun e w' => e = .returned (.bool (decide (o = some 0))) ∧ w.alloc (.cells #[.bool (cdB o), .int .i64 (cdI o)] 98) = w' := by
  rcases o with _ | _ | n
  · have e1 : cdB none = false := rfl
    have e2 : cdI none = 0 := rfl
    rw [e1, e2]
    go_enter Try.func87, Try.ntmps87
    go_wp2
    go_ret
    exact ⟨rfl, rfl⟩
  · have e1 : cdB (some 0) = true := rfl
    have e2 : cdI (some 0) = 0 := rfl
    rw [e1, e2]
    go_enter Try.func87, Try.ntmps87
    go_wp2
    go_ret
    exact ⟨rfl, rfl⟩
  · have e1 : cdB (some (n + 1)) = true := rfl
    have e2 : cdI (some (n + 1)) = (n : Int) + 1 := rfl
    rw [e1, e2]
    have hb : (((n : Int) + 1) == 0) = false := by rw [beq_eq_false_iff_ne]; omega
    go_enter Try.func87, Try.ntmps87
    go_wp2
    go_ret
    exact ⟨by simp, rfl⟩

set_option maxHeartbeats 400000 in
theorem pass_none {w : World} {p i : Nat} (h : w.cell? ⟨p, i, none⟩ = some (.bool false)) :
    Calls Try.prog 89 #[.pointer (some ⟨p, i, none⟩)] w fun e w' => e = .returned (.tuple #[]) ∧ w = w' := by
  go_enter Try.func89, Try.ntmps89
  go_wp2
  go_end0
  exact ⟨rfl, rfl⟩
set_option maxHeartbeats 400000 in
theorem pass_some {w : World} {p i n : Nat} (h : w.cell? ⟨p, i, none⟩ = some (.bool true)) (h1 : w.cell? ⟨p, i + 1, none⟩ = some (.int .i64 ((n : Int) + 1))) (hf : w.frozen? ⟨p, i + 1, none⟩ = false) (hn : (n : Int) + 1 ≤ 9223372036854775807) :
    Calls Try.prog 89 #[.pointer (some ⟨p, i, none⟩)] w fun e w' => e = .returned (.tuple #[]) ∧ w.setCell ⟨p, i + 1, none⟩ (.int .i64 (n : Int)) = w' := by
  go_enter Try.func89, Try.ntmps89
  go_wp2
  go_end0
  exact ⟨rfl, rfl⟩

def cdOf (n : Int) : Option Nat := if n < 0 then none else some n.toNat
set_option maxHeartbeats 400000 in
theorem countFrom_any (n : Int) (w : World) :
    Calls Try.prog 50 #[.int .i64 n] w fun e w' => e = .returned (.agg #[.bool (cdB (cdOf n)), .int .i64 (cdI (cdOf n))]) ∧ Below w.heap.size w w' := by
  by_cases hn : n < 0
  · have e : cdOf n = none := by simp [cdOf, hn]
    rw [e]
    have hd : decide (n < 0) = true := by simpa using hn
    go_enter Try.func50, Try.ntmps50
    go_wp2
    exact bodyPost_ret (v := .agg #[.bool false, .int .i64 0]) (by simp [results, Try.results50, go_sem]) rfl ⟨rfl, (Below.refl _ _).alloc (Nat.le_refl _) _⟩
  · have e : cdOf n = some n.toNat := by simp [cdOf, hn]
    have e2 : cdI (some n.toNat) = n := by simp [cdI]; omega
    rw [e, e2]
    have hd : decide (n < 0) = false := by simpa using hn
    go_enter Try.func50, Try.ntmps50
    go_wp2
    exact bodyPost_ret (v := .agg #[.bool true, .int .i64 n]) (by simp [results, Try.results50, go_sem]) rfl ⟨rfl, (Below.refl _ _).alloc (Nat.le_refl _) _⟩

/-! ### reach -/

/-- Why a sector can't be asked for. -/
def reachE (D : Dk) (i : Int) : Int := if D.dead then 9 else if 0 ≤ i ∧ i < D.plate.length then 0 else 2

set_option maxHeartbeats 400000 in
theorem reach_nil (i : Int) (w : World) : Calls Try.prog 71 #[.pointer none, .int .i64 i] w fun e w' => e = .returned (.int .i64 1) ∧ w = w' := by
  go_enter Try.func71, Try.ntmps71
  go_wp2_with (go_at_call 49; refine (power_nil _).mono ?_; rintro e w' ⟨rfl, rfl⟩)
  go_ret
  exact ⟨rfl, rfl⟩
set_option maxHeartbeats 400000 in
theorem reach_any {w : World} {B p pb : Nat} {bv : Value} {D : Dk} (h : Dsk w B p pb bv D) (i : Int) :
    Calls Try.prog 71 #[.pointer (some ⟨p, 0, none⟩), .int .i64 i] w fun e w' => e = .returned (.int .i64 (reachE D i)) ∧ w = w' := by
  have c := h.c0
  have hp := power_any h
  unfold reachE
  cases hd : D.dead
  · rw [hd] at hp
    by_cases h1 : i < 0
    · have hb : decide (i < 0) = true := by simpa using h1
      have hR : (if (false : Bool) = true then (9 : Int) else if 0 ≤ i ∧ i < D.plate.length then 0 else 2) = 2 := by rw [if_neg (by simp), if_neg (by omega)]
      rw [hR]
      go_enter Try.func71, Try.ntmps71
      go_wp2_with (go_at_call 49; refine hp.mono ?_; rintro e w' ⟨rfl, rfl⟩)
      go_ret
      exact ⟨rfl, rfl⟩
    · have hb : decide (i < 0) = false := by simpa using h1
      by_cases h2 : i < D.plate.length
      · have hb2 : decide ((D.plate.length : Int) ≤ i) = false := by simpa using h2
        have hR : (if (false : Bool) = true then (9 : Int) else if 0 ≤ i ∧ i < D.plate.length then 0 else 2) = 0 := by rw [if_neg (by simp), if_pos (by omega)]
        rw [hR]
        go_enter Try.func71, Try.ntmps71
        go_wp2_with (go_at_call 49; refine hp.mono ?_; rintro e w' ⟨rfl, rfl⟩)
        go_ret
        exact ⟨rfl, rfl⟩
      · have hb2 : decide ((D.plate.length : Int) ≤ i) = true := by simpa using h2
        have hR : (if (false : Bool) = true then (9 : Int) else if 0 ≤ i ∧ i < D.plate.length then 0 else 2) = 2 := by rw [if_neg (by simp), if_neg (by omega)]
        rw [hR]
        go_enter Try.func71, Try.ntmps71
        go_wp2_with (go_at_call 49; refine hp.mono ?_; rintro e w' ⟨rfl, rfl⟩)
        go_ret
        exact ⟨rfl, rfl⟩
  · rw [hd] at hp
    go_enter Try.func71, Try.ntmps71
    go_wp2_with (go_at_call 49; refine hp.mono ?_; rintro e w' ⟨rfl, rfl⟩)
    go_ret
    exact ⟨rfl, rfl⟩
end Go.Proofs.Ytkfpkolgikpcpaa
