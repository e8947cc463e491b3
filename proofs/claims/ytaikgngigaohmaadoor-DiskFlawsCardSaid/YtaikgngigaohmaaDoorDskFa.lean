/-
  Acts of a living disk, of one that is to fail, and of a dead one. Nothing here is a statement of the document.
-/
import Derived.Test.YtaikgngigaohmaaDoorDskSw
namespace Go.Proofs.YtaikgngigaohmaaDoor
open Go.RowKit Go.Shelf
set_option linter.unusedVariables false

theorem reach_ok {D : Dk} {i : Int} (hd : D.dead = false) (h0 : 0 ≤ i) (h1 : i < D.plate.length) : reachE D i = 0 := by
  unfold reachE
  rw [hd, if_neg (by simp), if_pos ⟨h0, h1⟩]
theorem reach_dead {D : Dk} {i : Int} (hd : D.dead = true) : reachE D i = 9 := by
  unfold reachE
  rw [if_pos hd]

/-- A write that is done. -/
theorem write_on {w : World} {B p pb : Nat} {bv : Value} {D : Dk} (h : Dsk w B p pb bv D) (hB : B ≤ w.heap.size) (hd : D.dead = false) (hl : D.flaw = none) (hf : D.fuse ≠ some 0) (i : Int) (h0 : 0 ≤ i) (h1 : i < D.plate.length) (b : Bk) :
    Calls Tryd.prog 17 #[.pointer (some ⟨p, 0, none⟩), .int .i64 i, .agg b.cs] w fun e w' => e = .returned (.int .i64 0) ∧ ∃ bv' D', Dsk w' B p pb bv' D' ∧ D'.dead = false ∧ D'.flaw = none ∧ D'.fuse = passO D.fuse ∧ D'.plate.length = D.plate.length ∧ (D.rows = [] → D'.rows.length = 1) ∧ Goes w w' p pb bv bv' := by
  refine (write_any h hB i b).mono ?_
  rintro e w' ⟨rfl, bv', h2, h3⟩
  have ha : writeM D i b = (countM (holdM (fuseM (flawM D)) ⟨i.toNat, b⟩), 0) := by
    unfold writeM
    rw [if_neg (by rw [reach_ok hd h0 h1]; simp), if_neg hf, if_neg (by simp [hl])]
  rw [ha] at h2 ⊢
  have hr := holdM_rest (fuseM (flawM D)) ⟨i.toNat, b⟩
  refine ⟨rfl, bv', _, h2, hr.1.trans hd, ?_, hr.2.2.1, ?_, ?_, h3⟩
  · show (holdM (fuseM (flawM D)) ⟨i.toNat, b⟩).flaw = none
    rw [hr.2.2.2]
    show passO D.flaw = none
    rw [hl]
    rfl
  · show (holdM (fuseM (flawM D)) ⟨i.toNat, b⟩).plate.length = _
    rw [holdM_len]
    rfl
  · intro hn
    show (holdM (fuseM (flawM D)) ⟨i.toNat, b⟩).rows.length = 1
    have hn' : (fuseM (flawM D)).rows = [] := hn
    unfold holdM
    rw [hn']
    simp [hn']
/-- A read that is done. -/
theorem read_on {w : World} {B p pb : Nat} {bv : Value} {D : Dk} (h : Dsk w B p pb bv D) (hd : D.dead = false) (hl : D.flaw = none) (i : Int) (h0 : 0 ≤ i) (h1 : i < D.plate.length) :
    Calls Tryd.prog 20 #[.pointer (some ⟨p, 0, none⟩), .int .i64 i] w fun e w' => ∃ (b : Bk) (D' : Dk), e = .returned (.tuple #[.agg b.cs, .int .i64 0]) ∧ Dsk w' B p pb bv D' ∧ D'.dead = false ∧ D'.flaw = none ∧ D'.fuse = D.fuse ∧ D'.plate.length = D.plate.length ∧ Goes w w' p pb bv bv := by
  refine (read_any h i).mono ?_
  rintro e w' ⟨rfl, h2, h3⟩
  have ha : readM D i = (countM (flawM D), showsM D i.toNat, 0) := by
    unfold readM
    rw [if_neg (by rw [reach_ok hd h0 h1]; simp), if_neg (by simp [hl])]
  rw [ha] at h2 ⊢
  refine ⟨_, _, rfl, h2, hd, ?_, rfl, rfl, h3⟩
  show passO D.flaw = none
  rw [hl]
  rfl
/-- An act that fails changes nothing but that it has failed. -/
theorem does_flaw {w : World} {B p pb : Nat} {bv : Value} {D : Dk} (h : Dsk w B p pb bv D) (hB : B ≤ w.heap.size) (hd : D.dead = false) (hl : D.flaw = some 0) (hf : D.fuse = none) (x : Deed) (ks : List Bool) (hk : x.k < 7) (h0 : 0 ≤ x.sector) (h1 : x.sector < D.plate.length) (hT : Truths w x.ad ks) (hn : ks.length = x.len) (hc : x.len ≤ x.cap) (hm : x.cap ≤ maxLen) (hx : x.num ≤ 9223372036854775807) :
    Calls Tryd.prog 10 #[.pointer (some ⟨p, 0, none⟩), .agg x.cs] w fun e w' => ∃ (b : Bk) (bv' : Value) (D' : Dk), e = .returned (.tuple #[.agg b.cs, .int .i64 8]) ∧ Dsk w' B p pb bv' D' ∧ D'.dead = false ∧ D'.flaw = none ∧ D'.fuse = none ∧ D'.plate = D.plate ∧ D'.rows = D.rows ∧ D'.ops = D.ops ∧ Goes w w' p pb bv bv' := by
  refine (does_any h hB x ks hT hn hc hm hx).mono ?_
  rintro e w' ⟨rfl, bv', h2, h3⟩
  have ha : (doesM D x ks).1 = failM D ∧ (doesM D x ks).2.2 = 8 := by
    have hr := reach_ok hd h0 h1
    unfold doesM
    by_cases h5 : x.k = 5
    · rw [if_pos h5]
      unfold readM
      rw [if_neg (by rw [hr]; simp), if_pos hl]
      exact ⟨rfl, rfl⟩
    rw [if_neg h5]
    by_cases h6 : x.k = 6
    · rw [if_pos h6]
      unfold syncM
      rw [if_neg (by simp [hd]), if_neg (by simp [hf]), if_pos hl]
      exact ⟨rfl, rfl⟩
    rw [if_neg h6, if_neg (by omega), if_neg (by omega), if_neg (by omega)]
    unfold writeM
    rw [if_neg (by rw [hr]; simp), if_neg (by simp [hf]), if_pos hl]
    exact ⟨rfl, rfl⟩
  rw [ha.1] at h2
  rw [ha.2]
  exact ⟨_, bv', _, rfl, h2, hd, rfl, hf, rfl, rfl, rfl, h3⟩
theorem fail_at {w : World} {B p pb : Nat} {bv : Value} {D : Dk} (h : Dsk w B p pb bv D) (hd : D.dead = false) :
    Calls Tryd.prog 14 #[.pointer (some ⟨p, 0, none⟩), .int .i64 0] w fun e w' => e = .returned (.int .i64 0) ∧ ∃ D', Dsk w' B p pb bv D' ∧ D'.dead = false ∧ D'.fuse = D.fuse ∧ D'.flaw = some 0 ∧ D'.plate = D.plate ∧ D'.rows = D.rows ∧ D'.ops = D.ops ∧ Goes w w' p pb bv bv := by
  refine (fail_any h 0 (by omega)).mono ?_
  rintro e w' ⟨rfl, h1, h2⟩
  have ha : flawedM D 0 = ({ D with flaw := some 0 }, 0) := by
    unfold flawedM
    rw [if_neg (by simp [hd])]
    rfl
  rw [ha] at h1 ⊢
  exact ⟨rfl, _, h1, hd, rfl, rfl, rfl, rfl, rfl, h2⟩
theorem arm_at {w : World} {B p pb : Nat} {bv : Value} {D : Dk} (h : Dsk w B p pb bv D) (hd : D.dead = false) (k : Nat) (hk : k ≤ 9) :
    Calls Tryd.prog 13 #[.pointer (some ⟨p, 0, none⟩), .int .i64 (k : Int)] w fun e w' => e = .returned (.int .i64 0) ∧ ∃ D', Dsk w' B p pb bv D' ∧ D'.dead = false ∧ D'.fuse = some k ∧ D'.flaw = D.flaw ∧ D'.plate = D.plate ∧ D'.rows = D.rows ∧ Goes w w' p pb bv bv := by
  refine (arm_any h (k : Int) (by omega)).mono ?_
  rintro e w' ⟨rfl, h1, h2⟩
  have ha : armM D (k : Int) = ({ D with fuse := some k }, 0) := by
    unfold armM cdOf
    rw [if_neg (by simp [hd]), if_neg (by omega)]
    simp
  rw [ha] at h1 ⊢
  exact ⟨rfl, _, h1, hd, rfl, rfl, rfl, rfl, h2⟩
/-- The fuse has burnt. -/
theorem sync_burnt {w : World} {B p pb : Nat} {bv : Value} {D : Dk} (h : Dsk w B p pb bv D) (hd : D.dead = false) (hf : D.fuse = some 0) :
    Calls Tryd.prog 15 #[.pointer (some ⟨p, 0, none⟩)] w fun e w' => e = .returned (.int .i64 9) ∧ ∃ bv' D', Dsk w' B p pb bv' D' ∧ D'.dead = true ∧ Goes w w' p pb bv bv' := by
  refine (sync_any h).mono ?_
  rintro e w' ⟨rfl, bv', h1, h2⟩
  have ha : syncM D = (deadM D, 9) := by
    unfold syncM
    rw [if_neg (by simp [hd]), if_pos hf]
  rw [ha] at h1 ⊢
  exact ⟨rfl, _, _, h1, rfl, h2⟩
theorem read_dead {w : World} {B p pb : Nat} {bv : Value} {D : Dk} (h : Dsk w B p pb bv D) (hd : D.dead = true) (i : Int) :
    Calls Tryd.prog 20 #[.pointer (some ⟨p, 0, none⟩), .int .i64 i] w fun e w' => e = .returned (.tuple #[.agg Bk.zero.cs, .int .i64 9]) ∧ Dsk w' B p pb bv D ∧ Goes w w' p pb bv bv := by
  refine (read_any h i).mono ?_
  rintro e w' ⟨rfl, h1, h2⟩
  have ha : readM D i = (D, Bk.zero, 9) := by
    unfold readM
    rw [reach_dead hd, if_pos (by simp)]
  rw [ha] at h1 ⊢
  exact ⟨rfl, h1, h2⟩
theorem write_gone {w : World} {B p pb : Nat} {bv : Value} {D : Dk} (h : Dsk w B p pb bv D) (hB : B ≤ w.heap.size) (hd : D.dead = true) (i : Int) (b : Bk) :
    Calls Tryd.prog 17 #[.pointer (some ⟨p, 0, none⟩), .int .i64 i, .agg b.cs] w fun e w' => e = .returned (.int .i64 9) ∧ ∃ bv', Dsk w' B p pb bv' D ∧ Goes w w' p pb bv bv' := by
  refine (write_any h hB i b).mono ?_
  rintro e w' ⟨rfl, bv', h1, h2⟩
  have ha : writeM D i b = (D, 9) := by
    unfold writeM
    rw [reach_dead hd, if_pos (by simp)]
  rw [ha] at h1 ⊢
  exact ⟨rfl, bv', h1, h2⟩
theorem arm_gone {w : World} {B p pb : Nat} {bv : Value} {D : Dk} (h : Dsk w B p pb bv D) (hd : D.dead = true) :
    Calls Tryd.prog 13 #[.pointer (some ⟨p, 0, none⟩), .int .i64 1] w fun e w' => e = .returned (.int .i64 9) ∧ Dsk w' B p pb bv D ∧ Goes w w' p pb bv bv := by
  refine (arm_any h 1 (by omega)).mono ?_
  rintro e w' ⟨rfl, h1, h2⟩
  have ha : armM D 1 = (D, 9) := by unfold armM; rw [if_pos hd]
  rw [ha] at h1 ⊢
  exact ⟨rfl, h1, h2⟩
theorem fail_gone {w : World} {B p pb : Nat} {bv : Value} {D : Dk} (h : Dsk w B p pb bv D) (hd : D.dead = true) :
    Calls Tryd.prog 14 #[.pointer (some ⟨p, 0, none⟩), .int .i64 1] w fun e w' => e = .returned (.int .i64 9) ∧ Dsk w' B p pb bv D ∧ Goes w w' p pb bv bv := by
  refine (fail_any h 1 (by omega)).mono ?_
  rintro e w' ⟨rfl, h1, h2⟩
  have ha : flawedM D 1 = (D, 9) := by unfold flawedM; rw [if_pos hd]
  rw [ha] at h1 ⊢
  exact ⟨rfl, h1, h2⟩
end Go.Proofs.YtaikgngigaohmaaDoor
