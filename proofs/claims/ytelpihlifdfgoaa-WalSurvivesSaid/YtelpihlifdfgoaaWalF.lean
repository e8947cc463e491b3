/-
  Rows that are written to a disk: the words, and Wal.write's rounds. Nothing here is a statement of the document.
-/
import Derived.Test.YtelpihlifdfgoaaDskL
import Derived.StillTailTactics
import Derived.Test.YtelpihlifdfgoaaDskG
import Derived.WalkMore
namespace Go.Proofs.Ytelpihlifdfgoaa
open Go.RowKit Go.Shelf
set_option linter.unusedVariables false

/-! ### Write -/
set_option maxRecDepth 100000 in
set_option maxHeartbeats 1000000 in
theorem write1_any {W : World} {B p pb q i : Nat} {bv : Value} {D : Dk} {b : Bk} (hD : Dsk W B p pb bv D) (hi : i < D.plate.length) (hB : B ≤ W.heap.size) (b0 : Blk W q 27 #[.pointer (some ⟨p, 0, none⟩)]) (b1 : Blk W (q + 1) 3 #[.int .i64 (i : Int)]) (b2 : Blk W (q + 2) 81 b.cs) :
    Calls Try.prog 76 #[.pointer (some ⟨q, 0, none⟩), .pointer (some ⟨q + 1, 0, none⟩), .pointer (some ⟨q + 2, 0, none⟩)] W fun e w' => e = .returned (.tuple #[]) ∧ ∃ bv', Dsk w' B p pb bv' (holdM D ⟨i, b⟩) ∧ Goes W w' p pb bv bv' ∧ True := by
  have c0 := b0.cell 0
  have c1 := b1.cell 0
  have hh := hold_any hD ⟨i, b⟩ hi hB
  have h00 : ∀ j, j < b.cs.size → b.cs[0 + j]? = b.cs[j]? := fun j _ => by rw [Nat.zero_add]
  have H0 := Lib.hid h00
  clear h00 hD b0 b1
  go_enter Try.func76, Try.ntmps76
  go_wp2_with (first | (with_reducible refine wpList_load_blk rfl 81 (.tmp 2) rfl (q + 2) 0 rfl b.cs b.cs _ b2 H0.out _ Try.underlying81 rfl (s_blk b) ?_) | (with_reducible refine wpList_build_row rfl (.tmp 4) (.tmp 5) rfl ⟨i, b⟩ rfl rfl ?_))
  refine hh.mono ?_
  rintro e w' ⟨rfl, bv', h1, h2⟩
  clear hh
  go_wp2
  go_end0
  exact ⟨rfl, bv', h1, h2, trivial⟩

def writeM (D : Dk) (i : Int) (b : Bk) : Dk × Int :=
  if reachE D i ≠ 0 then (D, reachE D i) else if D.fuse = some 0 then (deadM D, 9) else if D.flaw = some 0 then (failM D, 8) else (countM (holdM (fuseM (flawM D)) ⟨i.toNat, b⟩), 0)

set_option maxRecDepth 100000 in
set_option maxHeartbeats 1000000 in
theorem write_far (p : Option Addr) (i err : Int) (b : Bk) (w : World) (he : err ≠ 0) (hr : ∀ W, Below w.heap.size w W → Calls Try.prog 69 #[.pointer p, .int .i64 i] W fun e w' => e = .returned (.int .i64 err) ∧ W = w') :
    Calls Try.prog 58 #[.pointer p, .int .i64 i, .agg b.cs] w fun e w' => e = .returned (.int .i64 err) ∧ Below w.heap.size w w' := by
  generalize b.cs = bc
  obtain ⟨W1, hW1⟩ : ∃ W1, ((w.alloc (.cells #[.pointer p] 27)).alloc (.cells #[.int .i64 i] 3)).alloc (.cells bc 81) = W1 := ⟨_, rfl⟩
  have hb : Below w.heap.size w W1 := by rw [← hW1]; exact (((Below.refl _ _).alloc (Nat.le_refl _) _).alloc (by simp) _).alloc (by simp; omega) _
  have b0 : Blk W1 w.heap.size 27 #[.pointer p] := by rw [← hW1]; exact ((Blk.new w _ _).alloc _).alloc _
  have b1 : Blk W1 (w.heap.size + 1) 3 #[.int .i64 i] := by
    rw [← hW1]
    have := (Blk.new (w.alloc (.cells #[.pointer p] 27)) 3 #[.int .i64 i]).alloc (.cells bc 81)
    rwa [World.size_alloc] at this
  have c0 := b0.cell 0
  have c1 := b1.cell 0
  have hcall := hr W1 hb
  have heb : (err != 0) = true := by simpa using he
  have heb2 : (err == 0) = false := by simpa using he
  clear hr b0 b1
  go_enter Try.func58, Try.ntmps58
  go_wp2_with fail
  clear hW1
  refine hcall.mono ?_
  rintro e w' ⟨rfl, rfl⟩
  go_wp2
  go_ret
  exact ⟨rfl, hb⟩

set_option maxRecDepth 100000 in
set_option maxHeartbeats 1000000 in
theorem write_changes {w : World} {B p pb : Nat} {bv : Value} {D : Dk} (h : Dsk w B p pb bv D) (i : Nat) (hi : i < D.plate.length) (hdead : D.dead = false) (b : Bk) (v : Value) (R : World → Prop)
    (hch : ∀ W q, Dsk W B p pb bv D → Goes w W p pb bv bv → w.heap.size ≤ q → Blk W q 27 #[.pointer (some ⟨p, 0, none⟩)] → Blk W (q + 1) 3 #[.int .i64 (i : Int)] → Blk W (q + 2) 81 b.cs →
      Calls Try.prog 75 #[.pointer (some ⟨p, 0, none⟩), .func (.func 76) #[] #[.pointer (some ⟨q, 0, none⟩), .pointer (some ⟨q + 1, 0, none⟩), .pointer (some ⟨q + 2, 0, none⟩)]] W fun e w' => e = .returned v ∧ R w') :
    Calls Try.prog 58 #[.pointer (some ⟨p, 0, none⟩), .int .i64 (i : Int), .agg b.cs] w fun e w' => e = .returned v ∧ R w' := by
  have hmf : ∀ (fn : Fn) (first cap : Array Value) (w : World), (Instr.makeFunc fn first cap).run Try.prog w = .ok (.func fn first cap) w := fun _ _ _ _ => rfl
  generalize b.cs = bc at *
  obtain ⟨W1, hW1⟩ : ∃ W1, ((w.alloc (.cells #[.pointer (some ⟨p, 0, none⟩)] 27)).alloc (.cells #[.int .i64 (i : Int)] 3)).alloc (.cells bc 81) = W1 := ⟨_, rfl⟩
  have hb : Below w.heap.size w W1 := by rw [← hW1]; exact (((Below.refl _ _).alloc (Nat.le_refl _) _).alloc (by simp) _).alloc (by simp; omega) _
  have b0 : Blk W1 w.heap.size 27 #[.pointer (some ⟨p, 0, none⟩)] := by rw [← hW1]; exact ((Blk.new w _ _).alloc _).alloc _
  have b1 : Blk W1 (w.heap.size + 1) 3 #[.int .i64 (i : Int)] := by
    rw [← hW1]
    have := (Blk.new (w.alloc (.cells #[.pointer (some ⟨p, 0, none⟩)] 27)) 3 #[.int .i64 (i : Int)]).alloc (.cells bc 81)
    rwa [World.size_alloc] at this
  have b2 : Blk W1 (w.heap.size + 2) 81 bc := by
    rw [← hW1]
    have := Blk.new ((w.alloc (.cells #[.pointer (some ⟨p, 0, none⟩)] 27)).alloc (.cells #[.int .i64 (i : Int)] 3)) 81 bc
    rwa [World.size_alloc, World.size_alloc] at this
  have hD1 := h.later hb
  have hreach := reach_any hD1 (i : Int)
  have hre : reachE D (i : Int) = 0 := by unfold reachE; rw [hdead, if_neg (by simp), if_pos (by omega)]
  rw [hre] at hreach
  have hcall := hch W1 w.heap.size hD1 ⟨Kept.of_below _ hb, fun k hk => .inl hk⟩ (Nat.le_refl _) b0 b1 b2
  have c0 := b0.cell 0
  have c1 := b1.cell 0
  clear hch b0 b1 b2 hb hD1 hre hdead h
  go_enter Try.func58, Try.ntmps58
  go_wp2_with fail
  clear hW1
  refine hreach.mono ?_
  rintro e w' ⟨rfl, rfl⟩
  go_wp2_with fail
  refine hcall.mono ?_
  rintro e w' ⟨rfl, hR⟩
  go_wp2
  go_ret
  exact ⟨rfl, hR⟩

theorem reach_zero {D : Dk} {i : Int} (hr : reachE D i = 0) : D.dead = false ∧ 0 ≤ i ∧ i < D.plate.length := by
  have hdead : D.dead = false := by
    unfold reachE at hr
    cases hd : D.dead
    · rfl
    · rw [hd] at hr; simp at hr
  refine ⟨hdead, ?_⟩
  unfold reachE at hr
  rw [hdead, if_neg (by simp)] at hr
  split at hr
  · assumption
  · omega

/-- Write. -/
theorem write_any {w : World} {B p pb : Nat} {bv : Value} {D : Dk} (h : Dsk w B p pb bv D) (hB : B ≤ w.heap.size) (i : Int) (b : Bk) :
    Calls Try.prog 58 #[.pointer (some ⟨p, 0, none⟩), .int .i64 i, .agg b.cs] w fun e w' => e = .returned (.int .i64 (writeM D i b).2) ∧ ∃ bv', Dsk w' B p pb bv' (writeM D i b).1 ∧ Goes w w' p pb bv bv' := by
  unfold writeM
  by_cases hr : reachE D i = 0
  · rw [if_neg (by simpa using hr)]
    obtain ⟨hdead, h0, hl⟩ := reach_zero hr
    obtain ⟨n, rfl⟩ := Int.eq_ofNat_of_zero_le h0
    have hn : n < D.plate.length := by omega
    clear hr
    by_cases hf : D.fuse = some 0
    · rw [if_pos hf]
      exact write_changes h n hn hdead b (.int .i64 9) (fun w' => ∃ bv', Dsk w' B p pb bv' (deadM D) ∧ Goes w w' p pb bv bv') (fun W q hD hG hq b0 b1 b2 => (change_dead hD hf _ _ _).mono fun e w' ⟨he, h1, h2⟩ => ⟨he, bv, h1, hG.trans h2⟩)
    · rw [if_neg hf]
      by_cases hfl : D.flaw = some 0
      · rw [if_pos hfl]
        exact write_changes h n hn hdead b (.int .i64 8) (fun w' => ∃ bv', Dsk w' B p pb bv' (failM D) ∧ Goes w w' p pb bv bv') (fun W q hD hG hq b0 b1 b2 => (change_fail hD hf hfl _ _ _).mono fun e w' ⟨he, h1, h2⟩ => ⟨he, bv, h1, hG.trans h2⟩)
      · rw [if_neg hfl]
        refine write_changes h n hn hdead b (.int .i64 0) (fun w' => ∃ bv', Dsk w' B p pb bv' (countM (holdM (fuseM (flawM D)) ⟨n, b⟩)) ∧ Goes w w' p pb bv bv') (fun W q hD hG hq b0 b1 b2 => ?_)
        refine (change_ok (D2 := holdM (fuseM (flawM D)) ⟨n, b⟩) hD hf hfl 76 _ (enters_of Try.func76 (by kernel_rfl) rfl) (fun _ _ => True) (fun _ _ _ _ => trivial) (fun W1 hD1 hG1 => ?_)).mono ?_
        · have hsz := hG.kept.size
          have hsz1 := hG1.kept.size
          exact write1_any hD1 hn (by omega) (b0.kept hG1.kept (hD.sep b0 (by decide) (by decide) (by decide))) (b1.kept hG1.kept (hD.sep b1 (by decide) (by decide) (by decide))) (b2.kept hG1.kept (h.beside (by omega)))
        · rintro e w' ⟨rfl, bv', h1, h2, _⟩
          exact ⟨rfl, bv', h1, hG.trans h2⟩
  · rw [if_pos hr]
    refine (write_far (some ⟨p, 0, none⟩) i (reachE D i) b w hr (fun W hb => reach_any (h.later hb) i)).mono ?_
    rintro e w' ⟨rfl, hb⟩
    exact ⟨rfl, bv, h.later hb, Kept.of_below _ hb, fun k hk => .inl hk⟩
theorem write_nil (i : Int) (b : Bk) (w : World) : Calls Try.prog 58 #[.pointer none, .int .i64 i, .agg b.cs] w fun e w' => e = .returned (.int .i64 1) ∧ Below w.heap.size w w' :=
  write_far none i 1 b w (by decide) (fun W _ => reach_nil i W)

/-! ### Sync -/
def syncM (D : Dk) : Dk × Int :=
  if D.dead = true then (D, 9) else if D.fuse = some 0 then (deadM D, 9) else if D.flaw = some 0 then (failM D, 8) else (countM (drainM (fuseM (flawM D)) D.rows.length), 0)

set_option maxRecDepth 100000 in
set_option maxHeartbeats 1000000 in
theorem sync1_any {W : World} {B p pb q : Nat} {bv : Value} {D : Dk} (hD : Dsk W B p pb bv D) (b0 : Blk W q 27 #[.pointer (some ⟨p, 0, none⟩)]) :
    Calls Try.prog 78 #[.pointer (some ⟨q, 0, none⟩)] W fun e w' => e = .returned (.tuple #[]) ∧ ∃ bv', Dsk w' B p pb bv' (drainM D D.rows.length) ∧ Goes W w' p pb bv bv' ∧ True := by
  have hmf : ∀ (fn : Fn) (first cap : Array Value) (w : World), (Instr.makeFunc fn first cap).run Try.prog w = .ok (.func fn first cap) w := fun _ _ _ _ => rfl
  have c0 := b0.cell 0
  have c1 := hD.c1
  obtain ⟨a0, cap0, hbv⟩ : ∃ a c, bv = .slice a D.rows.length c := by
    rcases hD.buf.2 with ⟨h9, h0⟩ | ⟨g, cap, cur, h9, _⟩
    · exact ⟨none, 0, by rw [h0]; exact h9⟩
    · exact ⟨_, _, h9⟩
  have hcall := drain_any hD.drew D.rows.length (Nat.le_refl _)
  rw [hbv] at c1
  have HB := Lib.hid hbv
  clear hD hbv b0
  go_enter Try.func78, Try.ntmps78
  go_wp2_with fail
  go_still_tail 8, (by kernel_rfl)
  change wpList _ _ _ _ _ W.drew
  go_wp2_with fail
  refine hcall.mono ?_
  rintro e w' ⟨rfl, bv', h1, h2⟩
  clear hcall
  go_wp2
  go_end0
  exact ⟨rfl, bv', h1, ⟨h2.kept.of_drew, h2.new⟩, trivial⟩

set_option maxRecDepth 100000 in
set_option maxHeartbeats 1000000 in
theorem sync_nil (w : World) : Calls Try.prog 59 #[.pointer none] w fun e w' => e = .returned (.int .i64 1) ∧ Below w.heap.size w w' := by
  have c0 := (Blk.new w 27 #[.pointer none]).cell 0
  go_enter Try.func59, Try.ntmps59
  go_wp2_with fail
  refine (power_nil _).mono ?_
  rintro e w' ⟨rfl, rfl⟩
  go_wp2
  go_ret
  exact ⟨rfl, (Below.refl _ _).alloc (Nat.le_refl _) _⟩

set_option maxRecDepth 100000 in
set_option maxHeartbeats 1000000 in
theorem sync_dead {w : World} {B p pb : Nat} {bv : Value} {D : Dk} (h : Dsk w B p pb bv D) (hd : D.dead = true) :
    Calls Try.prog 59 #[.pointer (some ⟨p, 0, none⟩)] w fun e w' => e = .returned (.int .i64 9) ∧ Below w.heap.size w w' := by
  obtain ⟨W1, hW1⟩ : ∃ W1, w.alloc (.cells #[.pointer (some ⟨p, 0, none⟩)] 27) = W1 := ⟨_, rfl⟩
  have hb : Below w.heap.size w W1 := by rw [← hW1]; exact (Below.refl _ _).alloc (Nat.le_refl _) _
  have b0 : Blk W1 w.heap.size 27 #[.pointer (some ⟨p, 0, none⟩)] := by rw [← hW1]; exact Blk.new w _ _
  have c0 := b0.cell 0
  have hp := power_any (h.later hb)
  rw [if_pos hd] at hp
  clear b0 h hd
  go_enter Try.func59, Try.ntmps59
  go_wp2_with fail
  clear hW1
  refine hp.mono ?_
  rintro e w' ⟨rfl, rfl⟩
  go_wp2
  go_ret
  exact ⟨rfl, hb⟩

set_option maxRecDepth 100000 in
set_option maxHeartbeats 1000000 in
theorem sync_changes {w : World} {B p pb : Nat} {bv : Value} {D : Dk} (h : Dsk w B p pb bv D) (hd : ¬ D.dead = true) (v : Value) (R : World → Prop)
    (hch : ∀ W q, Dsk W B p pb bv D → Goes w W p pb bv bv → Blk W q 27 #[.pointer (some ⟨p, 0, none⟩)] →
      Calls Try.prog 75 #[.pointer (some ⟨p, 0, none⟩), .func (.func 78) #[] #[.pointer (some ⟨q, 0, none⟩)]] W fun e w' => e = .returned v ∧ R w') :
    Calls Try.prog 59 #[.pointer (some ⟨p, 0, none⟩)] w fun e w' => e = .returned v ∧ R w' := by
  have hmf : ∀ (fn : Fn) (first cap : Array Value) (w : World), (Instr.makeFunc fn first cap).run Try.prog w = .ok (.func fn first cap) w := fun _ _ _ _ => rfl
  obtain ⟨W1, hW1⟩ : ∃ W1, w.alloc (.cells #[.pointer (some ⟨p, 0, none⟩)] 27) = W1 := ⟨_, rfl⟩
  have hb : Below w.heap.size w W1 := by rw [← hW1]; exact (Below.refl _ _).alloc (Nat.le_refl _) _
  have b0 : Blk W1 w.heap.size 27 #[.pointer (some ⟨p, 0, none⟩)] := by rw [← hW1]; exact Blk.new w _ _
  have c0 := b0.cell 0
  have hp := power_any (h.later hb)
  rw [if_neg hd] at hp
  have hcall := hch W1 w.heap.size (h.later hb) ⟨Kept.of_below _ hb, fun k hk => .inl hk⟩ b0
  clear b0 h hch hd hb
  go_enter Try.func59, Try.ntmps59
  go_wp2_with fail
  clear hW1
  refine hp.mono ?_
  rintro e w' ⟨rfl, rfl⟩
  go_wp2_with fail
  refine hcall.mono ?_
  rintro e w' ⟨rfl, hR⟩
  go_wp2
  go_ret
  exact ⟨rfl, hR⟩

/-- Sync. -/
theorem sync_any {w : World} {B p pb : Nat} {bv : Value} {D : Dk} (h : Dsk w B p pb bv D) :
    Calls Try.prog 59 #[.pointer (some ⟨p, 0, none⟩)] w fun e w' => e = .returned (.int .i64 (syncM D).2) ∧ ∃ bv', Dsk w' B p pb bv' (syncM D).1 ∧ Goes w w' p pb bv bv' := by
  unfold syncM
  by_cases hd : D.dead = true
  · rw [if_pos hd]
    exact (sync_dead h hd).mono fun e w' ⟨he, hb⟩ => ⟨he, bv, h.later hb, Kept.of_below _ hb, fun k hk => .inl hk⟩
  · rw [if_neg hd]
    by_cases hf : D.fuse = some 0
    · rw [if_pos hf]
      exact sync_changes h hd (.int .i64 9) (fun w' => ∃ bv', Dsk w' B p pb bv' (deadM D) ∧ Goes w w' p pb bv bv') (fun W q hD hG b0 => (change_dead hD hf _ _ _).mono fun e w' ⟨he, h1, h2⟩ => ⟨he, bv, h1, hG.trans h2⟩)
    · rw [if_neg hf]
      by_cases hfl : D.flaw = some 0
      · rw [if_pos hfl]
        exact sync_changes h hd (.int .i64 8) (fun w' => ∃ bv', Dsk w' B p pb bv' (failM D) ∧ Goes w w' p pb bv bv') (fun W q hD hG b0 => (change_fail hD hf hfl _ _ _).mono fun e w' ⟨he, h1, h2⟩ => ⟨he, bv, h1, hG.trans h2⟩)
      · rw [if_neg hfl]
        refine sync_changes h hd (.int .i64 0) (fun w' => ∃ bv', Dsk w' B p pb bv' (countM (drainM (fuseM (flawM D)) D.rows.length)) ∧ Goes w w' p pb bv bv') (fun W q hD hG b0 => ?_)
        refine (change_ok (D2 := drainM (fuseM (flawM D)) D.rows.length) hD hf hfl 78 _ (enters_of Try.func78 (by kernel_rfl) rfl) (fun _ _ => True) (fun _ _ _ _ => trivial) (fun W1 hD1 hG1 => ?_)).mono ?_
        · exact sync1_any hD1 (b0.kept hG1.kept (hD.sep b0 (by decide) (by decide) (by decide)))
        · rintro e w' ⟨rfl, bv', h1, h2, _⟩
          exact ⟨rfl, bv', h1, hG.trans h2⟩
end Go.Proofs.Ytelpihlifdfgoaa
namespace Go.Proofs.Ytelpihlifdfgoaa
open Go.RowKit Go.Shelf
set_option linter.unusedVariables false

/-- A row that is to be written: the function that tells it, and what it tells. -/
structure RowW where
  gf : FuncId
  lb : Array Value
  N : Nat
  it : Nat → Nat × Bk
def RowW.enc (x : RowW) (k : Nat) : Value × Value := (.int .i64 ((x.it k).1 : Int), .agg (x.it k).2.cs)
def RowW.val (x : RowW) : Value := .func (.func x.gf) #[] x.lb
def RowW.items (x : RowW) : List (Nat × Bk) := (List.range x.N).map x.it
/-- A row tells what it is said to, as long as nothing turns these blocks. -/
structure Told (C : List Nat) (x : RowW) (w : World) : Prop where
  eg : ∀ args w, (callFunc x.gf args).run Try.prog w = .ok (.enter x.gf args) w
  lt : ∀ c ∈ C, c < w.heap.size
  tells : ∀ S W, KB S w W → (∀ c ∈ C, c ∉ S) → (∀ k ∈ S, k < W.heap.size) → Tells x.gf x.lb S x.N x.enc W

/-- Sectors written one behind the other; the first error. -/
def putsM (D : Dk) : List (Nat × Bk) → Dk × Int
  | [] => (D, 0)
  | x :: l => if (writeM D (x.1 : Int) x.2).2 = 0 then putsM (writeM D (x.1 : Int) x.2).1 l else writeM D (x.1 : Int) x.2
/-- So a row, and a sync behind it. -/
def layM (D : Dk) (l : List (Nat × Bk)) : Dk × Int := if (putsM D l).2 = 0 then syncM (putsM D l).1 else putsM D l
/-- So rows. -/
def laysM (D : Dk) : List (List (Nat × Bk)) → Dk × Int
  | [] => (D, 0)
  | l :: r => if (layM D l).2 = 0 then laysM (layM D l).1 r else layM D l

theorem putsM_snoc (D : Dk) (l : List (Nat × Bk)) (x : Nat × Bk) : putsM D (l ++ [x]) = if (putsM D l).2 = 0 then writeM (putsM D l).1 (x.1 : Int) x.2 else putsM D l := by
  induction l generalizing D with
  | nil =>
    simp only [List.nil_append, putsM, if_true]
    split
    · rename_i h; rw [← h]
    · rfl
  | cons y l ih =>
    by_cases h : (writeM D (y.1 : Int) y.2).2 = 0
    · have e : putsM D (y :: l) = putsM (writeM D (y.1 : Int) y.2).1 l := if_pos h
      rw [e, ← ih]
      exact if_pos h
    · have e : putsM D (y :: l) = writeM D (y.1 : Int) y.2 := if_neg h
      rw [e, if_neg h]
      exact if_neg h
theorem laysM_snoc (D : Dk) (r : List (List (Nat × Bk))) (l : List (Nat × Bk)) : laysM D (r ++ [l]) = if (laysM D r).2 = 0 then layM (laysM D r).1 l else laysM D r := by
  induction r generalizing D with
  | nil =>
    simp only [List.nil_append, laysM, if_true]
    split
    · rename_i h; rw [← h]
    · rfl
  | cons y r ih =>
    by_cases h : (layM D y).2 = 0
    · have e : laysM D (y :: r) = laysM (layM D y).1 r := if_pos h
      rw [e, ← ih]
      exact if_pos h
    · have e : laysM D (y :: r) = layM D y := if_neg h
      rw [e, if_neg h]
      exact if_neg h
theorem putsM_stop (D : Dk) (l m : List (Nat × Bk)) (h : (putsM D l).2 ≠ 0) : putsM D (l ++ m) = putsM D l := by
  induction l generalizing D with
  | nil => exact absurd rfl h
  | cons y l ih =>
    by_cases h9 : (writeM D (y.1 : Int) y.2).2 = 0
    · have e : putsM D (y :: l) = putsM (writeM D (y.1 : Int) y.2).1 l := if_pos h9
      rw [e] at h ⊢
      rw [← ih _ h]
      exact if_pos h9
    · have e : putsM D (y :: l) = writeM D (y.1 : Int) y.2 := if_neg h9
      rw [e]
      exact if_neg h9
theorem laysM_stop (D : Dk) (l m : List (List (Nat × Bk))) (h : (laysM D l).2 ≠ 0) : laysM D (l ++ m) = laysM D l := by
  induction l generalizing D with
  | nil => exact absurd rfl h
  | cons y l ih =>
    by_cases h9 : (layM D y).2 = 0
    · have e : laysM D (y :: l) = laysM (layM D y).1 l := if_pos h9
      rw [e] at h ⊢
      rw [← ih _ h]
      exact if_pos h9
    · have e : laysM D (y :: l) = layM D y := if_neg h9
      rw [e]
      exact if_neg h9

theorem KB.goes {w w' : World} {B p pb : Nat} {bv bv' : Value} {D : Dk} (h : Dsk w B p pb bv D) (g : Goes w w' p pb bv bv') {S : List Nat} (hp : p ∈ S) (hpb : pb ∈ S) : KB S w w' :=
  ⟨g.kept.size, fun k o hk ho hn => by
    refine (g.kept.block k (Array.getElem?_eq_some_iff.1 ho).1 (fun hm => ?_)).trans ho
    simp only [fp, List.mem_cons, Option.mem_toList] at hm
    rcases hm with rfl | rfl | hm
    · exact hk hp
    · exact hk hpb
    · rcases h.buf.2 with ⟨rfl, _⟩ | ⟨b, cap, cur, rfl, _, hb, _⟩
      · simp [Value.ownBlock] at hm
      · obtain rfl : b = k := by simpa [Value.ownBlock] using hm
        rw [hb] at ho
        cases ho
        simp [notRow] at hn⟩

/-- Marks of ranges, one for each. -/
def marks (ds : List Nat) : List Deferred := ds.map fun d => { target := .collected d, args := #[] }
/-- A function that has gone over ranges returns: their marks are taken. -/
theorem marks_all {fn : Func} {R : Ending → World → Prop} {tmps : Array Value} {v : Value} (hr : ∀ w, (results fn tmps).run Try.prog w = .ok v w) :
    ∀ (ds : List Nat) (w : World), ds.Nodup → (∀ d ∈ ds, w.heap[d]? = some (.deferred (some []))) → (∀ w', w'.heap.size = w.heap.size → w'.os = w.os → w'.tape = w.tape → w'.output = w.output → (∀ k, k ∉ ds → w'.heap[k]? = w.heap[k]?) → R (.returned v) w') →
      LeavesInM Fence.wide 10 Try.prog fn tmps R (marks ds) .returning w := by
  intro ds
  induction ds with
  | nil => exact fun w _ _ h => ⟨_, hr w, h w rfl rfl rfl rfl (fun _ _ => rfl)⟩
  | cons d ds ih =>
    intro w hn hd h
    refine ⟨by simp, .inl ⟨d, _, rfl, run_takeDeferred (hd d (by simp)), ?_⟩⟩
    refine ih _ (List.nodup_cons.1 hn).2 (fun d' hd' => ?_) (fun w' h1 h2 h3 h4 h5 => h w' (h1.trans (by simp [World.putObj])) h2 h3 h4 (fun k hk => ?_))
    · exact (World.putObj_heap_other (fun e => (List.nodup_cons.1 hn).1 (by rw [← e]; exact hd'))).trans (hd d' (by simp [hd']))
    · simp only [List.mem_cons, not_or] at hk
      exact (h5 k hk.2).trans (World.putObj_heap_other hk.1)
end Go.Proofs.Ytelpihlifdfgoaa
