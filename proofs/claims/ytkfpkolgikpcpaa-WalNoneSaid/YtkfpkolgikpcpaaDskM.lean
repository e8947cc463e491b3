/-
  The contracts of disk's Write and Sync. Nothing here is a statement of the document.
-/
import Derived.Test.YtkfpkolgikpcpaaDskH
import Derived.Test.YtkfpkolgikpcpaaDskL
import Derived.StillTailTactics
namespace Go.Proofs.Ytkfpkolgikpcpaa
open Go.RowKit Go.Shelf
set_option linter.unusedVariables false

/-! ### Write -/
set_option maxRecDepth 100000 in
set_option maxHeartbeats 1000000 in
theorem write1_any {W : World} {B p pb q i : Nat} {bv : Value} {D : Dk} {b : Bk} (hD : Dsk W B p pb bv D) (hi : i < D.plate.length) (hB : B ≤ W.heap.size) (b0 : Blk W q 37 #[.pointer (some ⟨p, 0, none⟩)]) (b1 : Blk W (q + 1) 3 #[.int .i64 (i : Int)]) (b2 : Blk W (q + 2) 77 b.cs) :
    Calls Try.prog 73 #[.pointer (some ⟨q, 0, none⟩), .pointer (some ⟨q + 1, 0, none⟩), .pointer (some ⟨q + 2, 0, none⟩)] W fun e w' => e = .returned (.tuple #[]) ∧ ∃ bv', Dsk w' B p pb bv' (holdM D ⟨i, b⟩) ∧ Goes W w' p pb bv bv' ∧ True := by
  have c0 := b0.cell 0
  have c1 := b1.cell 0
  have hh := hold_any hD ⟨i, b⟩ hi hB
  have h00 : ∀ j, j < b.cs.size → b.cs[0 + j]? = b.cs[j]? := fun j _ => by rw [Nat.zero_add]
  have H0 := Lib.hid h00
  clear h00 hD b0 b1
  go_enter Try.func73, Try.ntmps73
  go_wp2_with (first | (with_reducible refine wpList_load_blk rfl 77 (.tmp 2) rfl (q + 2) 0 rfl b.cs b.cs _ b2 H0.out _ Try.underlying77 rfl (s_blk b) ?_) | (with_reducible refine wpList_build_row rfl (.tmp 4) (.tmp 5) rfl ⟨i, b⟩ rfl rfl ?_))
  refine hh.mono ?_
  rintro e w' ⟨rfl, bv', h1, h2⟩
  clear hh
  go_wp2
  go_end0
  exact ⟨rfl, bv', h1, h2, trivial⟩

def writeM (D : Dk) (i : Int) (b : Bk) : Dk × Int :=
  if reachE D i ≠ 0 then (D, reachE D i) else if D.fuse = some 0 then (deadM D, 9) else if D.flaw = some 0 then (failM D, 8) else (countM (holdM (fuseM (flawM D)) ⟨i.toNat, b⟩), 0)

set_option maxRecDepth 100000 in
set_option maxHeartbeats 1000000 in
theorem write_far (p : Option Addr) (i err : Int) (b : Bk) (w : World) (he : err ≠ 0) (hr : ∀ W, Below w.heap.size w W → Calls Try.prog 71 #[.pointer p, .int .i64 i] W fun e w' => e = .returned (.int .i64 err) ∧ W = w') :
    Calls Try.prog 56 #[.pointer p, .int .i64 i, .agg b.cs] w fun e w' => e = .returned (.int .i64 err) ∧ Below w.heap.size w w' := by
  generalize b.cs = bc
  obtain ⟨W1, hW1⟩ : ∃ W1, ((w.alloc (.cells #[.pointer p] 37)).alloc (.cells #[.int .i64 i] 3)).alloc (.cells bc 77) = W1 := ⟨_, rfl⟩
  have hb : Below w.heap.size w W1 := by rw [← hW1]; exact (((Below.refl _ _).alloc (Nat.le_refl _) _).alloc (by simp) _).alloc (by simp; omega) _
  have b0 : Blk W1 w.heap.size 37 #[.pointer p] := by rw [← hW1]; exact ((Blk.new w _ _).alloc _).alloc _
  have b1 : Blk W1 (w.heap.size + 1) 3 #[.int .i64 i] := by
    rw [← hW1]
    have := (Blk.new (w.alloc (.cells #[.pointer p] 37)) 3 #[.int .i64 i]).alloc (.cells bc 77)
    rwa [World.size_alloc] at this
  have c0 := b0.cell 0
  have c1 := b1.cell 0
  have hcall := hr W1 hb
  have heb : (err != 0) = true := by simpa using he
  have heb2 : (err == 0) = false := by simpa using he
  clear hr b0 b1
  go_enter Try.func56, Try.ntmps56
  go_wp2_with fail
  clear hW1
  refine hcall.mono ?_
  rintro e w' ⟨rfl, rfl⟩
  go_wp2
  go_ret
  exact ⟨rfl, hb⟩

set_option maxRecDepth 100000 in
set_option maxHeartbeats 1000000 in
theorem write_changes {w : World} {B p pb : Nat} {bv : Value} {D : Dk} (h : Dsk w B p pb bv D) (i : Nat) (hi : i < D.plate.length) (hdead : D.dead = false) (b : Bk) (v : Value) (R : World → Prop)
    (hch : ∀ W q, Dsk W B p pb bv D → Goes w W p pb bv bv → w.heap.size ≤ q → Blk W q 37 #[.pointer (some ⟨p, 0, none⟩)] → Blk W (q + 1) 3 #[.int .i64 (i : Int)] → Blk W (q + 2) 77 b.cs →
      Calls Try.prog 72 #[.pointer (some ⟨p, 0, none⟩), .func (.func 73) #[] #[.pointer (some ⟨q, 0, none⟩), .pointer (some ⟨q + 1, 0, none⟩), .pointer (some ⟨q + 2, 0, none⟩)]] W fun e w' => e = .returned v ∧ R w') :
    Calls Try.prog 56 #[.pointer (some ⟨p, 0, none⟩), .int .i64 (i : Int), .agg b.cs] w fun e w' => e = .returned v ∧ R w' := by
  have hmf : ∀ (fn : Fn) (first cap : Array Value) (w : World), (Instr.makeFunc fn first cap).run Try.prog w = .ok (.func fn first cap) w := fun _ _ _ _ => rfl
  generalize b.cs = bc at *
  obtain ⟨W1, hW1⟩ : ∃ W1, ((w.alloc (.cells #[.pointer (some ⟨p, 0, none⟩)] 37)).alloc (.cells #[.int .i64 (i : Int)] 3)).alloc (.cells bc 77) = W1 := ⟨_, rfl⟩
  have hb : Below w.heap.size w W1 := by rw [← hW1]; exact (((Below.refl _ _).alloc (Nat.le_refl _) _).alloc (by simp) _).alloc (by simp; omega) _
  have b0 : Blk W1 w.heap.size 37 #[.pointer (some ⟨p, 0, none⟩)] := by rw [← hW1]; exact ((Blk.new w _ _).alloc _).alloc _
  have b1 : Blk W1 (w.heap.size + 1) 3 #[.int .i64 (i : Int)] := by
    rw [← hW1]
    have := (Blk.new (w.alloc (.cells #[.pointer (some ⟨p, 0, none⟩)] 37)) 3 #[.int .i64 (i : Int)]).alloc (.cells bc 77)
    rwa [World.size_alloc] at this
  have b2 : Blk W1 (w.heap.size + 2) 77 bc := by
    rw [← hW1]
    have := Blk.new ((w.alloc (.cells #[.pointer (some ⟨p, 0, none⟩)] 37)).alloc (.cells #[.int .i64 (i : Int)] 3)) 77 bc
    rwa [World.size_alloc, World.size_alloc] at this
  have hD1 := h.later hb
  have hreach := reach_any hD1 (i : Int)
  have hre : reachE D (i : Int) = 0 := by unfold reachE; rw [hdead, if_neg (by simp), if_pos (by omega)]
  rw [hre] at hreach
  have hcall := hch W1 w.heap.size hD1 ⟨Kept.of_below _ hb, fun k hk => .inl hk⟩ (Nat.le_refl _) b0 b1 b2
  have c0 := b0.cell 0
  have c1 := b1.cell 0
  clear hch b0 b1 b2 hb hD1 hre hdead h
  go_enter Try.func56, Try.ntmps56
  go_wp2_with fail
  clear hW1
  refine hreach.mono ?_
  rintro e w' ⟨rfl, rfl⟩
  go_wp2_with fail
  refine hcall.mono ?_
  rintro e w' ⟨rfl, hR⟩
  go_wp2
  go_ret
  exact ⟨rfl, hR⟩

theorem reach_zero {D : Dk} {i : Int} (hr : reachE D i = 0) : D.dead = false ∧ 0 ≤ i ∧ i < D.plate.length := by
  have hdead : D.dead = false := by
    unfold reachE at hr
    cases hd : D.dead
    · rfl
    · rw [hd] at hr; simp at hr
  refine ⟨hdead, ?_⟩
  unfold reachE at hr
  rw [hdead, if_neg (by simp)] at hr
  split at hr
  · assumption
  · omega

/-- Write. -/
theorem write_any {w : World} {B p pb : Nat} {bv : Value} {D : Dk} (h : Dsk w B p pb bv D) (hB : B ≤ w.heap.size) (i : Int) (b : Bk) :
    Calls Try.prog 56 #[.pointer (some ⟨p, 0, none⟩), .int .i64 i, .agg b.cs] w fun e w' => e = .returned (.int .i64 (writeM D i b).2) ∧ ∃ bv', Dsk w' B p pb bv' (writeM D i b).1 ∧ Goes w w' p pb bv bv' := by
  unfold writeM
  by_cases hr : reachE D i = 0
  · rw [if_neg (by simpa using hr)]
    obtain ⟨hdead, h0, hl⟩ := reach_zero hr
    obtain ⟨n, rfl⟩ := Int.eq_ofNat_of_zero_le h0
    have hn : n < D.plate.length := by omega
    clear hr
    by_cases hf : D.fuse = some 0
    · rw [if_pos hf]
      exact write_changes h n hn hdead b (.int .i64 9) (fun w' => ∃ bv', Dsk w' B p pb bv' (deadM D) ∧ Goes w w' p pb bv bv') (fun W q hD hG hq b0 b1 b2 => (change_dead hD hf _ _ _).mono fun e w' ⟨he, h1, h2⟩ => ⟨he, bv, h1, hG.trans h2⟩)
    · rw [if_neg hf]
      by_cases hfl : D.flaw = some 0
      · rw [if_pos hfl]
        exact write_changes h n hn hdead b (.int .i64 8) (fun w' => ∃ bv', Dsk w' B p pb bv' (failM D) ∧ Goes w w' p pb bv bv') (fun W q hD hG hq b0 b1 b2 => (change_fail hD hf hfl _ _ _).mono fun e w' ⟨he, h1, h2⟩ => ⟨he, bv, h1, hG.trans h2⟩)
      · rw [if_neg hfl]
        refine write_changes h n hn hdead b (.int .i64 0) (fun w' => ∃ bv', Dsk w' B p pb bv' (countM (holdM (fuseM (flawM D)) ⟨n, b⟩)) ∧ Goes w w' p pb bv bv') (fun W q hD hG hq b0 b1 b2 => ?_)
        refine (change_ok (D2 := holdM (fuseM (flawM D)) ⟨n, b⟩) hD hf hfl 73 _ (enters_of Try.func73 (by kernel_rfl) rfl) (fun _ _ => True) (fun _ _ _ _ => trivial) (fun W1 hD1 hG1 => ?_)).mono ?_
        · have hsz := hG.kept.size
          have hsz1 := hG1.kept.size
          exact write1_any hD1 hn (by omega) (b0.kept hG1.kept (hD.sep b0 (by decide) (by decide) (by decide))) (b1.kept hG1.kept (hD.sep b1 (by decide) (by decide) (by decide))) (b2.kept hG1.kept (h.beside (by omega)))
        · rintro e w' ⟨rfl, bv', h1, h2, _⟩
          exact ⟨rfl, bv', h1, hG.trans h2⟩
  · rw [if_pos hr]
    refine (write_far (some ⟨p, 0, none⟩) i (reachE D i) b w hr (fun W hb => reach_any (h.later hb) i)).mono ?_
    rintro e w' ⟨rfl, hb⟩
    exact ⟨rfl, bv, h.later hb, Kept.of_below _ hb, fun k hk => .inl hk⟩
theorem write_nil (i : Int) (b : Bk) (w : World) : Calls Try.prog 56 #[.pointer none, .int .i64 i, .agg b.cs] w fun e w' => e = .returned (.int .i64 1) ∧ Below w.heap.size w w' :=
  write_far none i 1 b w (by decide) (fun W _ => reach_nil i W)

/-! ### Sync -/
def syncM (D : Dk) : Dk × Int :=
  if D.dead = true then (D, 9) else if D.fuse = some 0 then (deadM D, 9) else if D.flaw = some 0 then (failM D, 8) else (countM (drainM (fuseM (flawM D)) D.rows.length), 0)

set_option maxRecDepth 100000 in
set_option maxHeartbeats 1000000 in
theorem sync1_any {W : World} {B p pb q : Nat} {bv : Value} {D : Dk} (hD : Dsk W B p pb bv D) (b0 : Blk W q 37 #[.pointer (some ⟨p, 0, none⟩)]) :
    Calls Try.prog 75 #[.pointer (some ⟨q, 0, none⟩)] W fun e w' => e = .returned (.tuple #[]) ∧ ∃ bv', Dsk w' B p pb bv' (drainM D D.rows.length) ∧ Goes W w' p pb bv bv' ∧ True := by
  have hmf : ∀ (fn : Fn) (first cap : Array Value) (w : World), (Instr.makeFunc fn first cap).run Try.prog w = .ok (.func fn first cap) w := fun _ _ _ _ => rfl
  have c0 := b0.cell 0
  have c1 := hD.c1
  obtain ⟨a0, cap0, hbv⟩ : ∃ a c, bv = .slice a D.rows.length c := by
    rcases hD.buf.2 with ⟨h9, h0⟩ | ⟨g, cap, cur, h9, _⟩
    · exact ⟨none, 0, by rw [h0]; exact h9⟩
    · exact ⟨_, _, h9⟩
  have hcall := drain_any hD.drew D.rows.length (Nat.le_refl _)
  rw [hbv] at c1
  have HB := Lib.hid hbv
  clear hD hbv b0
  go_enter Try.func75, Try.ntmps75
  go_wp2_with fail
  go_still_tail 8, (by kernel_rfl)
  change wpList _ _ _ _ _ W.drew
  go_wp2_with fail
  refine hcall.mono ?_
  rintro e w' ⟨rfl, bv', h1, h2⟩
  clear hcall
  go_wp2
  go_end0
  exact ⟨rfl, bv', h1, ⟨h2.kept.of_drew, h2.new⟩, trivial⟩

set_option maxRecDepth 100000 in
set_option maxHeartbeats 1000000 in
theorem sync_nil (w : World) : Calls Try.prog 57 #[.pointer none] w fun e w' => e = .returned (.int .i64 1) ∧ Below w.heap.size w w' := by
  have c0 := (Blk.new w 37 #[.pointer none]).cell 0
  go_enter Try.func57, Try.ntmps57
  go_wp2_with fail
  refine (power_nil _).mono ?_
  rintro e w' ⟨rfl, rfl⟩
  go_wp2
  go_ret
  exact ⟨rfl, (Below.refl _ _).alloc (Nat.le_refl _) _⟩

set_option maxRecDepth 100000 in
set_option maxHeartbeats 1000000 in
theorem sync_dead {w : World} {B p pb : Nat} {bv : Value} {D : Dk} (h : Dsk w B p pb bv D) (hd : D.dead = true) :
    Calls Try.prog 57 #[.pointer (some ⟨p, 0, none⟩)] w fun e w' => e = .returned (.int .i64 9) ∧ Below w.heap.size w w' := by
  obtain ⟨W1, hW1⟩ : ∃ W1, w.alloc (.cells #[.pointer (some ⟨p, 0, none⟩)] 37) = W1 := ⟨_, rfl⟩
  have hb : Below w.heap.size w W1 := by rw [← hW1]; exact (Below.refl _ _).alloc (Nat.le_refl _) _
  have b0 : Blk W1 w.heap.size 37 #[.pointer (some ⟨p, 0, none⟩)] := by rw [← hW1]; exact Blk.new w _ _
  have c0 := b0.cell 0
  have hp := power_any (h.later hb)
  rw [if_pos hd] at hp
  clear b0 h hd
  go_enter Try.func57, Try.ntmps57
  go_wp2_with fail
  clear hW1
  refine hp.mono ?_
  rintro e w' ⟨rfl, rfl⟩
  go_wp2
  go_ret
  exact ⟨rfl, hb⟩

set_option maxRecDepth 100000 in
set_option maxHeartbeats 1000000 in
theorem sync_changes {w : World} {B p pb : Nat} {bv : Value} {D : Dk} (h : Dsk w B p pb bv D) (hd : ¬ D.dead = true) (v : Value) (R : World → Prop)
    (hch : ∀ W q, Dsk W B p pb bv D → Goes w W p pb bv bv → Blk W q 37 #[.pointer (some ⟨p, 0, none⟩)] →
      Calls Try.prog 72 #[.pointer (some ⟨p, 0, none⟩), .func (.func 75) #[] #[.pointer (some ⟨q, 0, none⟩)]] W fun e w' => e = .returned v ∧ R w') :
    Calls Try.prog 57 #[.pointer (some ⟨p, 0, none⟩)] w fun e w' => e = .returned v ∧ R w' := by
  have hmf : ∀ (fn : Fn) (first cap : Array Value) (w : World), (Instr.makeFunc fn first cap).run Try.prog w = .ok (.func fn first cap) w := fun _ _ _ _ => rfl
  obtain ⟨W1, hW1⟩ : ∃ W1, w.alloc (.cells #[.pointer (some ⟨p, 0, none⟩)] 37) = W1 := ⟨_, rfl⟩
  have hb : Below w.heap.size w W1 := by rw [← hW1]; exact (Below.refl _ _).alloc (Nat.le_refl _) _
  have b0 : Blk W1 w.heap.size 37 #[.pointer (some ⟨p, 0, none⟩)] := by rw [← hW1]; exact Blk.new w _ _
  have c0 := b0.cell 0
  have hp := power_any (h.later hb)
  rw [if_neg hd] at hp
  have hcall := hch W1 w.heap.size (h.later hb) ⟨Kept.of_below _ hb, fun k hk => .inl hk⟩ b0
  clear b0 h hch hd hb
  go_enter Try.func57, Try.ntmps57
  go_wp2_with fail
  clear hW1
  refine hp.mono ?_
  rintro e w' ⟨rfl, rfl⟩
  go_wp2_with fail
  refine hcall.mono ?_
  rintro e w' ⟨rfl, hR⟩
  go_wp2
  go_ret
  exact ⟨rfl, hR⟩

/-- Sync. -/
theorem sync_any {w : World} {B p pb : Nat} {bv : Value} {D : Dk} (h : Dsk w B p pb bv D) :
    Calls Try.prog 57 #[.pointer (some ⟨p, 0, none⟩)] w fun e w' => e = .returned (.int .i64 (syncM D).2) ∧ ∃ bv', Dsk w' B p pb bv' (syncM D).1 ∧ Goes w w' p pb bv bv' := by
  unfold syncM
  by_cases hd : D.dead = true
  · rw [if_pos hd]
    exact (sync_dead h hd).mono fun e w' ⟨he, hb⟩ => ⟨he, bv, h.later hb, Kept.of_below _ hb, fun k hk => .inl hk⟩
  · rw [if_neg hd]
    by_cases hf : D.fuse = some 0
    · rw [if_pos hf]
      exact sync_changes h hd (.int .i64 9) (fun w' => ∃ bv', Dsk w' B p pb bv' (deadM D) ∧ Goes w w' p pb bv bv') (fun W q hD hG b0 => (change_dead hD hf _ _ _).mono fun e w' ⟨he, h1, h2⟩ => ⟨he, bv, h1, hG.trans h2⟩)
    · rw [if_neg hf]
      by_cases hfl : D.flaw = some 0
      · rw [if_pos hfl]
        exact sync_changes h hd (.int .i64 8) (fun w' => ∃ bv', Dsk w' B p pb bv' (failM D) ∧ Goes w w' p pb bv bv') (fun W q hD hG b0 => (change_fail hD hf hfl _ _ _).mono fun e w' ⟨he, h1, h2⟩ => ⟨he, bv, h1, hG.trans h2⟩)
      · rw [if_neg hfl]
        refine sync_changes h hd (.int .i64 0) (fun w' => ∃ bv', Dsk w' B p pb bv' (countM (drainM (fuseM (flawM D)) D.rows.length)) ∧ Goes w w' p pb bv bv') (fun W q hD hG b0 => ?_)
        refine (change_ok (D2 := drainM (fuseM (flawM D)) D.rows.length) hD hf hfl 75 _ (enters_of Try.func75 (by kernel_rfl) rfl) (fun _ _ => True) (fun _ _ _ _ => trivial) (fun W1 hD1 hG1 => ?_)).mono ?_
        · exact sync1_any hD1 (b0.kept hG1.kept (hD.sep b0 (by decide) (by decide) (by decide)))
        · rintro e w' ⟨rfl, bv', h1, h2, _⟩
          exact ⟨rfl, bv', h1, hG.trans h2⟩
end Go.Proofs.Ytkfpkolgikpcpaa
