/-
  The contracts of disk's act and change, each over whatever closure. Nothing here is a statement of the document.
-/
import Derived.Test.YtkfpkolgikpcpaaDskB
import Derived.Shelf.Abstract
namespace Go.Proofs.Ytkfpkolgikpcpaa
open Go.RowKit Go.Shelf
set_option linter.unusedVariables false

def passO (o : Option Nat) : Option Nat := o.map (· - 1)
theorem ok_turn {D D' : Dk} (h : D.Ok) (h1 : D'.plate = D.plate) (h2 : D'.rows = D.rows) (h3 : ∀ n, D'.fuse = some n → n ≤ 9223372036854775807) (h4 : ∀ n, D'.flaw = some n → n ≤ 9223372036854775807) : D'.Ok :=
  ⟨by rw [h1]; exact h.pos, by rw [h1]; exact h.max, by rw [h2]; exact h.held, by rw [h1, h2]; exact h.at_, by rw [h2]; exact h.once, h3, h4⟩
theorem passO_le {o : Option Nat} (h : ∀ n, o = some n → n ≤ 9223372036854775807) : ∀ n, passO o = some n → n ≤ 9223372036854775807 := by
  intro n hn
  cases o with
  | none => simp [passO] at hn
  | some m =>
    have := h m rfl
    simp [passO] at hn
    omega

/-- What becomes of a disk whose flaw strikes, or goes by. -/
def failM (D : Dk) : Dk := { D with flaw := none }
def flawM (D : Dk) : Dk := { D with flaw := passO D.flaw }
def countM (D : Dk) : Dk := { D with ops := wrap64 (D.ops + 1) }

set_option maxHeartbeats 1000000 in
theorem act_fail {w : World} {B p pb : Nat} {bv : Value} {D : Dk} (h : Dsk w B p pb bv D) (hf : D.flaw = some 0) (f : Value) :
    Calls Try.prog 82 #[.pointer (some ⟨p, 0, none⟩), f] w fun e w' => e = .returned (.int .i64 8) ∧ Dsk w' B p pb bv (failM D) ∧ Goes w w' p pb bv bv := by
  have c4 := h.c4
  have c5 := h.c5
  have hcm := comes_any D.flaw w
  have hd : decide (D.flaw = some 0) = true := by simp [hf]
  rw [hd] at hcm
  have hA := h.alloc (.cells #[.bool (cdB D.flaw), .int .i64 (cdI D.flaw)] 98)
  have hG := (Goes.refl w p pb bv).alloc (.cells #[.bool (cdB D.flaw), .int .i64 (cdI D.flaw)] 98)
  have e0 : cdI D.flaw = 0 := by rw [hf]; rfl
  have ok : (failM D).Ok := ok_turn h.ok rfl rfl h.ok.fuse (by intro n hn; cases hn)
  obtain ⟨WA, hWA⟩ : ∃ WA, w.alloc (.cells #[.bool (cdB D.flaw), .int .i64 (cdI D.flaw)] 98) = WA := ⟨_, rfl⟩
  rw [hWA] at hcm hA hG
  have h1 : Dsk (WA.setCell ⟨p, 4, none⟩ (.bool false)) B p pb bv (failM D) := hA.turn 4 (.bool false) (failM D) (by
    simp [dcs, failM, hf, cdB, cdI]) rfl rfl ok
  have h2 := h1.turn 5 (.int .i64 0) (failM D) (by simp [dcs, failM, cdB, cdI]) rfl rfl ok
  have d4 := hA.c4
  have d5 := hA.c5
  have f4 := hA.cells.free 4
  have f5 := hA.cells.free 5
  have hG2 := (hG.setCell 4 (.bool false)).setCell 5 (.int .i64 0)
  clear hd hf hA h1 e0 hWA h
  go_enter Try.func82, Try.ntmps82
  go_wp2_with fail
  refine hcm.mono ?_
  rintro e w' ⟨rfl, rfl⟩
  go_wp2
  go_ret
  exact ⟨rfl, h2, hG2⟩

set_option maxHeartbeats 1000000 in
theorem act_ok' {w : World} {B p pb : Nat} {bv : Value} {D D2 : Dk} (h : Dsk w B p pb bv D) (hf : D.flaw ≠ some 0) (c : Nat) (caps : Array Value) (eg : ∀ args w, (callFunc c args).run Try.prog w = .ok (.enter c args) w) (Y : World → World → Value → Prop)
    (hcl : ∀ W1, Dsk W1 B p pb bv (flawM D) → Goes w W1 p pb bv bv → Calls Try.prog c caps W1 fun e w' => e = .returned (.tuple #[]) ∧ ∃ bv', Dsk w' B p pb bv' D2 ∧ Y W1 w' bv') :
    Calls Try.prog 82 #[.pointer (some ⟨p, 0, none⟩), .func (.func c) #[] caps] w fun e w' => e = .returned (.int .i64 0) ∧ ∃ bv' WB w3, Goes w WB p pb bv bv ∧ Dsk w3 B p pb bv' D2 ∧ Y WB w3 bv' ∧ w' = w3.setCell ⟨p, 7, none⟩ (.int .i64 (wrap64 (D2.ops + 1))) ∧ Dsk w' B p pb bv' (countM D2) := by
  have c4 := h.c4
  have c5 := h.c5
  have hcm := comes_any D.flaw w
  have hd : decide (D.flaw = some 0) = false := by simpa using hf
  rw [hd] at hcm
  have hA := h.alloc (.cells #[.bool (cdB D.flaw), .int .i64 (cdI D.flaw)] 98)
  have hG := (Goes.refl w p pb bv).alloc (.cells #[.bool (cdB D.flaw), .int .i64 (cdI D.flaw)] 98)
  have ok : (flawM D).Ok := ok_turn h.ok rfl rfl h.ok.fuse (passO_le h.ok.flaw)
  obtain ⟨WA, hWA⟩ : ∃ WA, w.alloc (.cells #[.bool (cdB D.flaw), .int .i64 (cdI D.flaw)] 98) = WA := ⟨_, rfl⟩
  rw [hWA] at hcm hA hG
  have hpass : ∃ WB, Calls Try.prog 89 #[.pointer (some ⟨p, 4, none⟩)] WA (fun e w' => e = .returned (.tuple #[]) ∧ WB = w') ∧ Dsk WB B p pb bv (flawM D) ∧ Goes w WB p pb bv bv := by
    cases hfl : D.flaw with
    | none =>
      have e : flawM D = D := by unfold flawM; rw [hfl]; simp [passO]; rw [← hfl]
      exact ⟨WA, pass_none (by have := hA.c4; rw [hfl] at this; exact this), by rw [e]; exact hA, hG⟩
    | some m =>
      obtain ⟨n, rfl⟩ : ∃ n, m = n + 1 := ⟨m - 1, by have : m ≠ 0 := fun e => hf (by rw [hfl, e]); omega⟩
      have hmax := h.ok.flaw _ hfl
      refine ⟨WA.setCell ⟨p, 5, none⟩ (.int .i64 (n : Int)), pass_some (i := 4) (n := n) (by have := hA.c4; rw [hfl] at this; exact this) (by have := hA.c5; rw [hfl] at this; exact this) (hA.cells.free 5) (by omega), ?_, hG.setCell 5 _⟩
      exact hA.turn 5 _ (flawM D) (by simp [dcs, flawM, passO, hfl, cdB, cdI]) rfl rfl ok
  obtain ⟨WB, hps, hB, hGB⟩ := hpass
  have hcall := hcl WB hB hGB
  clear hd hf hA hB h hcl hWA hG ok
  go_enter Try.func82, Try.ntmps82
  go_wp2_with fail
  refine hcm.mono ?_
  rintro e w' ⟨rfl, rfl⟩
  go_wp2_with fail
  refine hps.mono ?_
  rintro e w' ⟨rfl, rfl⟩
  go_wp2_with fail
  refine hcall.mono ?_
  rintro e W3 ⟨rfl, bv', hD3, hY3⟩
  have c7 := hD3.c7
  have f7 := hD3.cells.free 7
  have hfin := hD3.turn 7 (.int .i64 (wrap64 (D2.ops + 1))) (countM D2) (by simp [dcs, countM]) rfl rfl (ok_turn hD3.ok rfl rfl hD3.ok.fuse hD3.ok.flaw)
  have HD3 := Lib.hid hD3
  have HF := Lib.hid hfin
  clear hD3 hcm hps hcall hfin
  go_wp2
  go_ret
  exact ⟨rfl, bv', WB, W3, hGB, HD3.out, hY3, rfl, HF.out⟩
theorem act_ok {w : World} {B p pb : Nat} {bv : Value} {D D2 : Dk} (h : Dsk w B p pb bv D) (hf : D.flaw ≠ some 0) (c : Nat) (caps : Array Value) (eg : ∀ args w, (callFunc c args).run Try.prog w = .ok (.enter c args) w) (X : Value → World → Prop) (hX : ∀ b w' v, X b w' → X b (w'.setCell ⟨p, 7, none⟩ v))
    (hcl : ∀ W1, Dsk W1 B p pb bv (flawM D) → Goes w W1 p pb bv bv → Calls Try.prog c caps W1 fun e w' => e = .returned (.tuple #[]) ∧ ∃ bv', Dsk w' B p pb bv' D2 ∧ Goes W1 w' p pb bv bv' ∧ X bv' w') :
    Calls Try.prog 82 #[.pointer (some ⟨p, 0, none⟩), .func (.func c) #[] caps] w fun e w' => e = .returned (.int .i64 0) ∧ ∃ bv', Dsk w' B p pb bv' (countM D2) ∧ Goes w w' p pb bv bv' ∧ X bv' w' :=
  (act_ok' h hf c caps eg (fun W1 w' bv' => Goes W1 w' p pb bv bv' ∧ X bv' w') (fun W1 h1 h2 => (hcl W1 h1 h2).mono fun e w' ⟨he, bv', h3, h4, h5⟩ => ⟨he, bv', h3, h4, h5⟩)).mono
    fun e w' ⟨he, bv', WB, w3, hG, hD3, ⟨hG3, hX3⟩, hw, hD⟩ => ⟨he, bv', hD, by rw [hw]; exact (hG.trans hG3).setCell 7 _, by rw [hw]; exact hX _ _ _ hX3⟩

/-! ### change -/
def deadM (D : Dk) : Dk := { D with dead := true }
def fuseM (D : Dk) : Dk := { D with fuse := passO D.fuse }

set_option maxHeartbeats 1000000 in
theorem change_dead {w : World} {B p pb : Nat} {bv : Value} {D : Dk} (h : Dsk w B p pb bv D) (hf : D.fuse = some 0) (f : Fn) (xs ys : Array Value) :
    Calls Try.prog 72 #[.pointer (some ⟨p, 0, none⟩), .func f xs ys] w fun e w' => e = .returned (.int .i64 9) ∧ Dsk w' B p pb bv (deadM D) ∧ Goes w w' p pb bv bv := by
  obtain ⟨W1, hW1⟩ : ∃ W1, (w.alloc (.cells #[.pointer (some ⟨p, 0, none⟩)] 37)).alloc (.cells #[.func f xs ys] 1) = W1 := ⟨_, rfl⟩
  have hA : Dsk W1 B p pb bv D := by rw [← hW1]; exact (h.alloc _).alloc _
  have hG : Goes w W1 p pb bv bv := by rw [← hW1]; exact ((Goes.refl w p pb bv).alloc _).alloc _
  have b1 : Blk W1 w.heap.size 37 #[.pointer (some ⟨p, 0, none⟩)] := by rw [← hW1]; exact (Blk.new w _ _).alloc _
  have hcm := comes_any D.fuse W1
  have hd : decide (D.fuse = some 0) = true := by simp [hf]
  rw [hd] at hcm
  obtain ⟨WA, hWA⟩ : ∃ WA, W1.alloc (.cells #[.bool (cdB D.fuse), .int .i64 (cdI D.fuse)] 98) = WA := ⟨_, rfl⟩
  have hA2 : Dsk WA B p pb bv D := by rw [← hWA]; exact hA.alloc _
  have hG2 : Goes w WA p pb bv bv := by rw [← hWA]; exact hG.alloc _
  have b2 : Blk WA w.heap.size 37 #[.pointer (some ⟨p, 0, none⟩)] := by rw [← hWA]; exact b1.alloc _
  rw [hWA] at hcm
  have c0 := b1.cell 0
  have c2 := hA.c2
  have c3 := hA.c3
  have c0' := b2.cell 0
  have d6 := hA2.c6
  have f6 := hA2.cells.free 6
  have hfin := hA2.turn 6 (.bool true) (deadM D) (by simp [dcs, deadM]) rfl rfl (ok_turn h.ok rfl rfl h.ok.fuse h.ok.flaw)
  have hgo := hG2.setCell 6 (.bool true)
  clear hd hf hA hA2 hG hG2 b1 b2 hWA h
  go_enter Try.func72, Try.ntmps72
  go_wp2_with fail
  clear hW1
  refine hcm.mono ?_
  rintro e w' ⟨rfl, rfl⟩
  go_wp2
  go_ret
  exact ⟨rfl, hfin, hgo⟩

/-- change comes to act, with its own closure. -/
theorem change_acts {w : World} {B p pb : Nat} {bv : Value} {D : Dk} (h : Dsk w B p pb bv D) (hf : D.fuse ≠ some 0) (f : Fn) (xs ys : Array Value) (v : Value) (R : World → Prop)
    (hact : ∀ W q, Dsk W B p pb bv D → Goes w W p pb bv bv → w.heap.size ≤ q → Blk W q 37 #[.pointer (some ⟨p, 0, none⟩)] → Blk W (q + 1) 1 #[.func f xs ys] →
      Calls Try.prog 82 #[.pointer (some ⟨p, 0, none⟩), .func (.func 88) #[] #[.pointer (some ⟨q, 0, none⟩), .pointer (some ⟨q + 1, 0, none⟩)]] W fun e w' => e = .returned v ∧ R w')
    : Calls Try.prog 72 #[.pointer (some ⟨p, 0, none⟩), .func f xs ys] w fun e w' => e = .returned v ∧ R w' := by
  have hmf : ∀ (fn : Fn) (first cap : Array Value) (w : World), (Instr.makeFunc fn first cap).run Try.prog w = .ok (.func fn first cap) w := fun _ _ _ _ => rfl
  obtain ⟨W1, hW1⟩ : ∃ W1, (w.alloc (.cells #[.pointer (some ⟨p, 0, none⟩)] 37)).alloc (.cells #[.func f xs ys] 1) = W1 := ⟨_, rfl⟩
  have hA : Dsk W1 B p pb bv D := by rw [← hW1]; exact (h.alloc _).alloc _
  have hG : Goes w W1 p pb bv bv := by rw [← hW1]; exact ((Goes.refl w p pb bv).alloc _).alloc _
  have b1 : Blk W1 w.heap.size 37 #[.pointer (some ⟨p, 0, none⟩)] := by rw [← hW1]; exact (Blk.new w _ _).alloc _
  have b2 : Blk W1 (w.heap.size + 1) 1 #[.func f xs ys] := by
    rw [← hW1]
    have := Blk.new (w.alloc (.cells #[.pointer (some ⟨p, 0, none⟩)] 37)) 1 #[.func f xs ys]
    rwa [World.size_alloc] at this
  have hcm := comes_any D.fuse W1
  have hd : decide (D.fuse = some 0) = false := by simpa using hf
  rw [hd] at hcm
  obtain ⟨WA, hWA⟩ : ∃ WA, W1.alloc (.cells #[.bool (cdB D.fuse), .int .i64 (cdI D.fuse)] 98) = WA := ⟨_, rfl⟩
  have hA2 : Dsk WA B p pb bv D := by rw [← hWA]; exact hA.alloc _
  have hG2 : Goes w WA p pb bv bv := by rw [← hWA]; exact hG.alloc _
  have b1' : Blk WA w.heap.size 37 #[.pointer (some ⟨p, 0, none⟩)] := by rw [← hWA]; exact b1.alloc _
  have b2' : Blk WA (w.heap.size + 1) 1 #[.func f xs ys] := by rw [← hWA]; exact b2.alloc _
  rw [hWA] at hcm
  have c0 := b1.cell 0
  have c2 := hA.c2
  have c3 := hA.c3
  have c0' := b1'.cell 0
  have hcall := hact WA w.heap.size hA2 hG2 (Nat.le_refl _) b1' b2'
  clear hd hf hA hA2 hG hG2 b1 b2 b1' b2' hWA h hact
  go_enter Try.func72, Try.ntmps72
  go_wp2_with fail
  clear hW1
  refine hcm.mono ?_
  rintro e w' ⟨rfl, rfl⟩
  go_wp2_with fail
  refine hcall.mono ?_
  rintro e w' ⟨rfl, hR⟩
  go_wp2
  go_ret
  exact ⟨rfl, hR⟩

set_option maxHeartbeats 1000000 in
/-- change's own closure: the fuse goes by, and then what was handed in is done. -/
theorem change1_any {W : World} {B p pb q : Nat} {bv : Value} {D D2 : Dk} (hD : Dsk W B p pb bv D) (hf : D.fuse ≠ some 0) (b1 : Blk W q 37 #[.pointer (some ⟨p, 0, none⟩)]) (c : Nat) (caps : Array Value) (b2 : Blk W (q + 1) 1 #[.func (.func c) #[] caps]) (eg : ∀ args w, (callFunc c args).run Try.prog w = .ok (.enter c args) w)
    (X : Value → World → Prop)
    (hcl : ∀ W1, Dsk W1 B p pb bv (fuseM D) → Goes W W1 p pb bv bv → Calls Try.prog c caps W1 fun e w' => e = .returned (.tuple #[]) ∧ ∃ bv', Dsk w' B p pb bv' D2 ∧ Goes W1 w' p pb bv bv' ∧ X bv' w') :
    Calls Try.prog 88 #[.pointer (some ⟨q, 0, none⟩), .pointer (some ⟨q + 1, 0, none⟩)] W fun e w' => e = .returned (.tuple #[]) ∧ ∃ bv', Dsk w' B p pb bv' D2 ∧ Goes W w' p pb bv bv' ∧ X bv' w' := by
  have hne : ∀ {i : Nat} (v : Value), Blk (W.setCell ⟨p, i, none⟩ v) (q + 1) 1 #[.func (.func c) #[] caps] := fun v => b2.far (by exact b2.ne hD.cells (by decide)) v
  have ok : (fuseM D).Ok := ok_turn hD.ok rfl rfl (passO_le hD.ok.fuse) hD.ok.flaw
  have hpass : ∃ WB, Calls Try.prog 89 #[.pointer (some ⟨p, 2, none⟩)] W (fun e w' => e = .returned (.tuple #[]) ∧ WB = w') ∧ Dsk WB B p pb bv (fuseM D) ∧ Goes W WB p pb bv bv ∧ Blk WB (q + 1) 1 #[.func (.func c) #[] caps] := by
    cases hfl : D.fuse with
    | none =>
      have e : fuseM D = D := by unfold fuseM; rw [hfl]; simp [passO]; rw [← hfl]
      exact ⟨W, pass_none (by have := hD.c2; rw [hfl] at this; exact this), by rw [e]; exact hD, Goes.refl _ _ _ _, b2⟩
    | some m =>
      obtain ⟨n, rfl⟩ : ∃ n, m = n + 1 := ⟨m - 1, by have : m ≠ 0 := fun e => hf (by rw [hfl, e]); omega⟩
      have hmax := hD.ok.fuse _ hfl
      refine ⟨W.setCell ⟨p, 3, none⟩ (.int .i64 (n : Int)), pass_some (i := 2) (n := n) (by have := hD.c2; rw [hfl] at this; exact this) (by have := hD.c3; rw [hfl] at this; exact this) (hD.cells.free 3) (by omega), ?_, (Goes.refl _ _ _ _).setCell 3 _, hne _⟩
      exact hD.turn 3 _ (fuseM D) (by simp [dcs, fuseM, passO, hfl, cdB, cdI]) rfl rfl ok
  obtain ⟨WB, hps, hB, hGB, hb2⟩ := hpass
  have hcall := hcl WB hB hGB
  have c0 := b1.cell 0
  have c1 := hb2.cell 0
  clear hf hD hB b1 b2 hcl hne hb2 ok
  go_enter Try.func88, Try.ntmps88
  go_wp2_with fail
  refine hps.mono ?_
  rintro e w' ⟨rfl, rfl⟩
  go_wp2_with fail
  refine hcall.mono ?_
  rintro e W3 ⟨rfl, bv', hD3, hG3, hX3⟩
  clear hps hcall
  go_wp2
  go_end0
  exact ⟨rfl, bv', hD3, hGB.trans hG3, hX3⟩
end Go.Proofs.Ytkfpkolgikpcpaa
