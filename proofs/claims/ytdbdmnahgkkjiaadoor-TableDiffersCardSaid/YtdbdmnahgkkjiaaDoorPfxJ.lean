/-
  The contracts of prefix's reader: read, Err, refuse, taken, version, bits, addr. Nothing here is a statement of the document.
-/
import Derived.Test.YtdbdmnahgkkjiaaDoorPfxI
import Derived.Laws.CopyOwn
import Derived.Laws.Rows
namespace Go.Proofs.YtdbdmnahgkkjiaaDoor
open Go.RowKit Go.Shelf
set_option linter.unusedVariables false
attribute [local go_sem ↓] load_b16_rule store_b16_rule load_ad_rule store_ad_rule load_px_rule store_px_rule eq_b16_rule eq_ad_rule eq_px_rule build_ad_rule build_px_rule

theorem Wid.kept {w w' : World} {S : List Nat} (h : Wid w) (k : Kept S w w') (h0 : 0 ∉ S) : Wid w' := fun j hj => by
  have h1 := h j hj
  have h2 := cell_lt h1
  have h3 := k.block 0 h2 h0
  rw [← h1]
  unfold World.cell?
  rw [h3]
/-- At block r a reader of prefix lies. -/
structure PR (w : World) (r p g : Nat) (L : List Nat) (j : Nat) (err : Int) (given : Nat) (fault : Int) (wrong : Bool) : Prop where
  rd : Rd w p g L j err
  blk : Blk w r 115 #[.pointer (some ⟨p, 0, none⟩), .int .i64 (given : Int), .int .i64 fault, .bool wrong]
  g0 : g ≠ r
theorem PR.rp {w : World} {r p g : Nat} {L : List Nat} {j : Nat} {err : Int} {given : Nat} {fault : Int} {wrong : Bool} (h : PR w r p g L j err given fault wrong) : r ≠ p := h.blk.ne (show Blk w p 122 _ from h.rd.cells) (by decide)
theorem PR.below {w w' : World} {r p g : Nat} {L : List Nat} {j : Nat} {err : Int} {given : Nat} {fault : Int} {wrong : Bool} (h : PR w r p g L j err given fault wrong) (k : Below w.heap.size w w') : PR w' r p g L j err given fault wrong := ⟨h.rd.below k, h.blk.later k, h.g0⟩
theorem PR.c {w : World} {r p g : Nat} {L : List Nat} {j : Nat} {err : Int} {given : Nat} {fault : Int} {wrong : Bool} (h : PR w r p g L j err given fault wrong) : w.cell? ⟨r, 0, none⟩ = some (.pointer (some ⟨p, 0, none⟩)) ∧ w.cell? ⟨r, 1, none⟩ = some (.int .i64 (given : Int)) ∧ w.cell? ⟨r, 2, none⟩ = some (.int .i64 fault) ∧ w.cell? ⟨r, 3, none⟩ = some (.bool wrong) ∧ w.frozen? ⟨r, 3, none⟩ = false :=
  ⟨h.blk.cell 0, h.blk.cell 1, h.blk.cell 2, h.blk.cell 3, h.blk.free 3⟩
theorem PR.aft {w w' : World} {r p g : Nat} {L : List Nat} {j : Nat} {err n : Int} {given : Nat} {fault : Int} {wrong : Bool} (h : PR w r p g L j err given fault wrong) (ha : Aft w w' p g L j err n) : PR w' r p g L (offTo L.length j err n).1 (offTo L.length j err n).2 given fault wrong ∧ Kept [r, p] w w' :=
  ⟨⟨ha.1, (ha.2.block r h.blk.lt (by intro e; cases e; exact h.rp rfl)).trans h.blk, h.g0⟩, (Kept.refl [r, p] w).grown ha.2 (fun k hk => .inl (by cases hk; simp))⟩
theorem PR.wrongs {w : World} {r p g : Nat} {L : List Nat} {j : Nat} {err : Int} {given : Nat} {fault : Int} {wrong : Bool} (h : PR w r p g L j err given fault wrong) : PR (w.setCell ⟨r, 3, none⟩ (.bool true)) r p g L j err given fault true ∧ Kept [r, p] w (w.setCell ⟨r, 3, none⟩ (.bool true)) :=
  ⟨⟨h.rd.kept (Below.heap_setCell _ _ _ _ (Ne.symm h.rp)) (Below.heap_setCell _ _ _ _ h.g0), h.blk.set 3 _, h.g0⟩, (Kept.refl _ _).setCell (.inl (by simp)) _⟩
theorem offTo_some {len j n : Nat} (h : j + n ≤ len) : offTo len j 0 (n : Int) = (j + n, 0) := by
  unfold offTo
  rw [if_neg (by simp), if_neg (by omega), if_neg (by omega)]
  simp
theorem came_some {L : List Nat} {j n : Nat} (h : j + n ≤ L.length) : came L j 0 (n : Int) = (L.drop j).take n := by
  unfold came
  rw [if_neg (by simp), if_neg (by omega), if_neg (by omega)]
  simp
/-- Is there nothing to come off? -/
def dry (len j : Nat) (err : Int) (n : Nat) : Prop := err ≠ 0 ∨ len < j + n
def dryE (err : Int) : Int := if err = 0 then 7 else err
theorem dryE_ne (err : Int) : dryE err ≠ 0 := by unfold dryE; split <;> omega
theorem offTo_none {len j n : Nat} {err : Int} (hj : j ≤ len) (h : dry len j err n) : offTo len j err (n : Int) = (j, dryE err) := by
  unfold offTo dryE
  by_cases he : err = 0
  · rcases h with h | h
    · exact absurd he h
    · rw [if_neg (by simpa using he), if_neg (by omega), if_pos (by omega), if_pos he]
  · rw [if_pos he, if_neg he]
theorem came_none {L : List Nat} {j n : Nat} {err : Int} (hj : j ≤ L.length) (h : dry L.length j err n) : came L j err (n : Int) = [] := by
  unfold came
  by_cases he : err = 0
  · rcases h with h | h
    · exact absurd he h
    · rw [if_neg (by simpa using he), if_neg (by omega), if_pos (by omega)]
  · rw [if_pos he]
theorem one_more {L : List Nat} {j : Nat} (h : j < L.length) : (L.drop j).take 1 = [L.getD j 0] := by
  have := take_more L j 0 (by omega)
  simpa using this

set_option maxRecDepth 100000 in
set_option maxHeartbeats 1600000 in
theorem preader_err {w : World} {r p g : Nat} {L : List Nat} {j : Nat} {err : Int} {given : Nat} {fault : Int} {wrong : Bool} (h : PR w r p g L j err given fault wrong) : Calls Tryd.prog 72 #[.pointer (some ⟨r, 0, none⟩)] w fun e w' => e = .returned (.int .i64 (if wrong then fault else err)) ∧ w = w' := by
  obtain ⟨c0, c1, c2, c3, _⟩ := h.c
  have he := err_any h.rd
  cases wrong
  all_goals
    go_enter Tryd.func72, Tryd.ntmps72
    go_wp2_with (go_at_call 83; refine he.mono ?_; rintro e w' ⟨rfl, rfl⟩)
    go_ret
    exact ⟨rfl, rfl⟩

set_option maxRecDepth 100000 in
set_option maxHeartbeats 1600000 in
theorem refuse_any {w : World} {r p g : Nat} {L : List Nat} {j : Nat} {err : Int} {given : Nat} {fault : Int} {wrong : Bool} (h : PR w r p g L j err given fault wrong) : Calls Tryd.prog 81 #[.pointer (some ⟨r, 0, none⟩)] w fun e w' => e = .returned (.tuple #[]) ∧ PR w' r p g L j err given fault (if err = 0 then true else wrong) ∧ Kept [r, p] w w' := by
  obtain ⟨c0, c1, c2, c3, f3⟩ := h.c
  have he := err_any h.rd
  by_cases h0 : err = 0
  · have hd : (err == 0) = true := by simpa using h0
    have HX := Lib.hid h.wrongs
    rw [if_pos h0]
    clear h h0
    go_enter Tryd.func81, Tryd.ntmps81
    go_wp2_with (go_at_call 83; refine he.mono ?_; rintro e w' ⟨rfl, rfl⟩)
    go_end0
    exact ⟨rfl, HX.out.1, HX.out.2⟩
  · have hd : (err == 0) = false := by simpa using h0
    rw [if_neg h0]
    have HX := Lib.hid h
    clear h h0
    go_enter Tryd.func81, Tryd.ntmps81
    go_wp2_with (go_at_call 83; refine he.mono ?_; rintro e w' ⟨rfl, rfl⟩)
    go_end0
    exact ⟨rfl, HX.out, Kept.refl _ _⟩

set_option maxRecDepth 100000 in
set_option maxHeartbeats 1600000 in
theorem taken_any {w : World} {r p g : Nat} {L : List Nat} {j : Nat} {err : Int} {given : Nat} {fault : Int} {wrong : Bool} (h : PR w r p g L j err given fault wrong) (hg : given ≤ 1000) (hl : L.length - j ≤ given) : Calls Tryd.prog 73 #[.pointer (some ⟨r, 0, none⟩)] w fun e w' => e = .returned (.int .i64 ((given - (L.length - j) : Nat) : Int)) ∧ Below w.heap.size w w' := by
  have C := fun w' (k : Below w.heap.size w w') => (h.below k).c
  have c0 := fun w' k => (C w' k).1
  have c1 := fun w' k => (C w' k).2.1
  have hlf := fun w' (k : Below w.heap.size w w') => left_any (h.below k).rd
  obtain ⟨n, hn⟩ : ∃ n, L.length - j = n := ⟨_, rfl⟩
  rw [hn] at hlf hl ⊢
  have hq : IntKind.i64.wrap ((given : Int) - (n : Int)) = ((given - n : Nat) : Int) := by rw [show ((given - n : Nat) : Int) = (given : Int) - (n : Int) from by omega]; exact IntWalk.i64_in _ (by omega)
  have h0 : Below w.heap.size w w := Below.refl _ _
  generalize given - n = d at *
  clear hn C h hl hg
  go_enter Tryd.func73, Tryd.ntmps73
  go_wp2_with fail
  refine wp_region_lin (fun w' => Below w.heap.size w w') (by kernel_rfl) (by kernel_rfl) (bel_drew (by assumption)) ?_; (repeat (first | (refine lin_fn (f := 84) (by rfl) rfl rfl (enters_of Tryd.func84 (by kernel_rfl) rfl) (fun w9 hS9 => (hlf w9 hS9).mono (fun e w' h => ⟨h.1, h.2 ▸ hS9⟩)) ?_ ?_; (focus (simp [Act.eval]; done)); (try simp only [Act.put, List.setIfInBounds_toArray, List.set_cons_zero, List.set_cons_succ])) | (refine lin_off (by rfl) ?_; (try simp only [Act.put, List.setIfInBounds_toArray, List.set_cons_zero, List.set_cons_succ])) | (refine lin_op (v := ?_) (by rfl) (fun w9 hS9 => ?_) ?_; rotate_left; (focus (((try dsimp only at hS9); go_simp; (try go_bits)) <;> with_reducible rfl)); (try simp only [Act.put, List.setIfInBounds_toArray, List.set_cons_zero, List.set_cons_succ])) ))
  refine lin_nil (fun w8 hS8 => ?_)
  go_wp2
  go_ret
  exact ⟨rfl, hS8⟩

theorem u8_came {L : List Nat} {j : Nat} (hB : Bys L) (h : j < L.length) : pile 0 (came L j 0 1) % 256 = L.getD j 0 := by
  rw [show (1 : Int) = ((1 : Nat) : Int) from rfl, came_some (n := 1) (by omega), one_more h]
  have := hB.at j
  simp only [pile, List.foldl_cons, List.foldl_nil]
  omega

set_option maxRecDepth 100000 in
set_option maxHeartbeats 1600000 in
theorem version_some {w : World} {r p g : Nat} {L : List Nat} {j : Nat} {given : Nat} {fault : Int} {wrong : Bool} (h : PR w r p g L j 0 given fault wrong) (hB : Bys L) (hlm : L.length ≤ 1000) (hj : j < L.length) (hW : Wid w) (h0 : r ≠ 0 ∧ p ≠ 0) : Calls Tryd.prog 69 #[.pointer (some ⟨r, 0, none⟩)] w fun e w' => e = .returned (.int .i64 ((L.getD j 0 : Nat) : Int)) ∧ PR w' r p g L (j + 1) 0 given fault (wrong || decide (wid ((L.getD j 0 : Nat) : Int) = 0)) ∧ Kept [r, p] w w' := by
  obtain ⟨c0, _⟩ := h.c
  have hu := u8_any h.rd hB (by omega)
  rw [u8_came hB hj] at hu
  have ho := offTo_some (len := L.length) (j := j) (n := 1) (by omega)
  have hx := hB.at j
  obtain ⟨x, hx0⟩ : ∃ x, L.getD j 0 = x := ⟨_, rfl⟩
  rw [hx0] at hu hx ⊢
  obtain ⟨b, hb⟩ : ∃ b, (((wid (x : Int) : Nat) : Int) == 0) = b := ⟨_, rfl⟩
  have hb2 : decide (wid (x : Int) = 0) = b := by rw [← hb, Bool.eq_iff_iff]; simp
  rw [hb2]
  have hchk := fun w' hW' => width_any (x : Int) w' hW'
  clear hb2 hx0
  cases b
  all_goals
    go_enter Tryd.func69, Tryd.ntmps69
    go_wp2_with fail
    refine hu.mono ?_
    rintro e w2 ⟨rfl, hA⟩
    have hP := h.aft hA
    rw [show (1 : Int) = ((1 : Nat) : Int) from rfl, ho] at hP
    have hr := refuse_any hP.1
    rw [if_pos rfl] at hr
    have hW2 : Wid w2 := hW.kept hP.2 (by simp; exact ⟨fun e => h0.1 e.symm, fun e => h0.2 e.symm⟩)
    have HP := Lib.hid hP
    clear hP hA hu ho c0
    go_wp2_with (first | (go_at_call 59; refine (hchk _ hW2).mono ?_; rintro e w3 ⟨rfl, rfl⟩))
  · go_ret
    exact ⟨rfl, by simpa using HP.out.1, HP.out.2⟩
  · refine hr.mono ?_
    rintro e w4 ⟨rfl, hP4, hk4⟩
    have HQ := Lib.hid (And.intro hP4 (HP.out.2.trans hk4))
    clear hP4 hk4
    go_wp2
    go_ret
    exact ⟨rfl, by simpa using HQ.out.1, HQ.out.2⟩

set_option maxRecDepth 100000 in
set_option maxHeartbeats 1600000 in
theorem version_none {w : World} {r p g : Nat} {L : List Nat} {j : Nat} {err : Int} {given : Nat} {fault : Int} {wrong : Bool} (h : PR w r p g L j err given fault wrong) (hB : Bys L) (hlm : L.length ≤ 1000) (hj : j ≤ L.length) (hd : dry L.length j err 1) (hW : Wid w) (h0 : r ≠ 0 ∧ p ≠ 0) : Calls Tryd.prog 69 #[.pointer (some ⟨r, 0, none⟩)] w fun e w' => e = .returned (.int .i64 0) ∧ PR w' r p g L j (dryE err) given fault wrong ∧ Kept [r, p] w w' := by
  obtain ⟨c0, _⟩ := h.c
  have hu := u8_any h.rd hB (by omega)
  have ho := offTo_none (n := 1) hj hd
  have hc := came_none (n := 1) hj hd
  have hE := dryE_ne err
  rw [show ((1 : Nat) : Int) = 1 from rfl] at ho hc
  rw [hc, show ((pile 0 [] % 256 : Nat) : Int) = 0 from rfl] at hu
  have hchk := fun w' hW' => width_any 0 w' hW'
  rw [show wid 0 = 0 from rfl] at hchk
  go_enter Tryd.func69, Tryd.ntmps69
  go_wp2_with fail
  refine hu.mono ?_
  rintro e w2 ⟨rfl, hA⟩
  have hP := h.aft hA
  rw [ho] at hP
  have hr := refuse_any hP.1
  rw [if_neg hE] at hr
  have hW2 : Wid w2 := hW.kept hP.2 (by simp; exact ⟨fun e => h0.1 e.symm, fun e => h0.2 e.symm⟩)
  have HP := Lib.hid hP
  clear hP hA hu ho c0
  go_wp2_with (first | (go_at_call 59; refine (hchk _ hW2).mono ?_; rintro e w3 ⟨rfl, rfl⟩))
  refine hr.mono ?_
  rintro e w4 ⟨rfl, hP4, hk4⟩
  have HQ := Lib.hid (And.intro hP4 (HP.out.2.trans hk4))
  clear hP4 hk4
  go_wp2
  go_ret
  exact ⟨rfl, HQ.out.1, HQ.out.2⟩

set_option maxRecDepth 100000 in
set_option maxHeartbeats 1600000 in
theorem bits_some {w : World} {r p g : Nat} {L : List Nat} {j : Nat} {given : Nat} {fault : Int} {wrong : Bool} (h : PR w r p g L j 0 given fault wrong) (hB : Bys L) (hlm : L.length ≤ 1000) (hj : j < L.length) (n : Nat) : Calls Tryd.prog 70 #[.pointer (some ⟨r, 0, none⟩), .int .i64 (n : Int)] w fun e w' => e = .returned (.int .i64 ((L.getD j 0 : Nat) : Int)) ∧ PR w' r p g L (j + 1) 0 given fault (wrong || decide (n < L.getD j 0)) ∧ Kept [r, p] w w' := by
  obtain ⟨c0, _⟩ := h.c
  have hu := u8_any h.rd hB (by omega)
  rw [u8_came hB hj] at hu
  have ho := offTo_some (len := L.length) (j := j) (n := 1) (by omega)
  have hx := hB.at j
  obtain ⟨x, hx0⟩ : ∃ x, L.getD j 0 = x := ⟨_, rfl⟩
  rw [hx0] at hu hx ⊢
  obtain ⟨b, hb2⟩ : ∃ b, decide (n < x) = b := ⟨_, rfl⟩
  have hb : decide (x ≤ n) = !b := by rw [← hb2, Bool.eq_iff_iff]; simp
  rw [hb2]
  have hchk := fun w' => within_any (x : Int) (n : Int) w'
  clear hb2 hx0
  cases b
  all_goals
    go_enter Tryd.func70, Tryd.ntmps70
    go_wp2_with fail
    refine hu.mono ?_
    rintro e w2 ⟨rfl, hA⟩
    have hP := h.aft hA
    rw [show (1 : Int) = ((1 : Nat) : Int) from rfl, ho] at hP
    have hr := refuse_any hP.1
    rw [if_pos rfl] at hr
    have HP := Lib.hid hP
    clear hP hA hu ho c0
    go_wp2_with (first | (go_at_call 58; refine (hchk _).mono ?_; rintro e w3 ⟨rfl, rfl⟩))
  · go_ret
    exact ⟨rfl, by simpa using HP.out.1, HP.out.2⟩
  · refine hr.mono ?_
    rintro e w4 ⟨rfl, hP4, hk4⟩
    have HQ := Lib.hid (And.intro hP4 (HP.out.2.trans hk4))
    clear hP4 hk4
    go_wp2
    go_ret
    exact ⟨rfl, by simpa using HQ.out.1, HQ.out.2⟩

set_option maxRecDepth 100000 in
set_option maxHeartbeats 1600000 in
theorem bits_none {w : World} {r p g : Nat} {L : List Nat} {j : Nat} {err : Int} {given : Nat} {fault : Int} {wrong : Bool} (h : PR w r p g L j err given fault wrong) (hB : Bys L) (hlm : L.length ≤ 1000) (hj : j ≤ L.length) (hd : dry L.length j err 1) (n : Nat) : Calls Tryd.prog 70 #[.pointer (some ⟨r, 0, none⟩), .int .i64 (n : Int)] w fun e w' => e = .returned (.int .i64 0) ∧ PR w' r p g L j (dryE err) given fault wrong ∧ Kept [r, p] w w' := by
  obtain ⟨c0, _⟩ := h.c
  have hu := u8_any h.rd hB (by omega)
  have ho := offTo_none (n := 1) hj hd
  have hc := came_none (n := 1) hj hd
  have hE := dryE_ne err
  rw [show ((1 : Nat) : Int) = 1 from rfl] at ho hc
  rw [hc, show ((pile 0 [] % 256 : Nat) : Int) = 0 from rfl] at hu
  have hchk := fun w' => within_any 0 (n : Int) w'
  rw [decide_eq_true (show (0 : Int) ≤ 0 ∧ (0 : Int) ≤ (n : Int) by omega)] at hchk
  go_enter Tryd.func70, Tryd.ntmps70
  go_wp2_with fail
  refine hu.mono ?_
  rintro e w2 ⟨rfl, hA⟩
  have hP := h.aft hA
  rw [ho] at hP
  have hr := refuse_any hP.1
  rw [if_neg hE] at hr
  have HP := Lib.hid hP
  clear hP hA hu ho c0
  go_wp2_with (first | (go_at_call 58; refine (hchk _).mono ?_; rintro e w3 ⟨rfl, rfl⟩))
  go_ret
  exact ⟨rfl, HP.out.1, HP.out.2⟩
end Go.Proofs.YtdbdmnahgkkjiaaDoor
