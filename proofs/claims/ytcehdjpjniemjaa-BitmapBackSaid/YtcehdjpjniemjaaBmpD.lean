/-
  A node as words, and the contracts of bitmap.Encode, Decode and of the reference's Words, Decode. Nothing here is a statement of the document.
-/
import Derived.Test.YtcehdjpjniemjaaBmpC
import Derived.Test.YtcehdjpjniemjaaLinX
import Derived.Laws.ResultCell
namespace Go.Proofs.Ytcehdjpjniemjaa
open Go.RowKit
set_option linter.unusedVariables false

theorem z_nd : (Try.prog.info? 24).map (fun i => (i.zero, i.size)) = some (some (.agg Nd.zero.cs), 4) := by kernel_rfl
theorem s_nd (n : Nd) : (Try.prog.info? 24).map (·.size) = some n.cs.size := by
  show _ = some 4
  kernel_rfl
theorem nd_one (n : Nd) : n.cs.all (·.oneCell') = true := by simp [Nd.cs, Value.oneCell']
theorem load_nd_rule (v : Value) : Instr.loadAt 24 v = loadSem 24 v := rfl
theorem store_nd_rule (v x : Value) : Instr.storeAt 24 v x = storeSem 24 v x := rfl
theorem ld_nd {w : World} {g : Nat} {n : Nd} (h : Blk w g 24 n.cs) : (loadSem 24 (.pointer (some ⟨g, 0, none⟩))).run Try.prog w = .ok (.agg n.cs) w :=
  loadRes_of (w := w) h (fun j _ => by rw [Nat.zero_add]) _ Try.underlying24 rfl (s_nd n)
theorem st_nd {w : World} {g : Nat} {n m : Nd} (h : Blk w g 24 n.cs) : (storeSem 24 (.pointer (some ⟨g, 0, none⟩)) (.agg m.cs)).run Try.prog w = .ok () (w.setRow g m.cs) := by
  have := storeRes_of (P := Try.prog) (ty := 24) (o := 0) (vs := m.cs) h (by simp [Nd.cs]) (s_nd m) (nd_one m)
  rwa [over_all (by simp [Nd.cs])] at this
theorem results_nd {fn : Func} {p u : Tmp} (h : fn.results = #[.cell p 24, .tmp u]) (tmps : Array Value) (w : World) (g : Nat) (n : Nd)
    (hp : tmps.getD p undef = .pointer (some ⟨g, 0, none⟩)) (hb : Blk w g 24 n.cs) :
    (results fn tmps).run Try.prog w = .ok (.tuple #[.agg n.cs, tmps.getD u undef]) w := by
  have hl := run_loadVar_row (P := Try.prog) w g 24 24 n.cs (0, 0) _ hb Try.underlying24 (by simp) (s_nd n)
  rw [results_cell_tmp h, hp]
  simp [asAddr, hl, Result.andThen]
theorem nd_cell {w : World} {g : Nat} {n : Nd} (h : Blk w g 24 n.cs) : w.cell? ⟨g, 0, none⟩ = some (.int .u32 n.i) ∧ w.cell? ⟨g, 1, none⟩ = some (.int .u32 n.o) ∧ w.cell? ⟨g, 2, none⟩ = some (.int .u32 n.r) ∧ w.cell? ⟨g, 3, none⟩ = some (.int .u32 n.c) :=
  ⟨h.cell 0, h.cell 1, h.cell 2, h.cell 3⟩
attribute [local go_sem ↓] load_nd_rule store_nd_rule

/-- A node's words. -/
def Nd.ws (n : Nd) : Array Value := #[.int .u32 ((n.o * 65536 + n.i : Nat) : Int), .int .u32 n.r, .int .u32 n.c]
theorem or_shl {i o : Nat} (hi : i < 65536) (ho : o < 65536) : bits .or .u32 (i : Int) ((o * 65536 : Nat) : Int) = ((o * 65536 + i : Nat) : Int) := by
  rw [u32_or_nat _ _ (by omega) (by omega), Nat.or_comm]
  have := Nat.shiftLeft_add_eq_or_of_lt (b := i) (i := 16) hi o
  rw [Nat.shiftLeft_eq] at this
  rw [this]
theorem shl_16 {o : Nat} (ho : o < 65536) : ((o : Int) * 65536) % 4294967296 = ((o * 65536 : Nat) : Int) := by omega

set_option maxRecDepth 100000 in
set_option maxHeartbeats 1600000 in
theorem nenc_any (n : Nd) (w : World) : Calls Try.prog 10 #[.agg n.cs] w fun e w' =>
    (n.ok → e = .returned (.tuple #[.slice (some ⟨w.heap.size + 2, 0, none⟩) 3 3, .int .i64 0]) ∧ Blk w' (w.heap.size + 2) 22 n.ws) ∧
    (¬ n.ok → e = .returned (.tuple #[.slice none 0 0, .int .i64 170])) ∧ Below w.heap.size w w' := by
  obtain ⟨W1, hW1⟩ : ∃ W1, w.alloc (.cells n.cs 24) = W1 := ⟨_, rfl⟩
  have hb1 : Below w.heap.size w W1 := by rw [← hW1]; exact below_alloc w _
  have b1 : Blk W1 w.heap.size 24 n.cs := by rw [← hW1]; exact Blk.new w _ _
  have s1 : W1.heap.size = w.heap.size + 1 := by rw [← hW1]; simp
  obtain ⟨W2, hW2⟩ : ∃ W2, W1.alloc (.cells n.cs 24) = W2 := ⟨_, rfl⟩
  have hC := ncheck_any n W1
  rw [hW2] at hC
  have hb2 : Below w.heap.size w W2 := by rw [← hW2]; exact hb1.alloc hb1.size _
  have b2 : Blk W2 w.heap.size 24 n.cs := by rw [← hW2]; exact b1.alloc _
  have s2 : W2.heap.size = w.heap.size + 2 := by rw [← hW2]; simp [s1]
  have hl := ld_nd b1
  obtain ⟨c0, c1, c2, c3⟩ := nd_cell b2
  have HC := Lib.hid hC
  have HB := Lib.hid hb2
  clear hC hb1 hb2 b1 b2 hW2
  by_cases hok : n.ok
  · have he : n.e = 0 := by simp [Nd.e, hok]
    have ho : n.o < 65536 := hok.2.1
    have hi : n.i < 65536 := by have := hok.1; omega
    have h1 := shl_16 ho
    have h2 := or_shl hi ho
    have hnew : Blk (W2.alloc (.cells n.ws 22)) (w.heap.size + 2) 22 n.ws := by rw [← s2]; exact Blk.new W2 _ _
    have hbe : Below w.heap.size w (W2.alloc (.cells n.ws 22)) := HB.out.alloc (by omega) _
    have HR := Lib.hid (And.intro hnew hbe)
    have HO := Lib.hid hok
    rw [he] at HC
    clear hok hnew hbe he ho hi
    unfold Nd.ws at HR ⊢
    generalize n.i = i at *
    generalize n.o = o at *
    generalize n.r = r at *
    generalize n.c = c at *
    generalize o * 65536 = q at *
    go_enter Try.func10, Try.ntmps10
    go_wp2_with (go_at_call 12; refine HC.out.mono ?_; rintro e w' ⟨rfl, rfl⟩)
    go_ret2
    exact ⟨fun _ => ⟨by simp, HR.out.1⟩, fun h => absurd HO.out h, HR.out.2⟩
  · have he : n.e = 170 := by simp [Nd.e, hok]
    have HO := Lib.hid hok
    rw [he] at HC
    clear hok he
    go_enter Try.func10, Try.ntmps10
    go_wp2_with (go_at_call 12; refine HC.out.mono ?_; rintro e w' ⟨rfl, rfl⟩)
    go_ret2
    exact ⟨fun h => absurd h HO.out, fun _ => rfl, HB.out⟩

set_option maxRecDepth 100000 in
set_option maxHeartbeats 1600000 in
theorem words_any (n : Nd) (hok : n.ok) (w : World) : Calls Try.prog 13 #[.agg n.cs] w fun e w' =>
    e = .returned (.slice (some ⟨w.heap.size + 1, 0, none⟩) 3 3) ∧ Blk w' (w.heap.size + 1) 22 n.ws ∧ Below w.heap.size w w' := by
  obtain ⟨W1, hW1⟩ : ∃ W1, w.alloc (.cells n.cs 24) = W1 := ⟨_, rfl⟩
  have hb1 : Below w.heap.size w W1 := by rw [← hW1]; exact below_alloc w _
  have b1 : Blk W1 w.heap.size 24 n.cs := by rw [← hW1]; exact Blk.new w _ _
  have s1 : W1.heap.size = w.heap.size + 1 := by rw [← hW1]; simp
  obtain ⟨c0, c1, c2, c3⟩ := nd_cell b1
  have ho : n.o < 65536 := hok.2.1
  have hi : n.i < 65536 := by have := hok.1; omega
  have h1 := shl_16 ho
  have h2 : (((n.o * 65536 : Nat) : Int) + (n.i : Int)) % 4294967296 = ((n.o * 65536 + n.i : Nat) : Int) := by omega
  have hnew : Blk (W1.alloc (.cells n.ws 22)) (w.heap.size + 1) 22 n.ws := by rw [← s1]; exact Blk.new W1 _ _
  have hbe : Below w.heap.size w (W1.alloc (.cells n.ws 22)) := hb1.alloc (by omega) _
  have HR := Lib.hid (And.intro hnew hbe)
  clear hok hnew hbe ho hi hb1 b1
  unfold Nd.ws at HR ⊢
  generalize n.i = i at *
  generalize n.o = o at *
  generalize n.r = r at *
  generalize n.c = c at *
  generalize o * 65536 = q at *
  go_enter Try.func13, Try.ntmps13
  go_wp2
  go_ret
  exact ⟨by simp, HR.out⟩

/-- The node of three words. -/
def ndOf (x0 x1 x2 : Nat) (h0 : x0 < 4294967296) (h1 : x1 < 4294967296) (h2 : x2 < 4294967296) : Nd := ⟨x0 % 65536, x0 / 65536, x1, x2, by omega, by omega, h1, h2⟩
theorem and_half {x : Nat} (h : x < 4294967296) : bits .and .u32 (x : Int) 65535 = ((x % 65536 : Nat) : Int) := by
  have := u32_and_nat x 65535 h (by omega)
  rw [show (65535 : Nat) = 2 ^ 16 - 1 from rfl, Nat.and_two_pow_sub_one_eq_mod] at this
  exact this

theorem below_setRow {B : Nat} {w w' : World} {g : Nat} (h : Below B w w') (hg : B ≤ g) (cs : Array Value) : Below B w (w'.setRow g cs) :=
  ⟨h.os, h.tape, h.output, by have := h.size; simpa using this, fun k hk => (setRow_other w' g k cs (by omega)).trans (h.block k hk)⟩

set_option maxRecDepth 100000 in
set_option maxHeartbeats 1600000 in
theorem ndec_short (a : Option Addr) (len cap : Nat) (hl : len < 3) (w : World) : Calls Try.prog 8 #[.slice a len cap] w fun e w' =>
    e = .returned (.tuple #[.agg Nd.zero.cs, .int .i64 7]) ∧ Below w.heap.size w w' := by
  obtain ⟨W1, hW1⟩ : ∃ W1, w.alloc (.cells Nd.zero.cs 24) = W1 := ⟨_, rfl⟩
  have hb1 : Below w.heap.size w W1 := by rw [← hW1]; exact below_alloc w _
  have b1 : Blk W1 w.heap.size 24 Nd.zero.cs := by rw [← hW1]; exact Blk.new w _ _
  have hst : (storeSem 24 (.pointer (some ⟨w.heap.size, 0, none⟩)) (.agg #[.int .u32 0, .int .u32 0, .int .u32 0, .int .u32 0])).run Try.prog W1 = .ok () (W1.setRow w.heap.size Nd.zero.cs) := st_nd (m := Nd.zero) b1
  have hbe : Below w.heap.size w (W1.setRow w.heap.size Nd.zero.cs) := below_setRow hb1 (Nat.le_refl _) _
  have HR := Lib.hid (And.intro (b1.row Nd.zero.cs) hbe)
  have d1 : decide (((len : Nat) : Int) < 3) = true := by simp; omega
  have d2 : decide (len < 3) = true := by simp; omega
  clear hb1 b1 hbe
  have hW1 : w.alloc (.cells #[.int .u32 0, .int .u32 0, .int .u32 0, .int .u32 0] 24) = W1 := hW1
  go_enter Try.func8, Try.ntmps8
  go_wp2
  (try simp only [Exit.inBlock, Exit.then])
  refine bodyPost_ret (results_nd rfl _ _ w.heap.size Nd.zero rfl HR.out.1) rfl ?_
  exact ⟨rfl, HR.out.2⟩

set_option maxRecDepth 100000 in
set_option maxHeartbeats 1600000 in
theorem ndec_any (b off len cap : Nat) (hl : 3 ≤ len) (hlm : len ≤ 9223372036854775807) (x0 x1 x2 : Nat) (h0 : x0 < 4294967296) (h1 : x1 < 4294967296) (h2 : x2 < 4294967296) (w : World) (hb : b < w.heap.size)
    (q0 : w.cell? ⟨b, off, none⟩ = some (.int .u32 x0)) (q1 : w.cell? ⟨b, off + 1, none⟩ = some (.int .u32 x1)) (q2 : w.cell? ⟨b, off + 2, none⟩ = some (.int .u32 x2)) : Calls Try.prog 8 #[.slice (some ⟨b, off, none⟩) len cap] w fun e w' =>
    ((ndOf x0 x1 x2 h0 h1 h2).ok → e = .returned (.tuple #[.agg (ndOf x0 x1 x2 h0 h1 h2).cs, .int .i64 0])) ∧ (¬ (ndOf x0 x1 x2 h0 h1 h2).ok → e = .returned (.tuple #[.agg Nd.zero.cs, .int .i64 170])) ∧ Below w.heap.size w w' := by
  obtain ⟨W1, hW1⟩ : ∃ W1, w.alloc (.cells Nd.zero.cs 24) = W1 := ⟨_, rfl⟩
  have hb1 : Below w.heap.size w W1 := by rw [← hW1]; exact below_alloc w _
  have b1 : Blk W1 w.heap.size 24 Nd.zero.cs := by rw [← hW1]; exact Blk.new w _ _
  have s1 : W1.heap.size = w.heap.size + 1 := by rw [← hW1]; simp
  have g0 : ∀ W9, Below W1.heap.size W1 W9 → W9.cell? ⟨b, off, none⟩ = some (.int .u32 x0) := fun W9 h => (h.cell (p := ⟨b, off, none⟩) (by simp; omega)).trans ((hb1.cell (p := ⟨b, off, none⟩) hb).trans q0)
  have g1 : ∀ W9, Below W1.heap.size W1 W9 → W9.cell? ⟨b, off + 1, none⟩ = some (.int .u32 x1) := fun W9 h => (h.cell (p := ⟨b, off + 1, none⟩) (by simp; omega)).trans ((hb1.cell (p := ⟨b, off + 1, none⟩) hb).trans q1)
  have g2 : ∀ W9, Below W1.heap.size W1 W9 → W9.cell? ⟨b, off + 2, none⟩ = some (.int .u32 x2) := fun W9 h => (h.cell (p := ⟨b, off + 2, none⟩) (by simp; omega)).trans ((hb1.cell (p := ⟨b, off + 2, none⟩) hb).trans q2)
  have d1 : decide (((len : Nat) : Int) < 3) = false := by simp; omega
  have d2 : decide (len < 3) = false := by simp; omega
  have d3 : (0 : Nat) < len := by omega
  have d4 : (1 : Nat) < len := by omega
  have d5 : (2 : Nat) < len := by omega
  have d6 : (1 : Int) < (len : Int) := by omega
  have d7 : (2 : Int) < (len : Int) := by omega
  have hand := and_half h0
  have hr1 : ((x0 : Int) % 65536) = ((x0 % 65536 : Nat) : Int) := by simp
  have hr2 : ((x0 : Int) / 65536) = ((x0 / 65536 : Nat) : Int) := by simp
  obtain ⟨n, hn⟩ : ∃ n, ndOf x0 x1 x2 h0 h1 h2 = n := ⟨_, rfl⟩
  rw [hn]
  have n0 : ((x0 % 65536 : Nat) : Int) = (n.i : Int) := by rw [← hn]; rfl
  have n1 : ((x0 / 65536 : Nat) : Int) = (n.o : Int) := by rw [← hn]; rfl
  have n2 : (x1 : Int) = (n.r : Int) := by rw [← hn]; rfl
  have n3 : (x2 : Int) = (n.c : Int) := by rw [← hn]; rfl
  rw [n0] at hand hr1
  rw [n1] at hr2
  rw [n2] at g1
  rw [n3] at g2
  have HC := fun W => ncheck_any n W
  clear n0 n1 n2 n3 hn q0 q1 q2 h1 h2
  have HB1 := Lib.hid hb1
  have B1 := Lib.hid b1
  have S1 := Lib.hid s1
  clear hb1 b1 s1
  have hW1 : w.alloc (.cells #[.int .u32 0, .int .u32 0, .int .u32 0, .int .u32 0] 24) = W1 := hW1
  go_enter Try.func8, Try.ntmps8
  go_wp2
  refine wp_region_linX (fun w' => Below W1.heap.size W1 w') [15, 16] [0, 1, 2, 3, 4, 5, 6, 7, 8, 9, 10, 11, 12, 13, 14, 15, 16] (by kernel_rfl) (by kernel_rfl) ((Below.refl _ _).drew) ?_
  (repeat (first | (refine linX_off rfl rfl (by rfl) ?_; (try simp only [Act.put, List.getElem_toArray, List.getElem_cons_zero, List.getElem_cons_succ, List.setIfInBounds_toArray, List.set_cons_zero, List.set_cons_succ])) | (refine linX_op (v := ?_) rfl rfl (by rfl) (fun w9 hS9 => ?_) ?_; rotate_left; (focus ((have k0 := g0 w9 hS9; have k1 := g1 w9 hS9; have k2 := g2 w9 hS9; (try dsimp only at hS9); go_simp; (try go_bits)) <;> with_reducible rfl)); (try simp only [Act.put, List.getElem_toArray, List.getElem_cons_zero, List.getElem_cons_succ, List.setIfInBounds_toArray, List.set_cons_zero, List.set_cons_succ]))))
  refine linX_do (v := .pointer (some ⟨W1.heap.size, 0, none⟩)) (w' := (W1.alloc (.cells #[.int .u32 0, .int .u32 0, .int .u32 0, .int .u32 0] 24)).drew) rfl rfl (by rfl) (by go_simp) ((Below.refl _ _).alloc (Nat.le_refl _) _).drew ?_
  (try simp only [Act.put, List.getElem_toArray, List.getElem_cons_zero, List.getElem_cons_succ, List.setIfInBounds_toArray, List.set_cons_zero, List.set_cons_succ])
  have b3 : Blk (W1.alloc (.cells Nd.zero.cs 24)).drew W1.heap.size 24 Nd.zero.cs := (Blk.new W1 _ _).drew
  have b3r : Blk (W1.alloc (.cells Nd.zero.cs 24)).drew w.heap.size 24 Nd.zero.cs := (B1.out.alloc _).drew
  have hb3 : Below w.heap.size w (W1.alloc (.cells Nd.zero.cs 24)).drew := (HB1.out.alloc HB1.out.size _).drew
  have hb3' : Below W1.heap.size W1 (W1.alloc (.cells Nd.zero.cs 24)).drew := ((Below.refl _ _).alloc (Nat.le_refl _) _).drew
  obtain ⟨W3, hW3⟩ : ∃ W3, (W1.alloc (.cells #[.int .u32 0, .int .u32 0, .int .u32 0, .int .u32 0] 24)).drew = W3 := ⟨_, rfl⟩
  rw [show (W1.alloc (.cells Nd.zero.cs 24)).drew = W3 from hW3] at b3 b3r hb3 hb3'
  rw [hW3]
  have hst : (storeSem 24 (.pointer (some ⟨W1.heap.size, 0, none⟩)) (.agg #[.int .u32 n.i, .int .u32 n.o, .int .u32 n.r, .int .u32 n.c])).run Try.prog W3 = .ok () (W3.setRow W1.heap.size n.cs) := st_nd (m := n) b3
  have b4 := b3.row n.cs
  have b4r : Blk (W3.setRow W1.heap.size n.cs) w.heap.size 24 Nd.zero.cs := b3r.kept ((Kept.refl [W1.heap.size] W3).setRow (g := W1.heap.size) (.inl (by simp)) n.cs) (by have := S1.out; simp; omega)
  have hb4 : Below w.heap.size w (W3.setRow W1.heap.size n.cs) := below_setRow hb3 (by have := S1.out; omega) n.cs
  have hb4' : Below W1.heap.size W1 (W3.setRow W1.heap.size n.cs) := below_setRow hb3' (Nat.le_refl _) n.cs
  refine linX_store (w' := W3.setRow W1.heap.size n.cs) rfl rfl (by rfl) (by go_simp) hb4' ?_
  (try simp only [Act.put, List.getElem_toArray, List.getElem_cons_zero, List.getElem_cons_succ, List.setIfInBounds_toArray, List.set_cons_zero, List.set_cons_succ])
  refine linX_nil ?_
  obtain ⟨W4, hW4⟩ : ∃ W4, W3.setRow W1.heap.size n.cs = W4 := ⟨_, rfl⟩
  rw [hW4] at b4 b4r hb4 ⊢
  have hl4 := ld_nd b4
  have hC := HC W4
  have b5 : Blk (W4.alloc (.cells n.cs 24)) W1.heap.size 24 n.cs := b4.alloc _
  have b5r : Blk (W4.alloc (.cells n.cs 24)) w.heap.size 24 Nd.zero.cs := b4r.alloc _
  have hb5 : Below w.heap.size w (W4.alloc (.cells n.cs 24)) := hb4.alloc hb4.size _
  obtain ⟨W5, hW5⟩ : ∃ W5, W4.alloc (.cells n.cs 24) = W5 := ⟨_, rfl⟩
  rw [hW5] at hC b5 b5r hb5
  have HC5 := Lib.hid hC
  have hl5 := ld_nd b5
  have hst5 := st_nd (m := n) b5r
  have hst6 : (storeSem 24 (.pointer (some ⟨w.heap.size, 0, none⟩)) (.agg #[.int .u32 0, .int .u32 0, .int .u32 0, .int .u32 0])).run Try.prog W5 = .ok () (W5.setRow w.heap.size Nd.zero.cs) := st_nd (m := Nd.zero) b5r
  have HR1 := Lib.hid (And.intro (b5r.row n.cs) (below_setRow hb5 (Nat.le_refl _) n.cs))
  have HR2 := Lib.hid (And.intro (b5r.row Nd.zero.cs) (below_setRow hb5 (Nat.le_refl _) Nd.zero.cs))
  clear b3 b3r hb3 hb3' b4 b4r hb4 hb4' b5 b5r hb5 hW1 hW3 hW4 hW5 hst HC hC g0 g1 g2 hand hr1 hr2
  by_cases hok : n.ok
  · have HO := Lib.hid hok
    have he : n.e = 0 := by simp [Nd.e, hok]
    rw [he] at HC5
    clear hok he
    go_wp2_with (go_at_call 12; refine HC5.out.mono ?_; rintro e w' ⟨rfl, rfl⟩)
    (try simp only [Exit.inBlock, Exit.then])
    refine bodyPost_ret (results_nd rfl _ _ w.heap.size n rfl HR1.out.1) rfl ?_
    exact ⟨fun _ => rfl, fun h => absurd HO.out h, HR1.out.2⟩
  · have HO := Lib.hid hok
    have he : n.e = 170 := by simp [Nd.e, hok]
    rw [he] at HC5
    clear hok he
    go_wp2_with (go_at_call 12; refine HC5.out.mono ?_; rintro e w' ⟨rfl, rfl⟩)
    (try simp only [Exit.inBlock, Exit.then])
    refine bodyPost_ret (results_nd rfl _ _ w.heap.size Nd.zero rfl HR2.out.1) rfl ?_
    exact ⟨fun h => absurd h HO.out, fun _ => rfl, HR2.out.2⟩

set_option maxRecDepth 100000 in
set_option maxHeartbeats 1600000 in
theorem rdec_short (a : Option Addr) (len cap : Nat) (hl : len < 3) (w : World) : Calls Try.prog 9 #[.slice a len cap] w fun e w' =>
    e = .returned (.tuple #[.agg Nd.zero.cs, .int .i64 7]) ∧ Below w.heap.size w w' := by
  obtain ⟨W1, hW1⟩ : ∃ W1, w.alloc (.cells Nd.zero.cs 24) = W1 := ⟨_, rfl⟩
  have hb1 : Below w.heap.size w W1 := by rw [← hW1]; exact below_alloc w _
  have b1 : Blk W1 w.heap.size 24 Nd.zero.cs := by rw [← hW1]; exact Blk.new w _ _
  have hst : (storeSem 24 (.pointer (some ⟨w.heap.size, 0, none⟩)) (.agg #[.int .u32 0, .int .u32 0, .int .u32 0, .int .u32 0])).run Try.prog W1 = .ok () (W1.setRow w.heap.size Nd.zero.cs) := st_nd (m := Nd.zero) b1
  have hbe : Below w.heap.size w (W1.setRow w.heap.size Nd.zero.cs) := below_setRow hb1 (Nat.le_refl _) _
  have HR := Lib.hid (And.intro (b1.row Nd.zero.cs) hbe)
  have d1 : decide (((len : Nat) : Int) < 3) = true := by simp; omega
  have d2 : decide (len < 3) = true := by simp; omega
  clear hb1 b1 hbe
  have hW1 : w.alloc (.cells #[.int .u32 0, .int .u32 0, .int .u32 0, .int .u32 0] 24) = W1 := hW1
  go_enter Try.func9, Try.ntmps9
  go_wp2
  (try simp only [Exit.inBlock, Exit.then])
  refine bodyPost_ret (results_nd rfl _ _ w.heap.size Nd.zero rfl HR.out.1) rfl ?_
  exact ⟨rfl, HR.out.2⟩

set_option maxRecDepth 100000 in
set_option maxHeartbeats 1600000 in
theorem rdec_any (b off len cap : Nat) (hl : 3 ≤ len) (hlm : len ≤ 9223372036854775807) (x0 x1 x2 : Nat) (h0 : x0 < 4294967296) (h1 : x1 < 4294967296) (h2 : x2 < 4294967296) (w : World) (hb : b < w.heap.size)
    (q0 : w.cell? ⟨b, off, none⟩ = some (.int .u32 x0)) (q1 : w.cell? ⟨b, off + 1, none⟩ = some (.int .u32 x1)) (q2 : w.cell? ⟨b, off + 2, none⟩ = some (.int .u32 x2)) : Calls Try.prog 9 #[.slice (some ⟨b, off, none⟩) len cap] w fun e w' =>
    ((ndOf x0 x1 x2 h0 h1 h2).ok → e = .returned (.tuple #[.agg (ndOf x0 x1 x2 h0 h1 h2).cs, .int .i64 0])) ∧ (¬ (ndOf x0 x1 x2 h0 h1 h2).ok → e = .returned (.tuple #[.agg Nd.zero.cs, .int .i64 170])) ∧ Below w.heap.size w w' := by
  obtain ⟨W1, hW1⟩ : ∃ W1, w.alloc (.cells Nd.zero.cs 24) = W1 := ⟨_, rfl⟩
  have hb1 : Below w.heap.size w W1 := by rw [← hW1]; exact below_alloc w _
  have b1 : Blk W1 w.heap.size 24 Nd.zero.cs := by rw [← hW1]; exact Blk.new w _ _
  have s1 : W1.heap.size = w.heap.size + 1 := by rw [← hW1]; simp
  have g0 : ∀ W9, Below W1.heap.size W1 W9 → W9.cell? ⟨b, off, none⟩ = some (.int .u32 x0) := fun W9 h => (h.cell (p := ⟨b, off, none⟩) (by simp; omega)).trans ((hb1.cell (p := ⟨b, off, none⟩) hb).trans q0)
  have g1 : ∀ W9, Below W1.heap.size W1 W9 → W9.cell? ⟨b, off + 1, none⟩ = some (.int .u32 x1) := fun W9 h => (h.cell (p := ⟨b, off + 1, none⟩) (by simp; omega)).trans ((hb1.cell (p := ⟨b, off + 1, none⟩) hb).trans q1)
  have g2 : ∀ W9, Below W1.heap.size W1 W9 → W9.cell? ⟨b, off + 2, none⟩ = some (.int .u32 x2) := fun W9 h => (h.cell (p := ⟨b, off + 2, none⟩) (by simp; omega)).trans ((hb1.cell (p := ⟨b, off + 2, none⟩) hb).trans q2)
  have d1 : decide (((len : Nat) : Int) < 3) = false := by simp; omega
  have d2 : decide (len < 3) = false := by simp; omega
  have d3 : (0 : Nat) < len := by omega
  have d4 : (1 : Nat) < len := by omega
  have d5 : (2 : Nat) < len := by omega
  have d6 : (1 : Int) < (len : Int) := by omega
  have d7 : (2 : Int) < (len : Int) := by omega
  have hand := and_half h0
  have hr1 : ((x0 : Int) % 65536) = ((x0 % 65536 : Nat) : Int) := by simp
  have hr2 : ((x0 : Int) / 65536) = ((x0 / 65536 : Nat) : Int) := by simp
  obtain ⟨n, hn⟩ : ∃ n, ndOf x0 x1 x2 h0 h1 h2 = n := ⟨_, rfl⟩
  rw [hn]
  have n0 : ((x0 % 65536 : Nat) : Int) = (n.i : Int) := by rw [← hn]; rfl
  have n1 : ((x0 / 65536 : Nat) : Int) = (n.o : Int) := by rw [← hn]; rfl
  have n2 : (x1 : Int) = (n.r : Int) := by rw [← hn]; rfl
  have n3 : (x2 : Int) = (n.c : Int) := by rw [← hn]; rfl
  rw [n0] at hand hr1
  rw [n1] at hr2
  rw [n2] at g1
  rw [n3] at g2
  have HC := fun W => right_any n W
  clear n0 n1 n2 n3 hn q0 q1 q2 h1 h2
  have HB1 := Lib.hid hb1
  have B1 := Lib.hid b1
  have S1 := Lib.hid s1
  clear hb1 b1 s1
  have hW1 : w.alloc (.cells #[.int .u32 0, .int .u32 0, .int .u32 0, .int .u32 0] 24) = W1 := hW1
  go_enter Try.func9, Try.ntmps9
  go_wp2
  refine wp_region_linX (fun w' => Below W1.heap.size W1 w') [15, 16] [0, 1, 2, 3, 4, 5, 6, 7, 8, 9, 10, 11, 12, 13, 14, 15, 16] (by kernel_rfl) (by kernel_rfl) ((Below.refl _ _).drew) ?_
  (repeat (first | (refine linX_off rfl rfl (by rfl) ?_; (try simp only [Act.put, List.getElem_toArray, List.getElem_cons_zero, List.getElem_cons_succ, List.setIfInBounds_toArray, List.set_cons_zero, List.set_cons_succ])) | (refine linX_op (v := ?_) rfl rfl (by rfl) (fun w9 hS9 => ?_) ?_; rotate_left; (focus ((have k0 := g0 w9 hS9; have k1 := g1 w9 hS9; have k2 := g2 w9 hS9; (try dsimp only at hS9); go_simp; (try go_bits)) <;> with_reducible rfl)); (try simp only [Act.put, List.getElem_toArray, List.getElem_cons_zero, List.getElem_cons_succ, List.setIfInBounds_toArray, List.set_cons_zero, List.set_cons_succ]))))
  refine linX_do (v := .pointer (some ⟨W1.heap.size, 0, none⟩)) (w' := (W1.alloc (.cells #[.int .u32 0, .int .u32 0, .int .u32 0, .int .u32 0] 24)).drew) rfl rfl (by rfl) (by go_simp) ((Below.refl _ _).alloc (Nat.le_refl _) _).drew ?_
  (try simp only [Act.put, List.getElem_toArray, List.getElem_cons_zero, List.getElem_cons_succ, List.setIfInBounds_toArray, List.set_cons_zero, List.set_cons_succ])
  have b3 : Blk (W1.alloc (.cells Nd.zero.cs 24)).drew W1.heap.size 24 Nd.zero.cs := (Blk.new W1 _ _).drew
  have b3r : Blk (W1.alloc (.cells Nd.zero.cs 24)).drew w.heap.size 24 Nd.zero.cs := (B1.out.alloc _).drew
  have hb3 : Below w.heap.size w (W1.alloc (.cells Nd.zero.cs 24)).drew := (HB1.out.alloc HB1.out.size _).drew
  have hb3' : Below W1.heap.size W1 (W1.alloc (.cells Nd.zero.cs 24)).drew := ((Below.refl _ _).alloc (Nat.le_refl _) _).drew
  obtain ⟨W3, hW3⟩ : ∃ W3, (W1.alloc (.cells #[.int .u32 0, .int .u32 0, .int .u32 0, .int .u32 0] 24)).drew = W3 := ⟨_, rfl⟩
  rw [show (W1.alloc (.cells Nd.zero.cs 24)).drew = W3 from hW3] at b3 b3r hb3 hb3'
  rw [hW3]
  have hst : (storeSem 24 (.pointer (some ⟨W1.heap.size, 0, none⟩)) (.agg #[.int .u32 n.i, .int .u32 n.o, .int .u32 n.r, .int .u32 n.c])).run Try.prog W3 = .ok () (W3.setRow W1.heap.size n.cs) := st_nd (m := n) b3
  have b4 := b3.row n.cs
  have b4r : Blk (W3.setRow W1.heap.size n.cs) w.heap.size 24 Nd.zero.cs := b3r.kept ((Kept.refl [W1.heap.size] W3).setRow (g := W1.heap.size) (.inl (by simp)) n.cs) (by have := S1.out; simp; omega)
  have hb4 : Below w.heap.size w (W3.setRow W1.heap.size n.cs) := below_setRow hb3 (by have := S1.out; omega) n.cs
  have hb4' : Below W1.heap.size W1 (W3.setRow W1.heap.size n.cs) := below_setRow hb3' (Nat.le_refl _) n.cs
  refine linX_store (w' := W3.setRow W1.heap.size n.cs) rfl rfl (by rfl) (by go_simp) hb4' ?_
  (try simp only [Act.put, List.getElem_toArray, List.getElem_cons_zero, List.getElem_cons_succ, List.setIfInBounds_toArray, List.set_cons_zero, List.set_cons_succ])
  refine linX_nil ?_
  obtain ⟨W4, hW4⟩ : ∃ W4, W3.setRow W1.heap.size n.cs = W4 := ⟨_, rfl⟩
  rw [hW4] at b4 b4r hb4 ⊢
  have hl4 := ld_nd b4
  have hC := HC W4
  have b5 : Blk (W4.alloc (.cells n.cs 24)) W1.heap.size 24 n.cs := b4.alloc _
  have b5r : Blk (W4.alloc (.cells n.cs 24)) w.heap.size 24 Nd.zero.cs := b4r.alloc _
  have hb5 : Below w.heap.size w (W4.alloc (.cells n.cs 24)) := hb4.alloc hb4.size _
  obtain ⟨W5, hW5⟩ : ∃ W5, W4.alloc (.cells n.cs 24) = W5 := ⟨_, rfl⟩
  rw [hW5] at hC b5 b5r hb5
  have HC5 := Lib.hid hC
  have hl5 := ld_nd b5
  have hst5 := st_nd (m := n) b5r
  have hst6 : (storeSem 24 (.pointer (some ⟨w.heap.size, 0, none⟩)) (.agg #[.int .u32 0, .int .u32 0, .int .u32 0, .int .u32 0])).run Try.prog W5 = .ok () (W5.setRow w.heap.size Nd.zero.cs) := st_nd (m := Nd.zero) b5r
  have HR1 := Lib.hid (And.intro (b5r.row n.cs) (below_setRow hb5 (Nat.le_refl _) n.cs))
  have HR2 := Lib.hid (And.intro (b5r.row Nd.zero.cs) (below_setRow hb5 (Nat.le_refl _) Nd.zero.cs))
  clear b3 b3r hb3 hb3' b4 b4r hb4 hb4' b5 b5r hb5 hW1 hW3 hW4 hW5 hst HC hC g0 g1 g2 hand hr1 hr2
  by_cases hok : n.ok
  · have HO := Lib.hid hok
    have he : decide n.ok = true := by simp [hok]
    rw [he] at HC5
    clear hok he
    go_wp2_with (go_at_call 11; refine HC5.out.mono ?_; rintro e w' ⟨rfl, rfl⟩)
    (try simp only [Exit.inBlock, Exit.then])
    refine bodyPost_ret (results_nd rfl _ _ w.heap.size n rfl HR1.out.1) rfl ?_
    exact ⟨fun _ => rfl, fun h => absurd HO.out h, HR1.out.2⟩
  · have HO := Lib.hid hok
    have he : decide n.ok = false := by simp [hok]
    rw [he] at HC5
    clear hok he
    go_wp2_with (go_at_call 11; refine HC5.out.mono ?_; rintro e w' ⟨rfl, rfl⟩)
    (try simp only [Exit.inBlock, Exit.then])
    refine bodyPost_ret (results_nd rfl _ _ w.heap.size Nd.zero rfl HR2.out.1) rfl ?_
    exact ⟨fun h => absurd h HO.out, fun _ => rfl, HR2.out.2⟩

end Go.Proofs.Ytcehdjpjniemjaa
