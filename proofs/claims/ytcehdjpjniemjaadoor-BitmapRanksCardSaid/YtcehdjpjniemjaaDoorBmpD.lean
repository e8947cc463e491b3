/-
  A node as words, and the contracts of bitmap.Encode, Decode and of the reference's Words, Decode. Nothing here is a statement of the document.
-/
import Derived.Test.YtcehdjpjniemjaaDoorBmpC
import Derived.Test.YtcehdjpjniemjaaDoorLinX
import Derived.Laws.ResultCell
namespace Go.Proofs.YtcehdjpjniemjaaDoor
open Go.RowKit
set_option linter.unusedVariables false

theorem z_nd : (Tryd.prog.info? 36).map (fun i => (i.zero, i.size)) = some (some (.agg Nd.zero.cs), 4) := by kernel_rfl
theorem s_nd (n : Nd) : (Tryd.prog.info? 36).map (·.size) = some n.cs.size := by
  show _ = some 4
  kernel_rfl
theorem nd_one (n : Nd) : n.cs.all (·.oneCell') = true := by simp [Nd.cs, Value.oneCell']
theorem load_nd_rule (v : Value) : Instr.loadAt 36 v = loadSem 36 v := rfl
theorem store_nd_rule (v x : Value) : Instr.storeAt 36 v x = storeSem 36 v x := rfl
theorem ld_nd {w : World} {g : Nat} {n : Nd} (h : Blk w g 36 n.cs) : (loadSem 36 (.pointer (some ⟨g, 0, none⟩))).run Tryd.prog w = .ok (.agg n.cs) w :=
  loadRes_of (w := w) h (fun j _ => by rw [Nat.zero_add]) _ Tryd.underlying36 rfl (s_nd n)
theorem st_nd {w : World} {g : Nat} {n m : Nd} (h : Blk w g 36 n.cs) : (storeSem 36 (.pointer (some ⟨g, 0, none⟩)) (.agg m.cs)).run Tryd.prog w = .ok () (w.setRow g m.cs) := by
  have := storeRes_of (P := Tryd.prog) (ty := 36) (o := 0) (vs := m.cs) h (by simp [Nd.cs]) (s_nd m) (nd_one m)
  rwa [over_all (by simp [Nd.cs])] at this
theorem results_nd {fn : Func} {p u : Tmp} (h : fn.results = #[.cell p 36, .tmp u]) (tmps : Array Value) (w : World) (g : Nat) (n : Nd)
    (hp : tmps.getD p undef = .pointer (some ⟨g, 0, none⟩)) (hb : Blk w g 36 n.cs) :
    (results fn tmps).run Tryd.prog w = .ok (.tuple #[.agg n.cs, tmps.getD u undef]) w := by
  have hl := run_loadVar_row (P := Tryd.prog) w g 36 36 n.cs (0, 0) _ hb Tryd.underlying36 (by simp) (s_nd n)
  rw [results_cell_tmp h, hp]
  simp [asAddr, hl, Result.andThen]
theorem nd_cell {w : World} {g : Nat} {n : Nd} (h : Blk w g 36 n.cs) : w.cell? ⟨g, 0, none⟩ = some (.int .u32 n.i) ∧ w.cell? ⟨g, 1, none⟩ = some (.int .u32 n.o) ∧ w.cell? ⟨g, 2, none⟩ = some (.int .u32 n.r) ∧ w.cell? ⟨g, 3, none⟩ = some (.int .u32 n.c) :=
  ⟨h.cell 0, h.cell 1, h.cell 2, h.cell 3⟩
attribute [local go_sem ↓] load_nd_rule store_nd_rule

/-- A node's words. -/
def Nd.ws (n : Nd) : Array Value := #[.int .u32 ((n.o * 65536 + n.i : Nat) : Int), .int .u32 n.r, .int .u32 n.c]
theorem or_shl {i o : Nat} (hi : i < 65536) (ho : o < 65536) : bits .or .u32 (i : Int) ((o * 65536 : Nat) : Int) = ((o * 65536 + i : Nat) : Int) := by
  rw [u32_or_nat _ _ (by omega) (by omega), Nat.or_comm]
  have := Nat.shiftLeft_add_eq_or_of_lt (b := i) (i := 16) hi o
  rw [Nat.shiftLeft_eq] at this
  rw [this]
theorem shl_16 {o : Nat} (ho : o < 65536) : ((o : Int) * 65536) % 4294967296 = ((o * 65536 : Nat) : Int) := by omega

set_option maxRecDepth 100000 in
set_option maxHeartbeats 1600000 in
theorem nenc_any (n : Nd) (w : World) : Calls Tryd.prog 16 #[.agg n.cs] w fun e w' =>
    (n.ok → e = .returned (.tuple #[.slice (some ⟨w.heap.size + 2, 0, none⟩) 3 3, .int .i64 0]) ∧ Blk w' (w.heap.size + 2) 22 n.ws) ∧
    (¬ n.ok → e = .returned (.tuple #[.slice none 0 0, .int .i64 170])) ∧ Below w.heap.size w w' := by
  obtain ⟨W1, hW1⟩ : ∃ W1, w.alloc (.cells n.cs 36) = W1 := ⟨_, rfl⟩
  have hb1 : Below w.heap.size w W1 := by rw [← hW1]; exact below_alloc w _
  have b1 : Blk W1 w.heap.size 36 n.cs := by rw [← hW1]; exact Blk.new w _ _
  have s1 : W1.heap.size = w.heap.size + 1 := by rw [← hW1]; simp
  obtain ⟨W2, hW2⟩ : ∃ W2, W1.alloc (.cells n.cs 36) = W2 := ⟨_, rfl⟩
  have hC := ncheck_any n W1
  rw [hW2] at hC
  have hb2 : Below w.heap.size w W2 := by rw [← hW2]; exact hb1.alloc hb1.size _
  have b2 : Blk W2 w.heap.size 36 n.cs := by rw [← hW2]; exact b1.alloc _
  have s2 : W2.heap.size = w.heap.size + 2 := by rw [← hW2]; simp [s1]
  have hl := ld_nd b1
  obtain ⟨c0, c1, c2, c3⟩ := nd_cell b2
  have HC := Lib.hid hC
  have HB := Lib.hid hb2
  clear hC hb1 hb2 b1 b2 hW2
  by_cases hok : n.ok
  · have he : n.e = 0 := by simp [Nd.e, hok]
    have ho : n.o < 65536 := hok.2.1
    have hi : n.i < 65536 := by have := hok.1; omega
    have h1 := shl_16 ho
    have h2 := or_shl hi ho
    have hnew : Blk (W2.alloc (.cells n.ws 22)) (w.heap.size + 2) 22 n.ws := by rw [← s2]; exact Blk.new W2 _ _
    have hbe : Below w.heap.size w (W2.alloc (.cells n.ws 22)) := HB.out.alloc (by omega) _
    have HR := Lib.hid (And.intro hnew hbe)
    have HO := Lib.hid hok
    rw [he] at HC
    clear hok hnew hbe he ho hi
    unfold Nd.ws at HR ⊢
    generalize n.i = i at *
    generalize n.o = o at *
    generalize n.r = r at *
    generalize n.c = c at *
    generalize o * 65536 = q at *
    go_enter Tryd.func16, Tryd.ntmps16
    go_wp2_with (go_at_call 22; refine HC.out.mono ?_; rintro e w' ⟨rfl, rfl⟩)
    go_ret2
    exact ⟨fun _ => ⟨by simp, HR.out.1⟩, fun h => absurd HO.out h, HR.out.2⟩
  · have he : n.e = 170 := by simp [Nd.e, hok]
    have HO := Lib.hid hok
    rw [he] at HC
    clear hok he
    go_enter Tryd.func16, Tryd.ntmps16
    go_wp2_with (go_at_call 22; refine HC.out.mono ?_; rintro e w' ⟨rfl, rfl⟩)
    go_ret2
    exact ⟨fun h => absurd h HO.out, fun _ => rfl, HB.out⟩

/-- The node of three words. -/
def ndOf (x0 x1 x2 : Nat) (h0 : x0 < 4294967296) (h1 : x1 < 4294967296) (h2 : x2 < 4294967296) : Nd := ⟨x0 % 65536, x0 / 65536, x1, x2, by omega, by omega, h1, h2⟩
theorem and_half {x : Nat} (h : x < 4294967296) : bits .and .u32 (x : Int) 65535 = ((x % 65536 : Nat) : Int) := by
  have := u32_and_nat x 65535 h (by omega)
  rw [show (65535 : Nat) = 2 ^ 16 - 1 from rfl, Nat.and_two_pow_sub_one_eq_mod] at this
  exact this

theorem below_setRow {B : Nat} {w w' : World} {g : Nat} (h : Below B w w') (hg : B ≤ g) (cs : Array Value) : Below B w (w'.setRow g cs) :=
  ⟨h.os, h.tape, h.output, by have := h.size; simpa using this, fun k hk => (setRow_other w' g k cs (by omega)).trans (h.block k hk)⟩

end Go.Proofs.YtcehdjpjniemjaaDoor
