/-
  Parts of frames: their bytes, and the contracts of wal's Sectors, head, check and block. Nothing here is a statement of the document.
-/
import Derived.Test.YtkfpkolgikpcpaaDskE
import Derived.Test.YtkfpkolgikpcpaaSumD
namespace Go.Proofs.Ytkfpkolgikpcpaa
open Go.RowKit Go.Shelf
set_option linter.unusedVariables false

/-- Of a frame of n bytes: how many parts. -/
def secN (n : Nat) : Nat := if 40000 < n then 0 else if n = 0 then 1 else (n + 47) / 48
def secI (n : Int) : Int := if n < 0 ∨ 40000 < n then 0 else if n = 0 then 1 else (n + 47) / 48
theorem secI_nat (n : Nat) : secI (n : Int) = (secN n : Int) := by
  unfold secI secN
  by_cases h : 40000 < n
  · rw [if_pos (.inr (by omega)), if_pos h]; rfl
  · rw [if_neg (by omega), if_neg h]
    by_cases h0 : n = 0
    · rw [if_pos (by omega), if_pos h0]; rfl
    · rw [if_neg (by omega), if_neg h0]; omega

set_option maxHeartbeats 400000 in
theorem sectors_any (n : Int) (w : World) : Calls Try.prog 19 #[.int .i64 n] w fun e w' => e = .returned (.int .i64 (secI n)) ∧ w = w' := by
  unfold secI
  by_cases h : n < 0 ∨ 40000 < n
  · rw [if_pos h]
    go_enter Try.func19, Try.ntmps19
    by_cases h0 : n < 0
    · go_wp2
      go_ret
      exact ⟨rfl, rfl⟩
    · have h1 : 40000 < n := by omega
      go_wp2
      go_ret
      exact ⟨rfl, rfl⟩
  · rw [if_neg h]
    have h0 : ¬ n < 0 := by omega
    have h1 : ¬ 40000 < n := by omega
    obtain ⟨m, rfl⟩ : ∃ m : Nat, n = (m : Int) := ⟨n.toNat, by omega⟩
    clear h
    go_enter Try.func19, Try.ntmps19
    go_wp2
    all_goals go_ret
    all_goals (refine ⟨?_, rfl⟩)
    · subst h; rfl
    · exact congrArg (fun z => Ending.returned (Value.int .i64 z)) (show ((m : Int) + 48 - 1) / 48 = ((m : Int) + 47) / 48 by omega)
    · exact congrArg (fun z => Ending.returned (Value.int .i64 z)) (show (1 : Int) = ((m : Int) + 47) / 48 by omega)

/-! ### bytes as a block -/
def Bk.of (l : List Nat) : Bk := ⟨((l ++ List.replicate 64 0).take 64).map Int.ofNat, by simp⟩
theorem Bk.of_l (l : List Nat) (h : l.length = 64) : (Bk.of l).l = l.map Int.ofNat := by
  simp [Bk.of, List.take_append, h]
theorem Bk.of_cs (l : List Nat) (h : l.length = 64) : (Bk.of l).cs = (l.map byc).toArray := by
  unfold Bk.cs
  rw [Bk.of_l l h, List.map_map]
  rfl
/-- The bytes of a block that has such. -/
def Bk.n (b : Bk) : List Nat := b.l.map Int.toNat
theorem Bk.n_of (l : List Nat) (h : l.length = 64) : (Bk.of l).n = l := by
  unfold Bk.n
  rw [Bk.of_l l h, List.map_map]
  simp [Function.comp_def]
theorem Bk.of_inj {l m : List Nat} (h : l.length = 64) (h2 : m.length = 64) (e : Bk.of l = Bk.of m) : l = m := by
  rw [← Bk.n_of l h, ← Bk.n_of m h2, e]
theorem Bk.n_len (b : Bk) : b.n.length = 64 := by simp [Bk.n, b.len]
/-- It holds bytes. -/
def Bk.Byt (b : Bk) : Prop := ∀ z ∈ b.l, 0 ≤ z ∧ z < 256
theorem Bk.Byt.of {b : Bk} (h : b.Byt) : b = Bk.of b.n := by
  cases b with
  | mk l len =>
    have e : (Bk.of (Bk.n ⟨l, len⟩)).l = l := by
      rw [Bk.of_l _ (Bk.n_len _)]
      unfold Bk.n
      rw [List.map_map]
      conv => rhs; rw [← List.map_id l]
      refine List.map_congr_left fun z hz => ?_
      have := (h z hz).1
      simp [Function.comp_def]
      omega
    cases h9 : Bk.of (Bk.n ⟨l, len⟩) with
    | mk l2 len2 => rw [h9] at e; simp at e; subst e; rfl
theorem Bk.Byt.bys {b : Bk} (h : b.Byt) : Bys b.n := by
  intro n hn
  obtain ⟨z, hz, rfl⟩ := List.mem_map.1 hn
  have := h z hz
  omega
theorem Bk.byt_of (l : List Nat) (h : l.length = 64) (hB : Bys l) : (Bk.of l).Byt := by
  intro z hz
  rw [Bk.of_l l h] at hz
  obtain ⟨n, hn, rfl⟩ := List.mem_map.1 hz
  have := hB n hn
  simp
  omega

/-! ### parts -/
/-- What a part's sector says. -/
structure Pt where
  t : Nat
  n : Nat
  bh : Nat
  sz : Nat
  l : List Nat
structure Pt.Ok (p : Pt) : Prop where
  t : p.t ≤ 4294967295
  n : p.n ≤ 4294967295
  bh : p.bh ≤ 65535
  sz : p.sz ≤ 65535
  len : p.l.length = 48
  bys : Bys p.l
def Pt.cs (p : Pt) : Array Value := #[.int .u32 (p.t : Int), .int .u32 (p.n : Int), .int .u16 (p.bh : Int), .int .u16 (p.sz : Int)] ++ (p.l.map byc).toArray
def Pt.head (p : Pt) : List Nat := ((highB p.t 4 ++ highB p.n 4) ++ highB p.bh 2) ++ highB p.sz 2
def Pt.sum (p : Pt) : Nat := goS (goS 1 p.head) p.l
def Pt.bytes (p : Pt) : List Nat := (p.head ++ highB p.sum 4) ++ p.l
def Pt.blk (p : Pt) : Bk := Bk.of p.bytes
theorem Pt.head_len (p : Pt) : p.head.length = 12 := by simp [Pt.head, length_highB]
theorem Pt.bytes_len {p : Pt} (h : p.l.length = 48) : p.bytes.length = 64 := by simp [Pt.bytes, Pt.head_len, length_highB, h]
theorem Pt.head_bys (p : Pt) : Bys p.head := (((highB_bys _ _).append (highB_bys _ _)).append (highB_bys _ _)).append (highB_bys _ _)
theorem Pt.sum_lt (p : Pt) : p.sum < 4294967291 := goS_lt _ _
theorem Pt.size {p : Pt} (h : p.l.length = 48) : p.cs.size = 52 := by simp [Pt.cs, h]
theorem Pt.one (p : Pt) : p.cs.all (·.oneCell') = true := by
  simp [Pt.cs, byc, Value.oneCell']
theorem Pt.c0 (p : Pt) : p.cs[0]? = some (.int .u32 (p.t : Int)) := by simp [Pt.cs]
theorem Pt.c1 (p : Pt) : p.cs[1]? = some (.int .u32 (p.n : Int)) := by simp [Pt.cs]
theorem Pt.c2 (p : Pt) : p.cs[2]? = some (.int .u16 (p.bh : Int)) := by simp [Pt.cs]
theorem Pt.c3 (p : Pt) : p.cs[3]? = some (.int .u16 (p.sz : Int)) := by simp [Pt.cs]
theorem Pt.c4 (p : Pt) (j : Nat) : p.cs[4 + j]? = (p.l.map byc)[j]? := by
  simp only [Pt.cs]
  rw [Array.getElem?_append_right (by simp)]
  simp
theorem Pt.lies {p : Pt} (h : p.Ok) {w : World} {g : Nat} (b : Blk w g 120 p.cs) : Lies w (some ⟨g, 4, none⟩) p.l := by
  refine .inr ⟨g, 4, rfl, b.lt, fun i hi => ?_⟩
  rw [b.cell, Pt.c4]
  simp [hi, byc]

set_option maxRecDepth 100000 in
set_option maxHeartbeats 1000000 in
theorem head_any (p : Pt) (h : p.Ok) (w : World) : Calls Try.prog 78 #[.agg p.cs] w fun e w' =>
    ∃ g, e = .returned (.slice (some ⟨g, 0, none⟩) 12 12) ∧ w.heap.size ≤ g ∧ Own w' g p.head ∧ Below w.heap.size w w' := by
  obtain ⟨W, hW⟩ : ∃ W, w.alloc (.cells p.cs 120) = W := ⟨_, rfl⟩
  have bx : Blk W w.heap.size 120 p.cs := by rw [← hW]; exact Blk.new _ _ _
  have hb : Below w.heap.size w W := by rw [← hW]; exact (Below.refl _ _).alloc (Nat.le_refl _) _
  have c0 := (bx.cell 0).trans p.c0
  have c1 := (bx.cell 1).trans p.c1
  have c2 := (bx.cell 2).trans p.c2
  have c3 := (bx.cell 3).trans p.c3
  have HB := Lib.hid (And.intro bx hb)
  have hn0 : Lies W none [] := .inl rfl
  have h1 := h.t
  have h2 := h.n
  have h3 := h.bh
  have h4 := h.sz
  clear h bx hb
  unfold Pt.head
  generalize p.cs = cs at *
  generalize p.t = a at *
  generalize p.n = b at *
  generalize p.bh = c at *
  generalize p.sz = d at *
  go_enter Try.func78, Try.ntmps78
  go_wp2_with fail
  clear hW
  go_region_held3 (fun w' => w'.cell? ⟨w.heap.size, 0, none⟩ = some (.int .u32 (a : Int)) ∧ w'.cell? ⟨w.heap.size, 1, none⟩ = some (.int .u32 (b : Int))) (first | exact ⟨c0b, c1b⟩ | exact ⟨c0a, c1a⟩ | exact ⟨c0, c1⟩) (first | (go_at_call 62; (with_reducible refine (put32_any none 0 0 [] a _ rfl (by omega) ?_ (by omega)).mono ?_); (exact .inl rfl); rintro e w4 ⟨rfl, hO4, hB4⟩; have c0a : w4.cell? ⟨w.heap.size, 0, none⟩ = some (.int .u32 (a : Int)) := (hB4.cell (p := ⟨w.heap.size, 0, none⟩) (by exact HB.out.1.lt)).trans (by exact c0); have c1a : w4.cell? ⟨w.heap.size, 1, none⟩ = some (.int .u32 (b : Int)) := (hB4.cell (p := ⟨w.heap.size, 1, none⟩) (by exact HB.out.1.lt)).trans (by exact c1)) | (go_at_call 62; (with_reducible refine (put32_any _ 4 4 ([] ++ highB a 4) b _ (by simp [length_highB]) (by omega) ?_ (by omega)).mono ?_); (exact hO4.lies); rintro e w5 ⟨rfl, hO5, hB5⟩; have c0b : w5.cell? ⟨w.heap.size, 0, none⟩ = some (.int .u32 (a : Int)) := (hB5.cell (p := ⟨w.heap.size, 0, none⟩) (by have := hB4.size; exact Nat.lt_of_lt_of_le HB.out.1.lt this)).trans (by exact c0a); have c1b : w5.cell? ⟨w.heap.size, 1, none⟩ = some (.int .u32 (b : Int)) := (hB5.cell (p := ⟨w.heap.size, 1, none⟩) (by have := hB4.size; exact Nat.lt_of_lt_of_le HB.out.1.lt this)).trans (by exact c1a)))
  have hbx5 : Below W.heap.size W w5 := by
    have h54 : Below W.heap.size w4 w5 := hB5.mono (by have := hB4.size; exact this)
    exact ⟨h54.os.trans hB4.os, h54.tape.trans hB4.tape, h54.output.trans hB4.output, Nat.le_trans hB4.size h54.size, fun k hk => (h54.block k hk).trans (hB4.block k hk)⟩
  have e2 : w5.cell? ⟨w.heap.size, 2, none⟩ = some (.int .u16 (c : Int)) := (hbx5.cell (p := ⟨w.heap.size, 2, none⟩) (by exact HB.out.1.lt)).trans c2
  have e3 : w5.cell? ⟨w.heap.size, 3, none⟩ = some (.int .u16 (d : Int)) := (hbx5.cell (p := ⟨w.heap.size, 3, none⟩) (by exact HB.out.1.lt)).trans c3
  have hlt5 : w.heap.size < w5.heap.size := Nat.lt_of_lt_of_le HB.out.1.lt hbx5.size
  have H5 := Lib.hid hbx5
  clear c0 c1 c2 c3 c0a c1a c0b c1b hB4 hO4 hn0 hB5 hbx5
  generalize hL5 : ([] ++ highB a 4 ++ highB b 4) = L5 at *
  have hl5 : L5.length = 8 := by rw [← hL5]; simp [length_highB]
  have HL5 := Lib.hid (And.intro hL5 hl5)
  clear hL5 hl5
  generalize w4.heap.size = g4 at *
  go_wp2_with fail
  go_region_held3 (fun w' => w'.cell? ⟨w.heap.size, 2, none⟩ = some (.int .u16 (c : Int)) ∧ w'.cell? ⟨w.heap.size, 3, none⟩ = some (.int .u16 (d : Int))) (first | exact ⟨e2b, e3b⟩ | exact ⟨e2a, e3a⟩ | exact ⟨e2, e3⟩) (first | (go_at_call 91; (with_reducible refine (put16_any _ 8 8 L5 c _ HL5.out.2 (by omega) ?_ (by omega)).mono ?_); (exact hO5.lies); rintro e w6 ⟨rfl, hO6, hB6⟩; have e2a : w6.cell? ⟨w.heap.size, 2, none⟩ = some (.int .u16 (c : Int)) := (hB6.cell (p := ⟨w.heap.size, 2, none⟩) (by exact hlt5)).trans (by exact e2); have e3a : w6.cell? ⟨w.heap.size, 3, none⟩ = some (.int .u16 (d : Int)) := (hB6.cell (p := ⟨w.heap.size, 3, none⟩) (by exact hlt5)).trans (by exact e3)) | (go_at_call 91; (with_reducible refine (put16_any _ 10 10 (L5 ++ highB c 2) d _ (by rw [List.length_append, HL5.out.2, length_highB]) (by omega) ?_ (by omega)).mono ?_); (exact hO6.lies); rintro e w7 ⟨rfl, hO7, hB7⟩; have e2b : w7.cell? ⟨w.heap.size, 2, none⟩ = some (.int .u16 (c : Int)) := (hB7.cell (p := ⟨w.heap.size, 2, none⟩) (by have := hB6.size; exact Nat.lt_of_lt_of_le hlt5 this)).trans (by exact e2a); have e3b : w7.cell? ⟨w.heap.size, 3, none⟩ = some (.int .u16 (d : Int)) := (hB7.cell (p := ⟨w.heap.size, 3, none⟩) (by have := hB6.size; exact Nat.lt_of_lt_of_le hlt5 this)).trans (by exact e3a)))
  have hb7 : Below w5.heap.size w5 w7 := by
    have h76 : Below w5.heap.size w6 w7 := hB7.mono (by have := hB6.size; exact this)
    exact ⟨h76.os.trans hB6.os, h76.tape.trans hB6.tape, h76.output.trans hB6.output, Nat.le_trans hB6.size h76.size, fun k hk => (h76.block k hk).trans (hB6.block k hk)⟩
  have hfin : Below w.heap.size w w7 := HB.out.2.trans ((H5.out.mono HB.out.2.size).trans (hb7.mono (Nat.le_trans HB.out.2.size H5.out.size)))
  have hg6 : w.heap.size ≤ w6.heap.size := by
    have h9 : w5.heap.size ≤ w6.heap.size := hB6.size
    omega
  have hOf : Own w7 w6.heap.size (((highB a 4 ++ highB b 4) ++ highB c 2) ++ highB d 2) := by
    rw [← HL5.out.1] at hO7
    exact hO7
  go_wp2_with fail
  go_ret
  exact ⟨_, rfl, hg6, hOf, hfin⟩

/-! ### check -/
theorem s_part {p : Pt} (h : p.l.length = 48) : (Try.prog.info? 120).map (·.size) = some p.cs.size := by rw [Pt.size h]; kernel_rfl
theorem load_part_rule (v : Value) : Instr.loadAt 120 v = loadSem 120 v := rfl
theorem store_part_rule (v x : Value) : Instr.storeAt 120 v x = storeSem 120 v x := rfl
theorem lpart {w : World} {g : Nat} {p : Pt} (h : Blk w g 120 p.cs) (h8 : p.l.length = 48) : (loadSem 120 (.pointer (some ⟨g, 0, none⟩))).run Try.prog w = .ok (.agg p.cs) w :=
  loadRes_of h (fun j _ => by rw [Nat.zero_add]) _ Try.underlying120 rfl (s_part h8)

attribute [local go_sem ↓] load_part_rule store_part_rule

set_option maxRecDepth 100000 in
set_option maxHeartbeats 1000000 in
theorem check_any (p : Pt) (h : p.Ok) (w : World) : Calls Try.prog 79 #[.agg p.cs] w fun e w' =>
    e = .returned (.int .u32 (p.sum : Int)) ∧ Below w.heap.size w w' := by
  obtain ⟨W, hW⟩ : ∃ W, w.alloc (.cells p.cs 120) = W := ⟨_, rfl⟩
  have bx : Blk W w.heap.size 120 p.cs := by rw [← hW]; exact Blk.new _ _ _
  have hb : Below w.heap.size w W := by rw [← hW]; exact (Below.refl _ _).alloc (Nat.le_refl _) _
  have L : (loadSem 120 (.pointer (some ⟨w.heap.size, 0, none⟩))).run Try.prog W.drew = .ok (.agg p.cs) W.drew := lpart (w := W.drew) bx h.len
  have hcall := head_any p h W.drew
  have HB := Lib.hid (And.intro bx hb)
  have HP := Lib.hid h
  clear h bx hb
  unfold Pt.sum
  generalize hcs : p.cs = cs at *
  have HC := Lib.hid hcs
  clear hcs
  go_enter Try.func79, Try.ntmps79
  go_wp2_with fail
  clear hW
  go_region_held3 (fun w' => (loadSem 120 (.pointer (some ⟨w.heap.size, 0, none⟩))).run Try.prog w' = .ok (.agg cs) w') (first | exact L6 | exact L5 | exact L4 | exact L) (first | (go_at_call 78; refine hcall.mono ?_; rintro e w4 ⟨g, rfl, hg4, hO4, hB4⟩; have bx4 : Blk w4 w.heap.size 120 p.cs := by { rw [HC.out]; exact (HB.out.1.drew).kept (Kept.of_below [] hB4) (by simp) }; have L4 := lpart bx4 HP.out.len; rw [HC.out] at L4; have HX4 := Lib.hid bx4; clear bx4) | (go_at_call 81; (with_reducible refine (sum_any _ 12 12 p.head _ p.head_len (by omega) p.head_bys ?_).mono ?_); (exact hO4.lies); rintro e w5 ⟨rfl, hB5⟩; have bx5 : Blk w5 w.heap.size 120 p.cs := HX4.out.kept (Kept.of_below [] hB5) (by simp); have L5 := lpart bx5 HP.out.len; rw [HC.out] at L5; have HX5 := Lib.hid bx5; clear bx5) | (go_at_call 92; (with_reducible refine (on_any (goS 1 p.head) (some ⟨w.heap.size, 4, none⟩) 48 48 p.l _ HP.out.len (by omega) HP.out.bys ?_ ?_).mono ?_); (exact Pt.lies HP.out HX5.out); (have := goS_lt 1 p.head; omega); rintro e w6 ⟨rfl, hB6⟩; have L6 := lpart (HX5.out.kept (Kept.of_below [] hB6) (by simp)) HP.out.len; rw [HC.out] at L6))
  have h1 : Below w.heap.size w w4 := HB.out.2.trans ((show Below W.heap.size W w4 from ⟨hB4.os, hB4.tape, hB4.output, hB4.size, hB4.block⟩).mono HB.out.2.size)
  have h2 : Below w.heap.size w w5 := h1.trans (hB5.mono h1.size)
  have h3 : Below w.heap.size w w6 := h2.trans (hB6.mono h2.size)
  go_wp2_with fail
  go_ret
  exact ⟨rfl, h3⟩

/-! ### block -/
theorem wlblk {w : World} {g : Nat} {b : Bk} (h : Blk w g 77 b.cs) : (loadSem 77 (.pointer (some ⟨g, 0, none⟩))).run Try.prog w = .ok (.agg b.cs) w :=
  loadRes_of h (fun j _ => by rw [Nat.zero_add]) _ Try.underlying77 rfl (s_blk b)
theorem wsblk {w : World} {g : Nat} {b c : Bk} (h : Blk w g 77 b.cs) : (storeSem 77 (.pointer (some ⟨g, 0, none⟩)) (.agg c.cs)).run Try.prog w = .ok () (w.setRow g c.cs) := by
  have := storeRes_of (P := Try.prog) (ty := 77) (o := 0) (vs := c.cs) h (by rw [Bk.size, Bk.size]; omega) (s_blk c) c.one
  rwa [over_all (by rw [Bk.size, Bk.size])] at this
attribute [local go_sem ↓] load_blk_rule store_blk_rule

theorem Blk.wnew2 (w : World) (o : Obj) (t : TypeId) (cs : Array Value) : Blk ((w.alloc o).alloc (.cells cs t)) (w.heap.size + 1) t cs := by
  have := Blk.new (w.alloc o) t cs
  rwa [World.size_alloc] at this
theorem Bk.zero_cs : Bk.zero.cs = ((List.replicate 64 0).map byc).toArray := by
  simp [Bk.zero, Bk.cs, byc, List.map_replicate]
/-- Bytes laid over a block. -/
theorem over_bytes (l m : List Nat) (o : Nat) (h : o + m.length ≤ l.length) : over (l.map byc).toArray o (m.map byc).toArray = ((l.take o ++ m ++ l.drop (o + m.length)).map byc).toArray := by
  unfold over splice
  simp [List.map_take, List.map_drop, List.append_assoc]

def wcopySem (ty : TypeId) (args : Array Value) : Sem Value := Builtin.copy_ #[22, 22] ty args
theorem wcopy_rule (ty : TypeId) (args : Array Value) : Builtin.copy_ #[22, 22] ty args = wcopySem ty args := rfl
theorem copy_run {w : World} {g o dLen dCap sLen sCap : Nat} {sp : Option Addr} {t ty : TypeId} {l m : List Nat} (h : Blk w g t (l.map byc).toArray) (hL : Lies w sp m) (hn : m.length = min sLen dLen) (h0 : 0 < m.length) (hf : o + m.length ≤ l.length) :
    (wcopySem ty #[.slice (some ⟨g, o, none⟩) dLen dCap, .slice sp sLen sCap]).run Try.prog w = .ok (goInt m.length) (w.setRow g ((l.take o ++ m ++ l.drop (o + m.length)).map byc).toArray) := by
  obtain ⟨ad, rfl, hsrc⟩ := hL.cells h0
  have := run_copy_row (P := Try.prog) w 22 22 ty 5 g o dLen dCap ad sLen sCap (l.map byc).toArray t (m.map byc) Try.underlying22 Try.size5 h (by simp [hn]) hsrc (by simpa using hf) (byc_one m)
  simp only [List.length_map] at this
  rw [wcopySem, this]
  simp [List.map_take, List.map_drop, List.append_assoc]
theorem copy_run0 {w : World} {d sp : Option Addr} {dLen dCap sLen sCap : Nat} {ty : TypeId} (hn : min sLen dLen = 0) :
    (wcopySem ty #[.slice d dLen dCap, .slice sp sLen sCap]).run Try.prog w = .ok (goInt 0) w :=
  run_copy_none (P := Try.prog) w 22 22 ty 5 d sp dLen dCap sLen sCap Try.underlying22 Try.size5 hn

theorem block_copy {p : Pt} (h : p.Ok) {w : World} {g q : Nat} (hb : Blk w g 77 ((List.replicate 16 0 ++ p.l).map byc).toArray) (hO : Own w q (p.head ++ highB p.sum 4)) :
    (wcopySem 3 #[.slice (some ⟨g, 0, none⟩) 64 64, .slice (some ⟨q, 0, none⟩) 16 16]).run Try.prog w = .ok (goInt 16) (w.setRow g p.blk.cs) := by
  have hl : (p.head ++ highB p.sum 4).length = 16 := by simp [Pt.head_len, length_highB]
  have h9 := copy_run (w := w) (g := g) (o := 0) (dLen := 64) (dCap := 64) (sLen := 16) (sCap := 16) (sp := some ⟨q, 0, none⟩) (t := 77) (ty := 3) (l := List.replicate 16 0 ++ p.l) (m := p.head ++ highB p.sum 4) hb hO.lies (by rw [hl]; rfl) (by rw [hl]; omega) (by rw [hl]; simp)
  rw [hl] at h9
  rw [h9]
  rw [Pt.blk, Bk.of_cs _ (Pt.bytes_len h.len)]
  simp [Pt.bytes]

attribute [local go_sem ↓] wcopy_rule load_blk_rule store_blk_rule

set_option maxRecDepth 100000 in
set_option maxHeartbeats 2000000 in
theorem pblock_any (p : Pt) (h : p.Ok) (w : World) : Calls Try.prog 61 #[.agg p.cs] w fun e w' =>
    e = .returned (.agg p.blk.cs) ∧ Below w.heap.size w w' := by
  obtain ⟨W, hW⟩ : ∃ W, w.alloc (.cells p.cs 120) = W := ⟨_, rfl⟩
  have bx : Blk W w.heap.size 120 p.cs := by rw [← hW]; exact Blk.new _ _ _
  have hb : Below w.heap.size w W := by rw [← hW]; exact (Below.refl _ _).alloc (Nat.le_refl _) _
  have hs : W.heap.size = w.heap.size + 1 := by rw [← hW]; simp
  have HB := Lib.hid (And.intro bx hb)
  have HP := Lib.hid h
  clear h bx hb
  generalize hcs : p.cs = cs at *
  have HC := Lib.hid hcs
  clear hcs
  go_enter Try.func61, Try.ntmps61
  obtain ⟨W1, hW1⟩ : ∃ W1, (W.alloc (.cells Bk.zero.cs 77)).alloc (.cells Bk.zero.cs 77) = W1 := ⟨_, rfl⟩
  have b2 : Blk W1 (w.heap.size + 1) 77 Bk.zero.cs := by rw [← hW1, ← hs]; exact (Blk.new W _ _).alloc _
  have b3 : Blk W1 (w.heap.size + 2) 77 Bk.zero.cs := by rw [← hW1]; have := Blk.wnew2 W (.cells Bk.zero.cs 77) 77 Bk.zero.cs; rwa [hs] at this
  have b1 : Blk W1 w.heap.size 120 p.cs := by rw [← hW1, HC.out]; exact (HB.out.1.alloc _).alloc _
  have hb1 : Below w.heap.size w W1 := by rw [← hW1]; exact (HB.out.2.alloc (by omega) _).alloc (by simp; omega) _
  have hs1 : W1.heap.size = w.heap.size + 3 := by rw [← hW1]; simp [hs]
  have C1 : (wcopySem 3 #[.slice (some ⟨w.heap.size + 2, 16, none⟩) 48 48, .slice (some ⟨w.heap.size, 4, none⟩) 48 48]).run Try.prog W1.drew = .ok (goInt 48) (W1.drew.setRow (w.heap.size + 2) ((List.replicate 16 0 ++ p.l).map byc).toArray) := by
    have h9 := copy_run (w := W1.drew) (g := w.heap.size + 2) (o := 16) (dLen := 48) (dCap := 48) (sLen := 48) (sCap := 48) (sp := some ⟨w.heap.size, 4, none⟩) (t := 77) (ty := 3) (l := List.replicate 64 0) (m := p.l) (by rw [← Bk.zero_cs]; exact b3) (Pt.lies HP.out b1) (by rw [HP.out.len]; rfl) (by rw [HP.out.len]; omega) (by rw [HP.out.len]; simp)
    rw [HP.out.len] at h9
    rw [h9]
    simp
  obtain ⟨Z, hZ⟩ : ∃ Z, ((List.replicate 16 0 ++ p.l).map byc).toArray = Z := ⟨_, rfl⟩
  rw [hZ] at C1
  have HZ := Lib.hid hZ
  clear hZ
  go_wp2_with (first | (with_reducible refine wpList_alloc_z rfl 77 rfl Bk.zero.cs 64 z_blk ?_))
  rw [World.size_alloc, hs, hW1]
  have HW1 := Lib.hid (And.intro hb1 (And.intro b1 (And.intro b2 (And.intro b3 hs1))))
  clear hb1 b1 b2 b3 hs1 hW1 hW
  go_region
  obtain ⟨W2, hW2⟩ : ∃ W2, W1.drew.setRow (w.heap.size + 2) Z = W2 := ⟨_, rfl⟩
  rw [hW2]
  have b1 : Blk W2 w.heap.size 120 p.cs := by rw [← hW2]; exact (HW1.out.2.1.drew).kept (S := [w.heap.size + 2]) ((Kept.refl _ _).setRow (.inl (by simp)) _) (by simp)
  have b2 : Blk W2 (w.heap.size + 1) 77 Bk.zero.cs := by rw [← hW2]; exact (HW1.out.2.2.1.drew).kept (S := [w.heap.size + 2]) ((Kept.refl _ _).setRow (.inl (by simp)) _) (by simp)
  have b3 : Blk W2 (w.heap.size + 2) 77 ((List.replicate 16 0 ++ p.l).map byc).toArray := by rw [← hW2, HZ.out]; exact (HW1.out.2.2.2.1.drew).row _
  have hb2 : Below w.heap.size w W2 := by rw [← hW2]; exact below_setRow HW1.out.1.drew (by omega) _
  have hs2 : W2.heap.size = w.heap.size + 3 := by rw [← hW2]; exact (by simp : (W1.drew.setRow (w.heap.size + 2) Z).heap.size = W1.heap.size).trans HW1.out.2.2.2.2
  have L := lpart (w := W2.drew) b1 HP.out.len
  rw [HC.out] at L
  have hcall := head_any p HP.out W2.drew
  rw [HC.out] at hcall
  have H2 := Lib.hid (And.intro hb2 (And.intro b1 (And.intro b2 (And.intro b3 hs2))))
  clear C1 hW2 hb2 b1 b2 b3 hs2
  go_wp2_with fail
  go_region_held3 (fun w' => (loadSem 120 (.pointer (some ⟨w.heap.size, 0, none⟩))).run Try.prog w' = .ok (.agg cs) w') (first | exact L7 | exact L6 | exact L5 | exact L4 | exact L) (first | (go_at_call 78; refine hcall.mono ?_; rintro e w4 ⟨g, rfl, hg4, hO4, hB4⟩; have bx4 : Blk w4 w.heap.size 120 p.cs := (H2.out.2.1.drew).kept (Kept.of_below [] hB4) (by simp); have L4 := lpart bx4 HP.out.len; rw [HC.out] at L4; have HX4 := Lib.hid bx4; clear bx4; have hcall2 := check_any p HP.out w4; rw [HC.out] at hcall2) | (go_at_call 79; refine hcall2.mono ?_; rintro e w5 ⟨rfl, hB5⟩; have bx5 : Blk w5 w.heap.size 120 p.cs := HX4.out.kept (Kept.of_below [] hB5) (by simp); have L5 := lpart bx5 HP.out.len; rw [HC.out] at L5; have HX5 := Lib.hid bx5; clear bx5) | (go_at_call 62; (with_reducible refine (put32_any _ 12 12 p.head p.sum _ p.head_len (by omega) ?_ (by have := p.sum_lt; omega)).mono ?_); (exact (hO4.kept' hB5).lies); rintro e w6 ⟨rfl, hO6, hB6⟩; have bx6 : Blk w6 w.heap.size 120 p.cs := HX5.out.kept (Kept.of_below [] hB6) (by simp); have L6 := lpart bx6 HP.out.len; rw [HC.out] at L6; have C6 := block_copy (w := w6) (g := w.heap.size + 2) (q := w5.heap.size) HP.out (((H2.out.2.2.2.1.drew.kept (Kept.of_below [] hB4) (by simp)).kept (Kept.of_below [] hB5) (by simp)).kept (Kept.of_below [] hB6) (by simp)) (by exact hO6); have L7 := lpart (w := w6.setRow (w.heap.size + 2) p.blk.cs) (g := w.heap.size) (p := p) (bx6.kept (S := [w.heap.size + 2]) ((Kept.refl _ _).setRow (.inl (by simp)) p.blk.cs) (by simp)) HP.out.len; rw [HC.out] at L7; have HX6 := Lib.hid bx6; clear bx6))
  have b3 : Blk w6 (w.heap.size + 2) 77 ((List.replicate 16 0 ++ p.l).map byc).toArray := (((H2.out.2.2.2.1.drew.kept (Kept.of_below [] hB4) (by simp)).kept (Kept.of_below [] hB5) (by simp)).kept (Kept.of_below [] hB6) (by simp))
  have b2 : Blk w6 (w.heap.size + 1) 77 Bk.zero.cs := (((H2.out.2.2.1.drew.kept (Kept.of_below [] hB4) (by simp)).kept (Kept.of_below [] hB5) (by simp)).kept (Kept.of_below [] hB6) (by simp))
  have hb6 : Below w.heap.size w w6 := by
    have h1 : Below w.heap.size w w4 := H2.out.1.trans ((show Below W2.heap.size W2 w4 from ⟨hB4.os, hB4.tape, hB4.output, hB4.size, hB4.block⟩).mono H2.out.1.size)
    have h2 := h1.trans (hB5.mono h1.size)
    exact h2.trans (hB6.mono h2.size)
  obtain ⟨W9, hW9⟩ : ∃ W9, w6.setRow (w.heap.size + 2) p.blk.cs = W9 := ⟨_, rfl⟩
  rw [hW9]
  have b3 : Blk W9 (w.heap.size + 2) 77 p.blk.cs := by rw [← hW9]; exact b3.row _
  have b2 : Blk W9 (w.heap.size + 1) 77 Bk.zero.cs := by rw [← hW9]; exact b2.kept (S := [w.heap.size + 2]) ((Kept.refl _ _).setRow (.inl (by simp)) _) (by simp)
  have hb9 : Below w.heap.size w W9 := by rw [← hW9]; exact below_setRow hb6 (by omega) _
  have L9 := wlblk b3
  have S9 := wsblk (c := p.blk) b2
  have hE : Blk (W9.setRow (w.heap.size + 1) p.blk.cs) (w.heap.size + 1) 77 p.blk.cs := b2.row _
  have HE := Lib.hid (And.intro hE (below_setRow hb9 (show w.heap.size ≤ w.heap.size + 1 by omega) p.blk.cs))
  clear L L4 L5 L6 L7 C6 hcall hcall2 hO4 hB4 hB5 hO6 hB6 hb6 hb9 hE hW9 b3 b2 HB
  have hs64 := s_blk p.blk
  generalize hq : p.blk.cs = q at *
  have HQ := Lib.hid hq
  clear hq
  go_wp2_with fail
  refine bodyPost_ret (results_cell_row rfl _ _ (w.heap.size + 1) 77 _ (0, 0) _ rfl HE.out.1 Try.underlying77 rfl hs64) rfl ?_
  exact ⟨by rw [HQ.out], HE.out.2⟩
end Go.Proofs.Ytkfpkolgikpcpaa
