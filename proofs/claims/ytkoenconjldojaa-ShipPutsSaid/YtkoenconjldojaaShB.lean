/-
  Places, bases, views, journals, messages, changes: as cells, and what is loaded and stored of them. Nothing here is a statement of the document.
-/
import Derived.Test.YtkoenconjldojaaShA
import Derived.Laws.ResultCell
import Derived.Laws.Rows
import Derived.Laws.Bits64
import Derived.Laws.Small
import Derived.Lib.Hide
namespace Go.Proofs.Ytkoenconjldojaa
open Go.RowKit Go.Shelf
set_option linter.unusedVariables false
set_option linter.unusedSimpArgs false
set_option maxRecDepth 100000
def acs (i e : Int) : Array Value := #[.int .u64 i, .int .u64 e]
/-- The three clients' last entries. -/
structure La where
  s0 : Int
  i0 : Int
  s1 : Int
  i1 : Int
  s2 : Int
  i2 : Int
def La.cs (l : La) : Array Value := #[.int .u32 l.s0, .int .u64 l.i0, .int .u32 l.s1, .int .u64 l.i1, .int .u32 l.s2, .int .u64 l.i2]
def La.zero : La := ⟨0, 0, 0, 0, 0, 0⟩
noncomputable instance : DecidableEq La := fun _ _ => Classical.propDecidable _
/-- A base: its place, where its candidates lie, which they are, the clients' last entries. -/
structure Bs where
  i : Nat
  e : Int
  a : Option Addr
  n : Nat
  c : Nat
  l : La
  R : List Ro
def Bs.cs (b : Bs) : Array Value := #[.int .u64 b.i, .int .u64 b.e, .slice b.a b.n b.c, .int .u32 b.l.s0, .int .u64 b.l.i0, .int .u32 b.l.s1, .int .u64 b.l.i1, .int .u32 b.l.s2, .int .u64 b.l.i2]
def Bs.zero : Bs := ⟨0, 0, none, 0, 0, La.zero, []⟩
/-- A view, or a journal. -/
structure Vw where
  v : Int
  b : Bs
  a : Option Addr
  n : Nat
  c : Nat
  L : List En
def Vw.cs (v : Vw) : Array Value := #[.int .u64 v.v, .int .u64 v.b.i, .int .u64 v.b.e, .slice v.b.a v.b.n v.b.c, .int .u32 v.b.l.s0, .int .u64 v.b.l.i0, .int .u32 v.b.l.s1, .int .u64 v.b.l.i1, .int .u32 v.b.l.s2, .int .u64 v.b.l.i2, .slice v.a v.n v.c]
def Vw.zero : Vw := ⟨0, Bs.zero, none, 0, 0, []⟩
/-- A message. -/
structure Ms where
  kd : Int
  fr : Int
  to : Int
  ep : Int
  pi : Nat
  pe : Int
  a : Option Addr
  n : Nat
  c : Nat
  L : List En
  dn : Int
  ok : Bool
  ix : Nat
  st : Int
  b : Bs
  sq : Int
  ua : Option Addr
  un : Nat
  uc : Nat
  er : Int
def Ms.cs (m : Ms) : Array Value := #[.int .i64 m.kd, .int .i64 m.fr, .int .i64 m.to, .int .u64 m.ep, .int .u64 m.pi, .int .u64 m.pe, .slice m.a m.n m.c, .int .u64 m.dn, .bool m.ok, .int .u64 m.ix, .int .u64 m.st,
  .int .u64 m.b.i, .int .u64 m.b.e, .slice m.b.a m.b.n m.b.c, .int .u32 m.b.l.s0, .int .u64 m.b.l.i0, .int .u32 m.b.l.s1, .int .u64 m.b.l.i1, .int .u32 m.b.l.s2, .int .u64 m.b.l.i2, .int .u32 m.sq, .slice m.ua m.un m.uc, .int .i64 m.er]
def Ms.zero : Ms := ⟨0, 0, 0, 0, 0, 0, none, 0, 0, [], 0, false, 0, 0, Bs.zero, 0, none, 0, 0, 0⟩
/-- A change. -/
structure Ch where
  ok : Bool
  ix : Nat
  a : Option Addr
  n : Nat
  c : Nat
  L : List En
  hv : Nat
def Ch.cs (c : Ch) : Array Value := #[.bool c.ok, .int .u64 c.ix, .slice c.a c.n c.c, .int .u64 c.hv]
def Ch.zero : Ch := ⟨false, 0, none, 0, 0, [], 0⟩
theorem z_at : (Try.prog.info? 24).map (fun i => (i.zero, i.size)) = some (some (.agg (acs 0 0)), 2) := by kernel_rfl
theorem s_at (i e : Int) : (Try.prog.info? 24).map (·.size) = some ((acs i e) : Array Value).size := by
  show _ = some 2
  exact (zero_of_info z_at).2
theorem one_at (i e : Int) : ((acs i e) : Array Value).all (·.oneCell') = true := by simp [acs, La.cs, Bs.cs, Vw.cs, Ms.cs, Ch.cs, Value.oneCell']
theorem load_at_rule (v : Value) : Instr.loadAt 24 v = loadSem 24 v := rfl
theorem store_at_rule (v x : Value) : Instr.storeAt 24 v x = storeSem 24 v x := rfl
theorem ld_at {w : World} {g : Nat} {i e : Int} (h : Blk w g 24 (acs i e)) : (loadSem 24 (.pointer (some ⟨g, 0, none⟩))).run Try.prog w = .ok (.agg (acs i e)) w :=
  loadRes_of (w := w) h (fun j _ => by rw [Nat.zero_add]) _ Try.underlying24 rfl (s_at _ _)
theorem z_la : (Try.prog.info? 31).map (fun i => (i.zero, i.size)) = some (some (.agg La.zero.cs), 6) := by kernel_rfl
theorem s_la (l : La) : (Try.prog.info? 31).map (·.size) = some (l.cs : Array Value).size := by
  show _ = some 6
  exact (zero_of_info z_la).2
theorem one_la (l : La) : (l.cs : Array Value).all (·.oneCell') = true := by simp [acs, La.cs, Bs.cs, Vw.cs, Ms.cs, Ch.cs, Value.oneCell']
theorem load_la_rule (v : Value) : Instr.loadAt 31 v = loadSem 31 v := rfl
theorem store_la_rule (v x : Value) : Instr.storeAt 31 v x = storeSem 31 v x := rfl
theorem ld_la {w : World} {g : Nat} {l : La} (h : Blk w g 31 l.cs) : (loadSem 31 (.pointer (some ⟨g, 0, none⟩))).run Try.prog w = .ok (.agg l.cs) w :=
  loadRes_of (w := w) h (fun j _ => by rw [Nat.zero_add]) _ Try.underlying31 rfl (s_la _)
theorem z_bs : (Try.prog.info? 33).map (fun i => (i.zero, i.size)) = some (some (.agg Bs.zero.cs), 9) := by kernel_rfl
theorem s_bs (b : Bs) : (Try.prog.info? 33).map (·.size) = some (b.cs : Array Value).size := by
  show _ = some 9
  exact (zero_of_info z_bs).2
theorem one_bs (b : Bs) : (b.cs : Array Value).all (·.oneCell') = true := by simp [acs, La.cs, Bs.cs, Vw.cs, Ms.cs, Ch.cs, Value.oneCell']
theorem load_bs_rule (v : Value) : Instr.loadAt 33 v = loadSem 33 v := rfl
theorem store_bs_rule (v x : Value) : Instr.storeAt 33 v x = storeSem 33 v x := rfl
theorem ld_bs {w : World} {g : Nat} {b : Bs} (h : Blk w g 33 b.cs) : (loadSem 33 (.pointer (some ⟨g, 0, none⟩))).run Try.prog w = .ok (.agg b.cs) w :=
  loadRes_of (w := w) h (fun j _ => by rw [Nat.zero_add]) _ Try.underlying33 rfl (s_bs _)
theorem z_vw : (Try.prog.info? 36).map (fun i => (i.zero, i.size)) = some (some (.agg Vw.zero.cs), 11) := by kernel_rfl
theorem s_vw (v : Vw) : (Try.prog.info? 36).map (·.size) = some (v.cs : Array Value).size := by
  show _ = some 11
  exact (zero_of_info z_vw).2
theorem one_vw (v : Vw) : (v.cs : Array Value).all (·.oneCell') = true := by simp [acs, La.cs, Bs.cs, Vw.cs, Ms.cs, Ch.cs, Value.oneCell']
theorem load_vw_rule (v : Value) : Instr.loadAt 36 v = loadSem 36 v := rfl
theorem store_vw_rule (v x : Value) : Instr.storeAt 36 v x = storeSem 36 v x := rfl
theorem ld_vw {w : World} {g : Nat} {v : Vw} (h : Blk w g 36 v.cs) : (loadSem 36 (.pointer (some ⟨g, 0, none⟩))).run Try.prog w = .ok (.agg v.cs) w :=
  loadRes_of (w := w) h (fun j _ => by rw [Nat.zero_add]) _ Try.underlying36 rfl (s_vw _)
theorem z_jo : (Try.prog.info? 102).map (fun i => (i.zero, i.size)) = some (some (.agg Vw.zero.cs), 11) := by kernel_rfl
theorem s_jo (v : Vw) : (Try.prog.info? 102).map (·.size) = some (v.cs : Array Value).size := by
  show _ = some 11
  exact (zero_of_info z_jo).2
theorem one_jo (v : Vw) : (v.cs : Array Value).all (·.oneCell') = true := by simp [acs, La.cs, Bs.cs, Vw.cs, Ms.cs, Ch.cs, Value.oneCell']
theorem load_jo_rule (v : Value) : Instr.loadAt 102 v = loadSem 102 v := rfl
theorem store_jo_rule (v x : Value) : Instr.storeAt 102 v x = storeSem 102 v x := rfl
theorem ld_jo {w : World} {g : Nat} {v : Vw} (h : Blk w g 102 v.cs) : (loadSem 102 (.pointer (some ⟨g, 0, none⟩))).run Try.prog w = .ok (.agg v.cs) w :=
  loadRes_of (w := w) h (fun j _ => by rw [Nat.zero_add]) _ Try.underlying102 rfl (s_jo _)
theorem z_ms : (Try.prog.info? 47).map (fun i => (i.zero, i.size)) = some (some (.agg Ms.zero.cs), 23) := by kernel_rfl
theorem s_ms (m : Ms) : (Try.prog.info? 47).map (·.size) = some (m.cs : Array Value).size := by
  show _ = some 23
  exact (zero_of_info z_ms).2
theorem one_ms (m : Ms) : (m.cs : Array Value).all (·.oneCell') = true := by simp [acs, La.cs, Bs.cs, Vw.cs, Ms.cs, Ch.cs, Value.oneCell']
theorem load_ms_rule (v : Value) : Instr.loadAt 47 v = loadSem 47 v := rfl
theorem store_ms_rule (v x : Value) : Instr.storeAt 47 v x = storeSem 47 v x := rfl
theorem ld_ms {w : World} {g : Nat} {m : Ms} (h : Blk w g 47 m.cs) : (loadSem 47 (.pointer (some ⟨g, 0, none⟩))).run Try.prog w = .ok (.agg m.cs) w :=
  loadRes_of (w := w) h (fun j _ => by rw [Nat.zero_add]) _ Try.underlying47 rfl (s_ms _)
theorem z_ch : (Try.prog.info? 67).map (fun i => (i.zero, i.size)) = some (some (.agg Ch.zero.cs), 4) := by kernel_rfl
theorem s_ch (c : Ch) : (Try.prog.info? 67).map (·.size) = some (c.cs : Array Value).size := by
  show _ = some 4
  exact (zero_of_info z_ch).2
theorem one_ch (c : Ch) : (c.cs : Array Value).all (·.oneCell') = true := by simp [acs, La.cs, Bs.cs, Vw.cs, Ms.cs, Ch.cs, Value.oneCell']
theorem load_ch_rule (v : Value) : Instr.loadAt 67 v = loadSem 67 v := rfl
theorem store_ch_rule (v x : Value) : Instr.storeAt 67 v x = storeSem 67 v x := rfl
theorem ld_ch {w : World} {g : Nat} {c : Ch} (h : Blk w g 67 c.cs) : (loadSem 67 (.pointer (some ⟨g, 0, none⟩))).run Try.prog w = .ok (.agg c.cs) w :=
  loadRes_of (w := w) h (fun j _ => by rw [Nat.zero_add]) _ Try.underlying67 rfl (s_ch _)
theorem z_hd : (Try.prog.info? 45).map (fun i => (i.zero, i.size)) = some (some (.agg #[.slice none 0 0]), 1) := by kernel_rfl
theorem s_hd (a : Option Addr) (n c : Nat) : (Try.prog.info? 45).map (·.size) = some (#[.slice a n c] : Array Value).size := by
  show _ = some 1
  exact (zero_of_info z_hd).2
theorem one_hd (a : Option Addr) (n c : Nat) : (#[.slice a n c] : Array Value).all (·.oneCell') = true := by simp [acs, La.cs, Bs.cs, Vw.cs, Ms.cs, Ch.cs, Value.oneCell']
theorem load_hd_rule (v : Value) : Instr.loadAt 45 v = loadSem 45 v := rfl
theorem store_hd_rule (v x : Value) : Instr.storeAt 45 v x = storeSem 45 v x := rfl
theorem ld_hd {w : World} {g : Nat} {a : Option Addr} {n c : Nat} (h : Blk w g 45 #[.slice a n c]) : (loadSem 45 (.pointer (some ⟨g, 0, none⟩))).run Try.prog w = .ok (.agg #[.slice a n c]) w :=
  loadRes_of (w := w) h (fun j _ => by rw [Nat.zero_add]) _ Try.underlying45 rfl (s_hd _ _ _)
theorem z_rb : (Try.prog.info? 27).map (fun i => (i.zero, i.size)) = some (some (.agg #[.slice none 0 0]), 1) := by kernel_rfl
theorem s_rb (a : Option Addr) (n c : Nat) : (Try.prog.info? 27).map (·.size) = some (#[.slice a n c] : Array Value).size := by
  show _ = some 1
  exact (zero_of_info z_rb).2
theorem one_rb (a : Option Addr) (n c : Nat) : (#[.slice a n c] : Array Value).all (·.oneCell') = true := by simp [acs, La.cs, Bs.cs, Vw.cs, Ms.cs, Ch.cs, Value.oneCell']
theorem load_rb_rule (v : Value) : Instr.loadAt 27 v = loadSem 27 v := rfl
theorem store_rb_rule (v x : Value) : Instr.storeAt 27 v x = storeSem 27 v x := rfl
theorem ld_rb {w : World} {g : Nat} {a : Option Addr} {n c : Nat} (h : Blk w g 27 #[.slice a n c]) : (loadSem 27 (.pointer (some ⟨g, 0, none⟩))).run Try.prog w = .ok (.agg #[.slice a n c]) w :=
  loadRes_of (w := w) h (fun j _ => by rw [Nat.zero_add]) _ Try.underlying27 rfl (s_rb _ _ _)
theorem vw_bs {w : World} {g : Nat} {v : Vw} (h : Blk w g 36 v.cs) : (loadSem 33 (.pointer (some ⟨g, 1, none⟩))).run Try.prog w = .ok (.agg v.b.cs) w :=
  loadRes_of (w := w) (o := 1) h (fun j hj => by
    match j, hj with
    | 0, _ => rfl
    | 1, _ => rfl
    | 2, _ => rfl
    | 3, _ => rfl
    | 4, _ => rfl
    | 5, _ => rfl
    | 6, _ => rfl
    | 7, _ => rfl
    | 8, _ => rfl
    | j + 9, hj => exact absurd hj (by intro h; have h2 : j + 9 < 9 := h; omega)) _ Try.underlying33 rfl (s_bs v.b)
theorem vw_at {w : World} {g : Nat} {v : Vw} (h : Blk w g 36 v.cs) : (loadSem 24 (.pointer (some ⟨g, 1, none⟩))).run Try.prog w = .ok (.agg (acs v.b.i v.b.e)) w :=
  loadRes_of (w := w) (o := 1) h (fun j hj => by
    match j, hj with
    | 0, _ => rfl
    | 1, _ => rfl
    | j + 2, hj => exact absurd hj (by intro h; have h2 : j + 2 < 2 := h; omega)) _ Try.underlying24 rfl (s_at _ _)
theorem jo_bs {w : World} {g : Nat} {v : Vw} (h : Blk w g 102 v.cs) : (loadSem 33 (.pointer (some ⟨g, 1, none⟩))).run Try.prog w = .ok (.agg v.b.cs) w :=
  loadRes_of (w := w) (o := 1) h (fun j hj => by
    match j, hj with
    | 0, _ => rfl
    | 1, _ => rfl
    | 2, _ => rfl
    | 3, _ => rfl
    | 4, _ => rfl
    | 5, _ => rfl
    | 6, _ => rfl
    | 7, _ => rfl
    | 8, _ => rfl
    | j + 9, hj => exact absurd hj (by intro h; have h2 : j + 9 < 9 := h; omega)) _ Try.underlying33 rfl (s_bs v.b)
theorem jo_at {w : World} {g : Nat} {v : Vw} (h : Blk w g 102 v.cs) : (loadSem 24 (.pointer (some ⟨g, 1, none⟩))).run Try.prog w = .ok (.agg (acs v.b.i v.b.e)) w :=
  loadRes_of (w := w) (o := 1) h (fun j hj => by
    match j, hj with
    | 0, _ => rfl
    | 1, _ => rfl
    | j + 2, hj => exact absurd hj (by intro h; have h2 : j + 2 < 2 := h; omega)) _ Try.underlying24 rfl (s_at _ _)
theorem bs_at {w : World} {g : Nat} {b : Bs} (h : Blk w g 33 b.cs) : (loadSem 24 (.pointer (some ⟨g, 0, none⟩))).run Try.prog w = .ok (.agg (acs b.i b.e)) w :=
  loadRes_of (w := w) (o := 0) h (fun j hj => by
    match j, hj with
    | 0, _ => rfl
    | 1, _ => rfl
    | j + 2, hj => exact absurd hj (by intro h; have h2 : j + 2 < 2 := h; omega)) _ Try.underlying24 rfl (s_at _ _)
theorem bs_la {w : World} {g : Nat} {b : Bs} (h : Blk w g 33 b.cs) : (loadSem 31 (.pointer (some ⟨g, 3, none⟩))).run Try.prog w = .ok (.agg b.l.cs) w :=
  loadRes_of (w := w) (o := 3) h (fun j hj => by
    match j, hj with
    | 0, _ => rfl
    | 1, _ => rfl
    | 2, _ => rfl
    | 3, _ => rfl
    | 4, _ => rfl
    | 5, _ => rfl
    | j + 6, hj => exact absurd hj (by intro h; have h2 : j + 6 < 6 := h; omega)) _ Try.underlying31 rfl (s_la _)
theorem bs_rb {w : World} {g : Nat} {b : Bs} (h : Blk w g 33 b.cs) : (loadSem 27 (.pointer (some ⟨g, 2, none⟩))).run Try.prog w = .ok (.agg #[.slice b.a b.n b.c]) w :=
  loadRes_of (w := w) (o := 2) h (fun j hj => by
    match j, hj with
    | 0, _ => rfl
    | j + 1, hj => exact absurd hj (by intro h; have h2 : j + 1 < 1 := h; omega)) _ Try.underlying27 rfl (s_rb _ _ _)
theorem ms_at {w : World} {g : Nat} {m : Ms} (h : Blk w g 47 m.cs) : (loadSem 24 (.pointer (some ⟨g, 4, none⟩))).run Try.prog w = .ok (.agg (acs m.pi m.pe)) w :=
  loadRes_of (w := w) (o := 4) h (fun j hj => by
    match j, hj with
    | 0, _ => rfl
    | 1, _ => rfl
    | j + 2, hj => exact absurd hj (by intro h; have h2 : j + 2 < 2 := h; omega)) _ Try.underlying24 rfl (s_at _ _)
theorem ms_bs {w : World} {g : Nat} {m : Ms} (h : Blk w g 47 m.cs) : (loadSem 33 (.pointer (some ⟨g, 11, none⟩))).run Try.prog w = .ok (.agg m.b.cs) w :=
  loadRes_of (w := w) (o := 11) h (fun j hj => by
    match j, hj with
    | 0, _ => rfl
    | 1, _ => rfl
    | 2, _ => rfl
    | 3, _ => rfl
    | 4, _ => rfl
    | 5, _ => rfl
    | 6, _ => rfl
    | 7, _ => rfl
    | 8, _ => rfl
    | j + 9, hj => exact absurd hj (by intro h; have h2 : j + 9 < 9 := h; omega)) _ Try.underlying33 rfl (s_bs m.b)
theorem ms_ba {w : World} {g : Nat} {m : Ms} (h : Blk w g 47 m.cs) : (loadSem 24 (.pointer (some ⟨g, 11, none⟩))).run Try.prog w = .ok (.agg (acs m.b.i m.b.e)) w :=
  loadRes_of (w := w) (o := 11) h (fun j hj => by
    match j, hj with
    | 0, _ => rfl
    | 1, _ => rfl
    | j + 2, hj => exact absurd hj (by intro h; have h2 : j + 2 < 2 := h; omega)) _ Try.underlying24 rfl (s_at _ _)
theorem en_ba {w : World} {g : Nat} {r : En} (h : Blk w g 92 r.cs) : (loadSem 45 (.pointer (some ⟨g, 3, none⟩))).run Try.prog w = .ok (.agg #[.slice r.a r.n r.c]) w :=
  loadRes_of (w := w) (o := 3) h (fun j hj => by
    match j, hj with
    | 0, _ => rfl
    | j + 1, hj => exact absurd hj (by intro h; have h2 : j + 1 < 1 := h; omega)) _ Try.underlying45 rfl (s_hd _ _ _)
theorem st_at {w : World} {g : Nat} {i e i2 e2 : Int} (h : Blk w g 24 (acs i e)) : (storeSem 24 (.pointer (some ⟨g, 0, none⟩)) (.agg (acs i2 e2))).run Try.prog w = .ok () (w.setRow g (acs i2 e2)) :=
  storeRes_of (P := Try.prog) (ty := 24) (o := 0) (vs := (acs i2 e2)) h (by show _ ≤ _; simp [acs, Bs.cs, Vw.cs, Ms.cs, Ch.cs, En.cs]) (s_at _ _) (by simp [acs, La.cs, Bs.cs, Vw.cs, Ms.cs, Ch.cs, Value.oneCell'])
theorem st_bs {w : World} {g : Nat} {b b2 : Bs} (h : Blk w g 33 b.cs) : (storeSem 33 (.pointer (some ⟨g, 0, none⟩)) (.agg b2.cs)).run Try.prog w = .ok () (w.setRow g b2.cs) :=
  storeRes_of (P := Try.prog) (ty := 33) (o := 0) (vs := b2.cs) h (by show _ ≤ _; simp [acs, Bs.cs, Vw.cs, Ms.cs, Ch.cs, En.cs]) (s_bs _) (by simp [acs, La.cs, Bs.cs, Vw.cs, Ms.cs, Ch.cs, Value.oneCell'])
theorem st_vw {w : World} {g : Nat} {b b2 : Vw} (h : Blk w g 36 b.cs) : (storeSem 36 (.pointer (some ⟨g, 0, none⟩)) (.agg b2.cs)).run Try.prog w = .ok () (w.setRow g b2.cs) :=
  storeRes_of (P := Try.prog) (ty := 36) (o := 0) (vs := b2.cs) h (by show _ ≤ _; simp [acs, Bs.cs, Vw.cs, Ms.cs, Ch.cs, En.cs]) (s_vw _) (by simp [acs, La.cs, Bs.cs, Vw.cs, Ms.cs, Ch.cs, Value.oneCell'])
theorem st_jo {w : World} {g : Nat} {b b2 : Vw} (h : Blk w g 102 b.cs) : (storeSem 102 (.pointer (some ⟨g, 0, none⟩)) (.agg b2.cs)).run Try.prog w = .ok () (w.setRow g b2.cs) :=
  storeRes_of (P := Try.prog) (ty := 102) (o := 0) (vs := b2.cs) h (by show _ ≤ _; simp [acs, Bs.cs, Vw.cs, Ms.cs, Ch.cs, En.cs]) (s_jo _) (by simp [acs, La.cs, Bs.cs, Vw.cs, Ms.cs, Ch.cs, Value.oneCell'])
theorem st_ms {w : World} {g : Nat} {b b2 : Ms} (h : Blk w g 47 b.cs) : (storeSem 47 (.pointer (some ⟨g, 0, none⟩)) (.agg b2.cs)).run Try.prog w = .ok () (w.setRow g b2.cs) :=
  storeRes_of (P := Try.prog) (ty := 47) (o := 0) (vs := b2.cs) h (by show _ ≤ _; simp [acs, Bs.cs, Vw.cs, Ms.cs, Ch.cs, En.cs]) (s_ms _) (by simp [acs, La.cs, Bs.cs, Vw.cs, Ms.cs, Ch.cs, Value.oneCell'])
theorem st_ch {w : World} {g : Nat} {b b2 : Ch} (h : Blk w g 67 b.cs) : (storeSem 67 (.pointer (some ⟨g, 0, none⟩)) (.agg b2.cs)).run Try.prog w = .ok () (w.setRow g b2.cs) :=
  storeRes_of (P := Try.prog) (ty := 67) (o := 0) (vs := b2.cs) h (by show _ ≤ _; simp [acs, Bs.cs, Vw.cs, Ms.cs, Ch.cs, En.cs]) (s_ch _) (by simp [acs, La.cs, Bs.cs, Vw.cs, Ms.cs, Ch.cs, Value.oneCell'])
theorem st_hd {w : World} {g : Nat} {a a2 : Option Addr} {n c n2 c2 : Nat} (h : Blk w g 45 #[.slice a n c]) : (storeSem 45 (.pointer (some ⟨g, 0, none⟩)) (.agg #[.slice a2 n2 c2])).run Try.prog w = .ok () (w.setRow g #[.slice a2 n2 c2]) :=
  storeRes_of (P := Try.prog) (ty := 45) (o := 0) (vs := #[.slice a2 n2 c2]) h (by show _ ≤ _; simp [acs, Bs.cs, Vw.cs, Ms.cs, Ch.cs, En.cs]) (s_hd _ _ _) (by simp [acs, La.cs, Bs.cs, Vw.cs, Ms.cs, Ch.cs, Value.oneCell'])
theorem st_bsrb {w : World} {g : Nat} {b : Bs} {a2 : Option Addr} {n2 c2 : Nat} (R : List Ro) (h : Blk w g 33 b.cs) : (storeSem 27 (.pointer (some ⟨g, 2, none⟩)) (.agg #[.slice a2 n2 c2])).run Try.prog w = .ok () (w.setRow g ({ b with a := a2, n := n2, c := c2, R := R } : Bs).cs) :=
  storeRes_of (P := Try.prog) (ty := 27) (o := 2) (vs := #[.slice a2 n2 c2]) h (by show _ ≤ _; simp [acs, Bs.cs, Vw.cs, Ms.cs, Ch.cs, En.cs]) (s_rb _ _ _) (by simp [acs, La.cs, Bs.cs, Vw.cs, Ms.cs, Ch.cs, Value.oneCell'])
theorem st_enba {w : World} {g : Nat} {b : En} {a2 : Option Addr} {n2 c2 : Nat} (R : List Up) (h : Blk w g 92 b.cs) : (storeSem 45 (.pointer (some ⟨g, 3, none⟩)) (.agg #[.slice a2 n2 c2])).run Try.prog w = .ok () (w.setRow g ({ b with a := a2, n := n2, c := c2, U := R } : En).cs) :=
  storeRes_of (P := Try.prog) (ty := 45) (o := 3) (vs := #[.slice a2 n2 c2]) h (by show _ ≤ _; simp [acs, Bs.cs, Vw.cs, Ms.cs, Ch.cs, En.cs]) (s_hd _ _ _) (by simp [acs, La.cs, Bs.cs, Vw.cs, Ms.cs, Ch.cs, Value.oneCell'])
theorem st_msbs {w : World} {g : Nat} {b : Ms} {x : Bs} (h : Blk w g 47 b.cs) : (storeSem 33 (.pointer (some ⟨g, 11, none⟩)) (.agg x.cs)).run Try.prog w = .ok () (w.setRow g ({ b with b := x } : Ms).cs) :=
  storeRes_of (P := Try.prog) (ty := 33) (o := 11) (vs := x.cs) h (by show _ ≤ _; simp [acs, Bs.cs, Vw.cs, Ms.cs, Ch.cs, En.cs]) (s_bs _) (by simp [acs, La.cs, Bs.cs, Vw.cs, Ms.cs, Ch.cs, Value.oneCell'])
theorem st_msba {w : World} {g : Nat} {b : Ms} {a2 : Option Addr} {n2 c2 : Nat} (h : Blk w g 47 b.cs) : (storeSem 45 (.pointer (some ⟨g, 21, none⟩)) (.agg #[.slice a2 n2 c2])).run Try.prog w = .ok () (w.setRow g ({ b with ua := a2, un := n2, uc := c2 } : Ms).cs) :=
  storeRes_of (P := Try.prog) (ty := 45) (o := 21) (vs := #[.slice a2 n2 c2]) h (by show _ ≤ _; simp [acs, Bs.cs, Vw.cs, Ms.cs, Ch.cs, En.cs]) (s_hd _ _ _) (by simp [acs, La.cs, Bs.cs, Vw.cs, Ms.cs, Ch.cs, Value.oneCell'])
/-! ### Numbers of 64 bits, by names of their own, so that no walk reckons with great numbers -/
def gtU (a b : Int) : Bool := decide (a > b)
def leU (a b : Int) : Bool := decide (a ≤ b)
def ltU (a b : Int) : Bool := decide (a < b)
def geU (a b : Int) : Bool := decide (a ≥ b)
def eqU (a b : Int) : Bool := decide (a = b)
def adU (a b : Int) : Int := IntKind.u64.wrap (a + b)
def sbU (a b : Int) : Int := IntKind.u64.wrap (a - b)
theorem gtU_rule (t : TypeId) (a b : Int) : binOp .gtr t (.int .u64 a) (.int .u64 b) = pure (.bool (gtU a b)) := by simp [gtU, binOp, Op.intCmp]
theorem leU_rule (t : TypeId) (a b : Int) : binOp .leq t (.int .u64 a) (.int .u64 b) = pure (.bool (leU a b)) := by simp [leU, binOp, Op.intCmp]
theorem ltU_rule (t : TypeId) (a b : Int) : binOp .lss t (.int .u64 a) (.int .u64 b) = pure (.bool (ltU a b)) := by simp [ltU, binOp, Op.intCmp]
theorem geU_rule (t : TypeId) (a b : Int) : binOp .geq t (.int .u64 a) (.int .u64 b) = pure (.bool (geU a b)) := by simp [geU, binOp, Op.intCmp]
theorem adU_rule (t : TypeId) (a b : Int) : binOp .add t (.int .u64 a) (.int .u64 b) = pure (.int .u64 (adU a b)) := by simp [adU, binOp, Op.intArith]
theorem sbU_rule (t : TypeId) (a b : Int) : binOp .sub t (.int .u64 a) (.int .u64 b) = pure (.int .u64 (sbU a b)) := by simp [sbU, binOp, Op.intArith]
def mxU (x y : Int) : Int := if y > x then y else x
theorem mxU_rule {P : Program} (w : World) (ts : Array TypeId) (t : TypeId) (x y : Int) : (Builtin.max_ ts t #[.int .u64 x, .int .u64 y]).run P w = .ok (.int .u64 (mxU x y)) w := run_max_int2 w ts t .u64 .u64 x y
theorem mxU_nat (x y : Nat) : mxU (x : Int) (y : Int) = ((max x y : Nat) : Int) := by unfold mxU; split <;> omega
def mnU (x y : Int) : Int := if y < x then y else x
theorem mnU_rule {P : Program} (w : World) (ts : Array TypeId) (t : TypeId) (x y : Int) : (Builtin.min_ ts t #[.int .u64 x, .int .u64 y]).run P w = .ok (.int .u64 (mnU x y)) w := run_min_int2 w ts t .u64 .u64 x y
theorem mnU_nat (x y : Nat) : mnU (x : Int) (y : Int) = ((min x y : Nat) : Int) := by unfold mnU; split <;> omega
def mnI (x y : Int) : Int := if y < x then y else x
theorem mnI_rule {P : Program} (w : World) (ts : Array TypeId) (t : TypeId) (x y : Int) : (Builtin.min_ ts t #[.int .i64 x, .int .i64 y]).run P w = .ok (.int .i64 (mnI x y)) w := run_min_int2 w ts t .i64 .i64 x y
theorem mnI_nat (x y : Nat) : mnI (x : Int) (y : Int) = ((min x y : Nat) : Int) := by unfold mnI; split <;> omega
theorem gtU_nat (a b : Nat) : gtU (a : Int) (b : Int) = !decide (a ≤ b) := by unfold gtU; rw [Bool.eq_iff_iff]; simp
theorem leU_nat (a b : Nat) : leU (a : Int) (b : Int) = decide (a ≤ b) := by unfold leU; rw [Bool.eq_iff_iff]; simp
theorem ltU_nat (a b : Nat) : ltU (a : Int) (b : Int) = decide (a < b) := by unfold ltU; rw [Bool.eq_iff_iff]; simp
theorem geU_nat (a b : Nat) : geU (a : Int) (b : Int) = decide (b ≤ a) := by unfold geU; rw [Bool.eq_iff_iff]; simp
theorem adU_nat {a b : Nat} (h : a + b < 18446744073709551616) : adU (a : Int) (b : Int) = ((a + b : Nat) : Int) := by
  unfold adU; rw [IntKind.wrap_u64]; omega
theorem sbU_nat {a b : Nat} (h : b ≤ a) (ha : a < 18446744073709551616) : sbU (a : Int) (b : Int) = ((a - b : Nat) : Int) := by
  unfold sbU; rw [IntKind.wrap_u64]; omega
/-! ### What lies where it is said to, from block B on -/
def RoIn (w : World) (B : Nat) (a : Option Addr) (n c : Nat) (R : List Ro) : Prop := R.length = n ∧ RoAt w a R ∧ n ≤ c ∧ c ≤ maxLen ∧ (a = none → c = 0) ∧ (R ≠ [] → ∀ y, a = some y → B ≤ y.block)
def UpIn (w : World) (B : Nat) (a : Option Addr) (n c : Nat) (U : List Up) : Prop := U.length = n ∧ UpAt w a U ∧ n ≤ c ∧ c ≤ maxLen ∧ (a = none → c = 0) ∧ (U ≠ [] → ∀ y, a = some y → B ≤ y.block)
def EnIn (w : World) (B : Nat) (a : Option Addr) (n c : Nat) (L : List En) : Prop := L.length = n ∧ EnAt w a L ∧ n ≤ c ∧ c ≤ maxLen ∧ (a = none → c = 0) ∧ (L ≠ [] → ∀ y, a = some y → B ≤ y.block) ∧ ∀ x ∈ L, UpIn w B x.a x.n x.c x.U
theorem RoIn.later {w w' : World} {B : Nat} {a : Option Addr} {n c : Nat} {R : List Ro} (h : RoIn w B a n c R) (k : Below w.heap.size w w') : RoIn w' B a n c R := ⟨h.1, h.2.1.later k, h.2.2⟩
theorem UpIn.later {w w' : World} {B : Nat} {a : Option Addr} {n c : Nat} {R : List Up} (h : UpIn w B a n c R) (k : Below w.heap.size w w') : UpIn w' B a n c R := ⟨h.1, h.2.1.later k, h.2.2⟩
theorem EnIn.later {w w' : World} {B : Nat} {a : Option Addr} {n c : Nat} {R : List En} (h : EnIn w B a n c R) (k : Below w.heap.size w w') : EnIn w' B a n c R :=
  ⟨h.1, h.2.1.later k, h.2.2.1, h.2.2.2.1, h.2.2.2.2.1, h.2.2.2.2.2.1, fun x hx => (h.2.2.2.2.2.2 x hx).later k⟩
theorem RoIn.less {w : World} {B B' : Nat} {a : Option Addr} {n c : Nat} {R : List Ro} (h : RoIn w B a n c R) (k : B' ≤ B) : RoIn w B' a n c R := ⟨h.1, h.2.1, h.2.2.1, h.2.2.2.1, h.2.2.2.2.1, fun x y e => Nat.le_trans k (h.2.2.2.2.2 x y e)⟩
theorem UpIn.less {w : World} {B B' : Nat} {a : Option Addr} {n c : Nat} {R : List Up} (h : UpIn w B a n c R) (k : B' ≤ B) : UpIn w B' a n c R := ⟨h.1, h.2.1, h.2.2.1, h.2.2.2.1, h.2.2.2.2.1, fun x y e => Nat.le_trans k (h.2.2.2.2.2 x y e)⟩
theorem EnIn.less {w : World} {B B' : Nat} {a : Option Addr} {n c : Nat} {R : List En} (h : EnIn w B a n c R) (k : B' ≤ B) : EnIn w B' a n c R := ⟨h.1, h.2.1, h.2.2.1, h.2.2.2.1, h.2.2.2.2.1, fun x y e => Nat.le_trans k (h.2.2.2.2.2.1 x y e), fun x hx => (h.2.2.2.2.2.2 x hx).less k⟩
theorem RoIn.nil (w : World) (B : Nat) : RoIn w B none 0 0 [] := ⟨rfl, .inl rfl, Nat.le_refl _, Nat.zero_le _, fun _ => rfl, fun h => absurd rfl h⟩
theorem UpIn.nil (w : World) (B : Nat) : UpIn w B none 0 0 [] := ⟨rfl, .inl rfl, Nat.le_refl _, Nat.zero_le _, fun _ => rfl, fun h => absurd rfl h⟩
theorem EnIn.nil (w : World) (B : Nat) : EnIn w B none 0 0 [] := ⟨rfl, .inl rfl, Nat.le_refl _, Nat.zero_le _, fun _ => rfl, fun h => absurd rfl h, fun x hx => by simp at hx⟩
def Vw.In (w : World) (B : Nat) (v : Vw) : Prop := RoIn w B v.b.a v.b.n v.b.c v.b.R ∧ EnIn w B v.a v.n v.c v.L
def Ms.In (w : World) (B : Nat) (m : Ms) : Prop := EnIn w B m.a m.n m.c m.L ∧ RoIn w B m.b.a m.b.n m.b.c m.b.R
theorem Vw.In.later {w w' : World} {B : Nat} {v : Vw} (h : v.In w B) (k : Below w.heap.size w w') : v.In w' B := ⟨h.1.later k, h.2.later k⟩
theorem Ms.In.later {w w' : World} {B : Nat} {v : Ms} (h : v.In w B) (k : Below w.heap.size w w') : v.In w' B := ⟨h.1.later k, h.2.later k⟩
theorem Vw.In.less {w : World} {B B' : Nat} {v : Vw} (h : v.In w B) (k : B' ≤ B) : v.In w B' := ⟨h.1.less k, h.2.less k⟩
theorem Ms.In.less {w : World} {B B' : Nat} {v : Ms} (h : v.In w B) (k : B' ≤ B) : v.In w B' := ⟨h.1.less k, h.2.less k⟩
/-- What an entry says. -/
structure Eq' where
  ep : Int
  cl : Int
  sq : Int
  U : List Up
noncomputable instance : DecidableEq Eq' := fun _ _ => Classical.propDecidable _
def con (x : En) : Eq' := ⟨x.ep, x.cl, x.sq, x.U⟩
def Same' (L M : List En) : Prop := L.map con = M.map con
noncomputable instance (L M : List En) : Decidable (Same' L M) := Classical.propDecidable _
theorem Same'.len {L M : List En} (h : Same' L M) : L.length = M.length := by have := congrArg List.length h; simpa using this
theorem Same'.get {L M : List En} (h : Same' L M) (i : Nat) : con (eng L i) = con (eng M i) := by
  have key : ∀ K : List En, (K.map con).getD i (con En.zero) = con (eng K i) := fun K => by
    unfold eng
    by_cases hi : i < K.length
    · simp [hi]
    · simp [List.getElem?_eq_none (Nat.le_of_not_lt hi)]
  have h1 := congrArg (fun K => List.getD K i (con En.zero)) h
  rw [← key, ← key]
  exact h1
theorem same_of {L M : List En} (h : L.length = M.length) (k : ∀ i, i < L.length → con (eng L i) = con (eng M i)) : Same' L M := by
  apply List.ext_getElem (by simp [h])
  intro i h1 h2
  have := k i (by simpa using h1)
  rw [eng_get (by simpa using h1), eng_get (by simpa using h2)] at this
  simpa using this
end Go.Proofs.Ytkoenconjldojaa
