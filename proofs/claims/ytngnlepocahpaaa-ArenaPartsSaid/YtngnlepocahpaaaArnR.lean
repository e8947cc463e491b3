/-
  The place that an op names, of an arena. Nothing here is a statement of the document.
-/
import Derived.Test.YtngnlepocahpaaaArnQ
import Derived.Test.YtngnlepocahpaaaArnW
import Derived.Test.YtngnlepocahpaaaArnK
namespace Go.Proofs.Ytngnlepocahpaaa
open Go.RowKit Go.Shelf
set_option linter.unusedVariables false

/-- What is done. -/
structure OpM where
  kind : Int
  cls : Int
  place : Int
  i : Int
  n : Int
  x : Int
  f : Bool
def OpM.cs (o : OpM) : Array Value := #[.int .i64 o.kind, .int .i64 o.cls, .int .i64 o.place, .int .i64 o.i, .int .i64 o.n, .int .u64 o.x, .bool o.f]
structure OpM.Ok (o : OpM) : Prop where
  kind : -9223372036854775808 ≤ o.kind ∧ o.kind ≤ 9223372036854775807
  cls : -9223372036854775808 ≤ o.cls ∧ o.cls ≤ 9223372036854775807
  place : -9223372036854775808 ≤ o.place ∧ o.place ≤ 9223372036854775807
  i : -9223372036854775808 ≤ o.i ∧ o.i ≤ 9223372036854775807
  n : -9223372036854775808 ≤ o.n ∧ o.n ≤ 9223372036854775807
  x : 0 ≤ o.x ∧ o.x ≤ 18446744073709551615
/-- A number as one without a sign. -/
def unN (z : Int) : Nat := (z % 18446744073709551616).toNat
/-- The place that it names. -/
def OpM.row (o : OpM) (B : List Bl) : Int := if o.f = true ∧ 0 < (ofT true B).length then (((ofT true B).getD (unN o.place % (ofT true B).length) Bl.zero).x : Int) else o.place

theorem s_op : (Try.prog.info? 38).map (·.size) = some 7 := by kernel_rfl
theorem load_op_rule (v : Value) : Instr.loadAt 38 v = loadSem 38 v := rfl
theorem ld_op {w : World} {g : Nat} {o : OpM} (h : Blk w g 38 o.cs) : (loadSem 38 (.pointer (some ⟨g, 0, none⟩))).run Try.prog w = .ok (.agg o.cs) w :=
  loadRes_of (w := w) h (fun j _ => by rw [Nat.zero_add]) _ Try.underlying38 rfl s_op
theorem pcl_get {L : List Bl} {k : Nat} {b : Bl} (h : L[k]? = some b) {j : Nat} (hj : j < 2) : (pcl L)[k * 2 + j]? = (pccs b)[j]? := flat_get (f := pccs) (n := 2) (fun _ => rfl) L k b h j hj
theorem owns_sl {w : World} {B : Nat} {e : TypeId} {z : Nat} {v : Value} {n : Nat} {xs : List Value} (h : w.ownsRow B e z v n xs) : ∃ a c, v = .slice a n c := by
  rcases h.2 with ⟨h9, h0⟩ | ⟨g, cap, cur, h9, _⟩
  · exact ⟨none, 0, by rw [h9, h0]⟩
  · exact ⟨_, _, h9⟩
theorem owns_cell {w : World} {B : Nat} {e : TypeId} {z : Nat} {v : Value} {n : Nat} {xs : List Value} (h : w.ownsRow B e z v n xs) (hn : 0 < n) : ∃ g c, v = .slice (some ⟨g, 0, none⟩) n c ∧ n ≤ c ∧ c ≤ maxLen ∧ ∀ j u, xs[j]? = some u → w.cell? ⟨g, j, none⟩ = some u := by
  rcases h.2 with ⟨h9, h0⟩ | ⟨g, cap, cur, h9, hb, hg, hc, hm, hs, ht⟩
  · omega
  · refine ⟨g, cap, h9, hc, hm, fun j u hj => ?_⟩
    rw [show w.cell? ⟨g, j, none⟩ = cur[j]? from cell_of_row w g j cur e (0, 0) hg]
    rw [← ht, List.getElem?_take] at hj
    split at hj
    · simpa using hj
    · cases hj

section
variable {w : World} {g p q : Nat} {ws : List Nat} {bs : List Bool} {B : List Bl} {L : Nat → List Nat}
set_option maxRecDepth 100000 in
set_option maxHeartbeats 1000000 in
theorem row_any (h : Ar w g p q ws bs) (hI : Inv ws bs B L) (o : OpM) (ho : o.Ok) : Calls Try.prog 55 #[.agg o.cs, .pointer (some ⟨g, 0, none⟩)] w fun e w' => e = .returned (.int .i64 (o.row B)) ∧ Below w.heap.size w w' := by
  obtain ⟨W1, hW1⟩ : ∃ W1, w.alloc (.cells o.cs 38) = W1 := ⟨_, rfl⟩
  have hb1 : Below w.heap.size w W1 := by rw [← hW1]; exact (Below.refl _ _).alloc (Nat.le_refl _) _
  have b1 : Blk W1 w.heap.size 38 o.cs := by rw [← hW1]; exact Blk.new _ _ _
  have A1 := h.later hb1
  have hta := taken_all A1 hI.chain hI.edge
  have hbl : (ofT true B).length ≤ 16384 := by have := ofT_len true B; have := chain_len hI.chain; have := hI.edge; have := h.hi; omega
  obtain ⟨rr, hrr⟩ : ∃ rr, o.row B = rr := ⟨_, rfl⟩
  have hr1 := hrr
  unfold OpM.row at hr1
  obtain ⟨k1, k2, k3, k4, k5, k6, k7⟩ := o
  have hplb := ho.place
  dsimp only at hr1 hplb
  unfold OpM.cs at hW1 b1 ⊢
  dsimp only at hW1 b1 ⊢
  rw [hrr]
  have HB := Lib.hid (And.intro hb1 (And.intro b1 hr1))
  clear hrr hr1 ho h A1 hI hb1 b1
  go_enter Try.func55, Try.ntmps55
  go_wp2_with fail
  refine hta.mono ?_
  rintro e w2 ⟨v, rfl, how, hb2⟩
  have hbb : Below w.heap.size w w2 := bel_later HB.out.1 hb2
  have b2 := HB.out.2.1.kept (Kept.of_below [] hb2) (by simp)
  have c2 : w2.cell? ⟨w.heap.size, 2, none⟩ = some (.int .i64 k3) := b2.cell 2
  have c6 : w2.cell? ⟨w.heap.size, 6, none⟩ = some (.bool k7) := b2.cell 6
  have HR := Lib.hid HB.out.2.2
  have HBB := Lib.hid hbb
  clear HB hb2 b2 hta hW1 hbb
  by_cases hpos : k7 = true ∧ 0 < (ofT true B).length
  · obtain ⟨rfl, hpos⟩ := hpos
    obtain ⟨g9, c9, rfl, hc9, hm9, hcl⟩ := owns_cell how hpos
    have hj : unN k3 % (ofT true B).length < (ofT true B).length := Nat.mod_lt _ hpos
    obtain ⟨b9, hb9⟩ : ∃ b9, (ofT true B)[unN k3 % (ofT true B).length]? = some b9 := ⟨_, List.getElem?_eq_getElem hj⟩
    have hcc : w2.cell? ⟨g9, unN k3 % (ofT true B).length * 2, none⟩ = some (.int .i64 (b9.x : Int)) := hcl (unN k3 % (ofT true B).length * 2) _ (by have := pcl_get hb9 (j := 0) (by omega); rw [Nat.add_zero] at this; exact this)
    have hval : (b9.x : Int) = rr := by
      have := HR.out
      rw [if_pos ⟨rfl, hpos⟩] at this
      rw [← this]
      simp [List.getD, hb9]
    rw [hval] at hcc
    clear how hcl hval HR
    have hun : IntKind.u64.wrap k3 = (unN k3 : Int) := by rw [IntKind.wrap_u64]; unfold unN; omega
    have hmod : (IntKind.u64.wrap k3).tmod (((ofT true B).length : Nat) : Int) = ((unN k3 % (ofT true B).length : Nat) : Int) := by rw [hun]; rfl
    clear hun
    generalize unN k3 % (ofT true B).length = u at *
    generalize (ofT true B).length = m at *
    have hum : (u : Int) < (m : Int) := by omega
    have d1 : decide (0 < m) = true := decide_eq_true hpos
    have d1' : decide ((0 : Int) < (m : Int)) = true := decide_eq_true (by omega)
    go_wp2_with fail
    go_ret
    exact ⟨rfl, HBB.out⟩
  · obtain ⟨a9, c9, rfl⟩ := owns_sl how
    have hval : k3 = rr := by
      have := HR.out
      rw [if_neg hpos] at this
      exact this
    subst hval
    clear how HR
    by_cases hf : k7 = true
    · subst hf
      have hm0 : (ofT true B).length = 0 := by
        rcases Nat.eq_zero_or_pos (ofT true B).length with h | h
        · exact h
        · exact absurd ⟨rfl, h⟩ hpos
      rw [hm0]
      clear hm0 hpos hbl
      go_wp2_with fail
      go_ret
      exact ⟨rfl, HBB.out⟩
    · obtain rfl : k7 = false := by simpa using hf
      clear hpos hf
      go_wp2_with fail
      go_ret
      exact ⟨rfl, HBB.out⟩
end
end Go.Proofs.Ytngnlepocahpaaa
