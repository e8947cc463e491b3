/-
  Rows of numbers of 32 bits, their append, whatever is decoded of them, and a node that is data. Nothing here is a statement of the document.
-/
import Derived.Test.YtcehdjpjniemjaaBmpG
import Derived.ProofKit
import Derived.OpenShut
import Derived.Laws.AppendOwnNone
namespace Go.Proofs.Ytcehdjpjniemjaa
open Go.RowKit Go.ChangeShapes Go.WideShapes Go.ChangeAt
set_option linter.unusedVariables false

/-- Numbers of 32 bits that lie at an address. -/
def R32 (w : World) (a : Option Addr) (l : List Nat) : Prop :=
  (∀ x ∈ l, x < 4294967296) ∧ (l = [] ∨ ∃ b off, a = some ⟨b, off, none⟩ ∧ b < w.heap.size ∧ ∀ i, i < l.length → w.cell? ⟨b, off + i, none⟩ = some (.int .u32 ((l.getD i 0 : Nat) : Int)))
theorem R32.later {w w' : World} {a : Option Addr} {l : List Nat} (h : R32 w a l) (hb : Below w.heap.size w w') : R32 w' a l := by
  refine ⟨h.1, ?_⟩
  rcases h.2 with h0 | ⟨b, off, rfl, hlt, hc⟩
  · exact .inl h0
  · exact .inr ⟨b, off, rfl, Nat.lt_of_lt_of_le hlt hb.size, fun i hi => (hb.cell (p := ⟨b, off + i, none⟩) hlt).trans (hc i hi)⟩
theorem R32.bound {w : World} {a : Option Addr} {l : List Nat} (h : R32 w a l) (i : Nat) : l.getD i 0 < 4294967296 := by
  by_cases hi : i < l.length
  · have : l.getD i 0 = l[i] := by simp [hi]
    rw [this]; exact h.1 _ (List.getElem_mem hi)
  · have : l.getD i 0 = 0 := by simp [List.getElem?_eq_none (by omega : l.length ≤ i)]
    omega

/-- By what it is made of alone. -/
def DecIs (l : List Nat) (n : Nd) (e : Int) : Prop :=
  (l.length < 3 ∧ n = Nd.zero ∧ e = 7) ∨ (3 ≤ l.length ∧ ∃ h0 h1 h2, ((ndOf (l.getD 0 0) (l.getD 1 0) (l.getD 2 0) h0 h1 h2).ok ∧ n = ndOf (l.getD 0 0) (l.getD 1 0) (l.getD 2 0) h0 h1 h2 ∧ e = 0) ∨ (¬ (ndOf (l.getD 0 0) (l.getD 1 0) (l.getD 2 0) h0 h1 h2).ok ∧ n = Nd.zero ∧ e = 170))
theorem decIs_any {w : World} {a : Option Addr} {l : List Nat} (h : R32 w a l) : ∃ n e, DecIs l n e := by
  by_cases hl : l.length < 3
  · exact ⟨_, _, .inl ⟨hl, rfl, rfl⟩⟩
  · by_cases hk : (ndOf (l.getD 0 0) (l.getD 1 0) (l.getD 2 0) (h.bound 0) (h.bound 1) (h.bound 2)).ok
    · exact ⟨_, _, .inr ⟨by omega, _, _, _, .inl ⟨hk, rfl, rfl⟩⟩⟩
    · exact ⟨_, _, .inr ⟨by omega, _, _, _, .inr ⟨hk, rfl, rfl⟩⟩⟩
theorem ndec_all {n : Nd} {e0 : Int} {a : Option Addr} {l : List Nat} {w : World} (h : R32 w a l) (hd : DecIs l n e0) (len cap : Nat) (hl : l.length = len) (hlm : len ≤ 9223372036854775807) :
    Calls Try.prog 8 #[.slice a len cap] w fun e w' => e = .returned (.tuple #[.agg n.cs, .int .i64 e0]) ∧ Below w.heap.size w w' := by
  subst hl
  rcases hd with ⟨hs, rfl, rfl⟩ | ⟨hs, h0, h1, h2, hk⟩
  · exact ndec_short a l.length cap hs w
  · rcases h.2 with he | ⟨b, off, rfl, hb, hc⟩
    · rw [he] at hs; simp at hs
    · refine (ndec_any b off l.length cap hs hlm (l.getD 0 0) (l.getD 1 0) (l.getD 2 0) h0 h1 h2 w hb (hc 0 (by omega)) (hc 1 (by omega)) (hc 2 (by omega))).mono fun e w' hp => ?_
      rcases hk with ⟨hk, rfl, rfl⟩ | ⟨hk, rfl, rfl⟩
      · exact ⟨hp.1 hk, hp.2.2⟩
      · exact ⟨hp.2.1 hk, hp.2.2⟩
theorem rdec_all {n : Nd} {e0 : Int} {a : Option Addr} {l : List Nat} {w : World} (h : R32 w a l) (hd : DecIs l n e0) (len cap : Nat) (hl : l.length = len) (hlm : len ≤ 9223372036854775807) :
    Calls Try.prog 9 #[.slice a len cap] w fun e w' => e = .returned (.tuple #[.agg n.cs, .int .i64 e0]) ∧ Below w.heap.size w w' := by
  subst hl
  rcases hd with ⟨hs, rfl, rfl⟩ | ⟨hs, h0, h1, h2, hk⟩
  · exact rdec_short a l.length cap hs w
  · rcases h.2 with he | ⟨b, off, rfl, hb, hc⟩
    · rw [he] at hs; simp at hs
    · refine (rdec_any b off l.length cap hs hlm (l.getD 0 0) (l.getD 1 0) (l.getD 2 0) h0 h1 h2 w hb (hc 0 (by omega)) (hc 1 (by omega)) (hc 2 (by omega))).mono fun e w' hp => ?_
      rcases hk with ⟨hk, rfl, rfl⟩ | ⟨hk, rfl, rfl⟩
      · exact ⟨hp.1 hk, hp.2.2⟩
      · exact ⟨hp.2.1 hk, hp.2.2⟩

/-! ### Appends -/
def w32 (n : Nat) : Value := .int .u32 (n : Int)
theorem w32_one (l : List Nat) : ∀ v ∈ l.map w32, v.oneCell' = true := by
  intro v hv
  obtain ⟨n, _, rfl⟩ := List.mem_map.1 hv
  rfl
theorem i_u32 : (Try.prog.info? 22).map (fun i => (i.zero, i.size, i.bytes)) = some (some (.int .u32 0), 1, 4) := by kernel_rfl
theorem wpList_append_32 {w : World} {ops : Array Oper} {rest : List Oper} {o : Oper} {a : Act} {Q : Exit → Act → World → Prop} (hgd : o.guard = none) (s x : Operand)
    (ho : o.op = .call { callee := .builtin .append, args := #[s, x], argTypes := #[25, 25] })
    (base : Nat) (v : Value) (n : Nat) (xs : List Value) (hs : a.eval s = v) (hown : w.ownsRow base 22 1 v n xs) (ao : Option Addr) (len cap : Nat) (l : List Nat) (hll : l.length = len)
    (hx : a.eval x = .slice ao len cap) (hL : R32 w ao l) (hcap : ao = none → cap = 0) (hlen : n + len ≤ 140737488) (hbase : base ≤ w.heap.size)
    (h : ∀ v' w', w'.ownsRow base 22 1 v' (n + len) (xs ++ l.map w32) → w.grownBy w' v.ownBlock → wpList Try.prog ops Q rest (a.put o.dst v') w') : wpList Try.prog ops Q (o :: rest) a w := by
  subst hll
  obtain ⟨i0, hi, hz0, hz1, hz2⟩ := info_parts i_u32
  cases ao with
  | none =>
    have hc := hcap rfl
    obtain rfl : l = [] := by
      rcases hL.2 with h | ⟨_, _, h, _⟩
      · exact h
      · cases h
    subst hc
    refine wpList_append_own_none hgd s x 25 ho base 22 i0 1 Try.underlying25 hi v n xs hs hown hx (h v w (by simpa using hown) (World.grownBy.refl _ _))
  | some ad =>
    refine wpList_append_own w hgd s x 25 ho base 22 i0 (.int .u32 0) 1 4 Try.underlying25 hi hz0 hz1 hz2 rfl (by decide) v n xs hs hown ad l.length cap (l.map w32) hx (by simp) ?_ (w32_one l) (by unfold maxLen; omega) (by omega) hbase (fun v' w' h1 h2 _ => h v' w' h1 h2)
    intro j u hj
    rcases hL.2 with h0 | ⟨b, off, h9, hb, hc⟩
    · subst h0; simp at hj
    · obtain rfl : ad = ⟨b, off, none⟩ := by injection h9
      have hjl : j < l.length := by simpa using (List.getElem?_eq_some_iff.1 hj).1
      rw [List.getElem?_map, List.getElem?_eq_getElem hjl, Option.map_some] at hj
      have h8 := hc j hjl
      rw [show l.getD j 0 = l[j] by simp [hjl]] at h8
      rw [← hj]
      by_cases hj0 : j = 0
      · subst hj0; simpa [Addr.add, w32] using h8
      · simpa [Addr.add, w32, hj0] using h8
/-- A row of the call's own as a row. -/
theorem own_32 {w : World} {base : Nat} {v : Value} {n : Nat} {l : List Nat} (h : w.ownsRow base 22 1 v n (l.map w32)) (hl : ∀ x ∈ l, x < 4294967296) : ∃ a cap, v = .slice a n cap ∧ l.length = n ∧ R32 w a l ∧ (a = none → cap = 0) ∧ (∀ x, a = some x → base ≤ x.block) := by
  have hlen : l.length = n := by simpa using h.1
  rcases h.2 with ⟨rfl, rfl⟩ | ⟨g, cap, cur, rfl, hb, hg, hnc, hm, hs, ht⟩
  · exact ⟨none, 0, rfl, hlen, ⟨hl, .inl (List.eq_nil_of_length_eq_zero hlen)⟩, (fun _ => rfl), (fun x hx => by cases hx)⟩
  · refine ⟨some ⟨g, 0, none⟩, cap, rfl, hlen, ⟨hl, .inr ⟨g, 0, rfl, (Array.getElem?_eq_some_iff.1 hg).1, (fun i hi => ?_)⟩⟩, (fun h => by cases h), (fun x hx => by cases hx; exact hb)⟩
    have hc : w.cell? ⟨g, 0 + i, none⟩ = cur[0 + i]? := cell_of_row w g (0 + i) cur 22 (0, 0) hg
    rw [hc, Nat.zero_add]
    have e : (cur.toList.take (n * 1))[i]? = cur[i]? := by rw [List.getElem?_take, if_pos (by omega), Array.getElem?_toList]
    rw [← e, ht, List.getElem?_map]
    simp [w32, hi]

/-! ### A row that is data, and a node that is data -/
def IsR32 (w : World) (a : Option Addr) (len cap : Nat) (zs : List Int) : Prop :=
  (a = none ∧ len = 0 ∧ cap = 0 ∧ zs = []) ∨
  ∃ x, a = some x ∧ len ≤ cap ∧ cap ≤ maxLen ∧ zs.length = cap ∧ (∀ i, i < zs.length → w.cell? (x.add i) = some (.int .u32 (zs.getD i 0))) ∧ ∀ n ∈ zs, (Lit.int .u32 n).wf = true
theorem IsR32.row {w : World} {a : Option Addr} {len cap : Nat} {zs : List Int} (h : IsR32 w a len cap zs) : ∃ l : List Nat, l.length = len ∧ R32 w a l ∧ (a = none → cap = 0) ∧ len ≤ 9223372036854775807 := by
  rcases h with ⟨rfl, rfl, rfl, rfl⟩ | ⟨x, rfl, hlc, hm, hz, hc, hw⟩
  · exact ⟨[], rfl, ⟨(fun _ h => by cases h), .inl rfl⟩, (fun _ => rfl), by omega⟩
  · have hml : len ≤ 9223372036854775807 := by unfold maxLen at hm; omega
    refine ⟨(zs.take len).map Int.toNat, by simp; omega, ⟨?_, ?_⟩, (fun h => by cases h), hml⟩
    · intro y hy
      obtain ⟨z, hz1, rfl⟩ := List.mem_map.1 hy
      have := bounds_u32 (hw z (List.mem_of_mem_take hz1))
      omega
    · by_cases h0 : len = 0
      · left; subst h0; simp
      · right
        have hc0 := hc 0 (by omega)
        have e0 : x.add 0 = x := by simp [Addr.add]
        rw [e0] at hc0
        obtain ⟨b, off, sp⟩ := x
        obtain rfl : sp = none := World.cell?_spot hc0
        have hbl : b < w.heap.size := World.block_lt_of_cell? w _ hc0
        refine ⟨b, off, rfl, hbl, fun i hi => ?_⟩
        have hil : i < len := by have hi2 : i < min len zs.length := (by simpa using hi); omega
        have hci := hc i (by omega)
        have ei : (⟨b, off, none⟩ : Addr).add i = ⟨b, off + i, none⟩ := by by_cases hi0 : i = 0 <;> simp [Addr.add, hi0]
        rw [ei] at hci
        rw [hci]
        have hb := bounds_u32 (hw (zs[i]'(by omega)) (List.getElem_mem _))
        have e1 : zs.getD i 0 = zs[i]'(by omega) := by simp [show i < zs.length by omega]
        have e2 : ((zs.take len).map Int.toNat).getD i 0 = (zs[i]'(by omega)).toNat := by simp [hil, show i < zs.length by omega]
        rw [e1, e2]
        congr 2
        omega
theorem c_u32 : Try.prog.cellsOf 22 = 1 := by kernel_rfl
theorem c_nd : Try.prog.cellsOf 24 = 4 := by kernel_rfl
theorem nd_cells {H : Type} {enc : TypeId × Value → H} {W : World} {sp : Nat → Bool} {held : Bool} {fuel : Nat} {cs : List Value} {y : DataW H × List MemPlace} (h : DataW.trod enc Try.prog W 0 sp held fuel 24 cs = some y) : ∃ n : Nd, cs = n.cs.toList := by
  obtain ⟨xs, m, _, _, hlen, hxs, hg⟩ := DataW.trod_struct Try.underlying24 h
  rw [c_nd] at hlen
  obtain ⟨y0, y1, y2, y3, rfl⟩ : ∃ y0 y1 y2 y3, xs = [y0, y1, y2, y3] := by
    match xs, hxs with
    | [a, b, c, d], _ => exact ⟨a, b, c, d, rfl⟩
  have t0 : DataW.trod enc Try.prog W 0 sp held m 22 (List.take (Try.prog.cellsOf 22) (List.drop 0 cs)) = some y0 := hg 0 _ rfl
  have t1 : DataW.trod enc Try.prog W 0 sp held m 22 (List.take (Try.prog.cellsOf 22) (List.drop 1 cs)) = some y1 := hg 1 _ rfl
  have t2 : DataW.trod enc Try.prog W 0 sp held m 22 (List.take (Try.prog.cellsOf 22) (List.drop 2 cs)) = some y2 := hg 2 _ rfl
  have t3 : DataW.trod enc Try.prog W 0 sp held m 22 (List.take (Try.prog.cellsOf 22) (List.drop 3 cs)) = some y3 := hg 3 _ rfl
  rw [c_u32] at t0 t1 t2 t3
  obtain ⟨u0, e0, _, f0⟩ := DataW.trod_int Try.underlying22 t0
  obtain ⟨u1, e1, _, f1⟩ := DataW.trod_int Try.underlying22 t1
  obtain ⟨u2, e2, _, f2⟩ := DataW.trod_int Try.underlying22 t2
  obtain ⟨u3, e3, _, f3⟩ := DataW.trod_int Try.underlying22 t3
  obtain ⟨n0, rfl, g0⟩ := u32_of f0
  obtain ⟨n1, rfl, g1⟩ := u32_of f1
  obtain ⟨n2, rfl, g2⟩ := u32_of f2
  obtain ⟨n3, rfl, g3⟩ := u32_of f3
  refine ⟨⟨n0, n1, n2, n3, g0, g1, g2, g3⟩, ?_⟩
  match cs, hlen with
  | [a, b, c, d], _ =>
    simp at e0 e1 e2 e3
    simp [Nd.cs, e0, e1, e2, e3]
theorem nd_of {H : Type} {enc : TypeId × Value → H} {W : World} {sp : Nat → Bool} {base : Nat} {held : Bool} {v : Value} {d : DataW H} {p : List MemPlace} (hv : Value.okWide Try.prog W .any base 24 v) (h : DataW.Trod enc Try.prog W 0 sp held 24 v d p) : ∃ n : Nd, v = .agg n.cs := by
  obtain ⟨cs, rfl, hsz⟩ := okWide_struct Try.underlying24 hv
  obtain ⟨fuel, hf⟩ := h
  obtain ⟨a, ha⟩ := nd_cells (show DataW.trod enc Try.prog W 0 sp held fuel 24 cs.toList = some _ from hf)
  exact ⟨a, congrArg Value.agg (Array.toList_inj.1 ha)⟩

/-! ### Equality -/
def eqNd (a b : Value) : Sem Bool := Op.equalIn 10000 24 a b
theorem eq_nd_rule (a b : Value) : Op.equalIn 10000 24 a b = eqNd a b := rfl
theorem eq_nd_self (n : Nd) (w : World) : (eqNd (.agg n.cs) (.agg n.cs)).run Try.prog w = .ok true w := by
  unfold eqNd Nd.cs
  go_simp
/-- A new box with something stored. -/
theorem st_new (m : Nd) (W : World) : (storeSem 24 (.pointer (some ⟨W.heap.size, 0, none⟩)) (.agg m.cs)).run Try.prog (W.alloc (.cells #[.int .u32 0, .int .u32 0, .int .u32 0, .int .u32 0] 24)) = .ok () (W.alloc (.cells m.cs 24)) := by
  have h := st_nd (n := Nd.zero) (m := m) (Blk.new W 24 Nd.zero.cs)
  have e : (W.alloc (.cells Nd.zero.cs 24)).setRow W.heap.size m.cs = W.alloc (.cells m.cs 24) := by
    exact World.setRow_alloc_new _ _ _ _
  rw [e] at h
  exact h
end Go.Proofs.Ytcehdjpjniemjaa
