/-
  Words for DiskForks: a disk and its copy, each beside the document's. Nothing here is a statement of the document.
-/
import Derived.Test.YtaikgngigaohmaaDskCq
namespace Go.Proofs.Ytaikgngigaohmaa
open Go.RowKit Go.Shelf
set_option linter.unusedVariables false

/-- A disk and the document's, side by side; the document's stands in the box q. -/
structure GPlay (w W : World) (B p pb q n : Nat) (bv pv rv : Value) (D : Dk) (M : Rk) : Prop where
  hb : Below w.heap.size w W
  dsk : Dsk W B p pb bv D
  box : Blk W q 32 (M.vals pv rv)
  rf : Ref W pv rv M
  ap : ∀ k, pv.ownBlock = some k → k ∉ fp p pb bv
  ag : Agree D M
  len : D.plate.length = n
  hB : w.heap.size ≤ B
  hq : w.heap.size ≤ q

theorem GPlay.fuse {w W : World} {B p pb q n : Nat} {bv pv rv : Value} {D : Dk} {M : Rk} (h : GPlay w W B p pb q n bv pv rv D M) : M.fuse ≤ 9223372036854775807 := by
  rw [h.ag.fuse]
  cases hf : D.fuse with
  | none => simp [encD]
  | some m => have := h.dsk.ok.fuse m hf; simp [encD]; omega
theorem GPlay.p0 {w W : World} {B p pb q n : Nat} {bv pv rv : Value} {D : Dk} {M : Rk} (h : GPlay w W B p pb q n bv pv rv D M) : 0 < M.plate.length ∧ M.plate.length ≤ 2048 ∧ M.rows.length ≤ 8 ∧ ∀ r ∈ M.rows, r.s < M.plate.length := by
  have ok := h.dsk.ok
  rw [h.ag.plate, h.ag.rows]
  exact ⟨ok.pos, ok.max, ok.held, ok.at_⟩
theorem GPlay.size {w W : World} {B p pb q n : Nat} {bv pv rv : Value} {D : Dk} {M : Rk} (h : GPlay w W B p pb q n bv pv rv D M) : B ≤ W.heap.size := by
  have := h.dsk.plate.lt; have := h.dsk.hpb; omega
theorem GPlay.later {w W W' : World} {B p pb q n : Nat} {bv pv rv : Value} {D : Dk} {M : Rk} (h : GPlay w W B p pb q n bv pv rv D M) (hb : Below W.heap.size W W') : GPlay w W' B p pb q n bv pv rv D M :=
  ⟨h.hb.trans (hb.mono h.hb.size), h.dsk.later hb, h.box.kept (Kept.of_below [] hb) (by simp), h.rf.below hb, h.ap, h.ag, h.len, h.hB, h.hq⟩

/-- A deed has been done to the disk. -/
theorem GPlay.goes {w W W' : World} {B p pb q n : Nat} {bv bv' pv rv : Value} {D D' : Dk} {M : Rk} (h : GPlay w W B p pb q n bv pv rv D M) (hd : Dsk W' B p pb bv' D') (hg : Goes W W' p pb bv bv') :
    Below w.heap.size w W' ∧ Blk W' q 32 (M.vals pv rv) ∧ Ref W' pv rv M ∧ (∀ k, pv.ownBlock = some k → k ∉ fp p pb bv') := by
  have hqn : q ∉ fp p pb bv := h.dsk.sep h.box (by decide) (by decide) (by decide)
  refine ⟨?_, h.box.kept hg.kept hqn, ⟨own_kept0 h.rf.p hg.kept h.ap, own_kept0 h.rf.r hg.kept (rows_apart h.dsk h.rf.r)⟩, fun k hk hm => ?_⟩
  · have h1 := hg.below h.dsk h.size
    exact h.hb.trans ((h1.mono h.hB).mono (Nat.le_refl _))
  · simp only [fp, List.mem_cons, Option.mem_toList] at hm
    have ha := h.ap k hk
    simp only [fp, List.mem_cons, Option.mem_toList, not_or] at ha
    rcases hm with h9 | h9 | h9
    · exact ha.1 h9
    · exact ha.2.1 h9
    · rcases hg.new k h9 with h8 | h8
      · exact ha.2.2 h8
      · have := (h.rf.p.lt k hk).2; omega

/-- The document's disk in the box stands when nothing has gone down or is to fail. -/
structure GCalm (w W : World) (B p pb q : Nat) (bv pv rv : Value) (D : Dk) (M : Rk) (P : List Bk) : Prop where
  hb : Below w.heap.size w W
  dsk : Dsk W B p pb bv D
  box : Blk W q 32 (M.vals pv rv)
  rf : Ref W pv rv M
  ap : ∀ k, pv.ownBlock = some k → k ∉ fp p pb bv
  idle : Idle D P
  hB : w.heap.size ≤ B
theorem GCalm.later {w W W' : World} {B p pb q : Nat} {bv pv rv : Value} {D : Dk} {M : Rk} {P : List Bk} (h : GCalm w W B p pb q bv pv rv D M P) (hb : Below W.heap.size W W') : GCalm w W' B p pb q bv pv rv D M P :=
  ⟨h.hb.trans (hb.mono h.hb.size), h.dsk.later hb, h.box.kept (Kept.of_below [] hb) (by simp), h.rf.below hb, h.ap, h.idle, h.hB⟩
theorem GCalm.goes {w W W' : World} {B p pb q : Nat} {bv bv' pv rv : Value} {D D' : Dk} {M : Rk} {P P' : List Bk} (h : GCalm w W B p pb q bv pv rv D M P) (hd : Dsk W' B p pb bv' D') (hg : Goes W W' p pb bv bv') (hi : Idle D' P') : GCalm w W' B p pb q bv' pv rv D' M P' := by
  have hqn : q ∉ fp p pb bv := h.dsk.sep h.box (by decide) (by decide) (by decide)
  have hs : B ≤ W.heap.size := by have := h.dsk.plate.lt; have := h.dsk.hpb; omega
  refine ⟨h.hb.trans ((hg.below h.dsk hs).mono h.hB), hd, h.box.kept hg.kept hqn, ⟨own_kept0 h.rf.p hg.kept h.ap, own_kept0 h.rf.r hg.kept (rows_apart h.dsk h.rf.r)⟩, fun k hk hm => ?_, hi, h.hB⟩
  simp only [fp, List.mem_cons, Option.mem_toList] at hm
  have ha := h.ap k hk
  simp only [fp, List.mem_cons, Option.mem_toList, not_or] at ha
  rcases hm with h9 | h9 | h9
  · exact ha.1 h9
  · exact ha.2.1 h9
  · rcases hg.new k h9 with h8 | h8
    · exact ha.2.2 h8
    · have := (h.rf.p.lt k hk).2; omega
theorem GPlay.crash {w W W' : World} {B p pb q n : Nat} {bv bv' pv rv : Value} {D D' : Dk} {M : Rk} {P : List Bk} (h : GPlay w W B p pb q n bv pv rv D M) (hd : Dsk W' B p pb bv' D') (hg : Goes W W' p pb bv bv') (hi : Idle D' P) : GCalm w W' B p pb q bv' pv rv D' M P := by
  obtain ⟨h1, h2, h3, h4⟩ := h.goes hd hg
  exact ⟨h1, hd, h2, h3, h4, hi, h.hB⟩

/-- The document's disk behind a deed is laid into the box. -/
theorem GPlay.next {w W : World} {B p pb q n : Nat} {bv pv' rv' : Value} {D' : Dk} {M' : Rk} {V : Array Value} (hb : Below w.heap.size w W) (hd : Dsk W B p pb bv D') (hx : Blk W q 32 V) (hr : Ref W pv' rv' M') (ha : ∀ k, pv'.ownBlock = some k → k ∉ fp p pb bv)
    (hag : Agree D' M') (hl : D'.plate.length = n) (hB : w.heap.size ≤ B) (hq : w.heap.size ≤ q) : GPlay w (W.setRow q (M'.vals pv' rv')) B p pb q n bv pv' rv' D' M' := by
  have hk : Kept [q] W (W.setRow q (M'.vals pv' rv')) := (Kept.refl _ _).setRow (.inl (by simp)) _
  have hqn : q ∉ fp p pb bv := hd.sep hx (by decide) (by decide) (by decide)
  exact ⟨below_setRow hb hq _, hd.apart hk (by simpa using hqn), hx.row _, ⟨own_kept0 hr.p hk (own_apart hr.p hx (by decide)), own_kept0 hr.r hk (own_apart hr.r hx (by decide))⟩, ha, hag, hl, hB, hq⟩

/-! ### What stands below a block stays -/
theorem own_under {n0 : Nat} {w w' : World} {b : Nat} {e : TypeId} {size : Nat} {v : Value} {n : Nat} {xs : List Value} (h : w.ownsRow b e size v n xs) (hb : Below n0 w w') (hl : ∀ k, v.ownBlock = some k → k < n0) : w'.ownsRow b e size v n xs := by
  rcases h.2 with h9 | ⟨g, cap, cur, rfl, h2, h3, h4⟩
  · exact ⟨h.1, .inl h9⟩
  · exact ⟨h.1, .inr ⟨g, cap, cur, rfl, h2, (hb.block g (hl g rfl)).trans h3, h4⟩⟩
/-- A disk and the document's whose blocks all lie below Bc. -/
structure Stay (w W : World) (Bc B p pb q n : Nat) (bv pv rv : Value) (D : Dk) (M : Rk) : Prop where
  g : GPlay w W B p pb q n bv pv rv D M
  f : ∀ k ∈ fp p pb bv, k < Bc
  q : q < Bc
  pp : ∀ k, pv.ownBlock = some k → k < Bc
  rr : ∀ k, rv.ownBlock = some k → k < Bc
  hB : w.heap.size ≤ Bc
theorem GPlay.stay {w W : World} {B p pb q n : Nat} {bv pv rv : Value} {D : Dk} {M : Rk} (h : GPlay w W B p pb q n bv pv rv D M) : Stay w W W.heap.size B p pb q n bv pv rv D M :=
  ⟨h, h.dsk.lts, h.box.lt, fun k hk => (h.rf.p.lt k hk).2, fun k hk => (h.rf.r.lt k hk).2, h.hb.size⟩
theorem Stay.under {w W W' : World} {Bc B p pb q n : Nat} {bv pv rv : Value} {D : Dk} {M : Rk} (h : Stay w W Bc B p pb q n bv pv rv D M) (hb : Below Bc W W') : Stay w W' Bc B p pb q n bv pv rv D M :=
  ⟨⟨h.g.hb.trans (hb.mono h.hB), h.g.dsk.under hb h.f, (hb.block q h.q).trans h.g.box, ⟨own_under h.g.rf.p hb h.pp, own_under h.g.rf.r hb h.rr⟩, h.g.ap, h.g.ag, h.g.len, h.g.hB, h.g.hq⟩, h.f, h.q, h.pp, h.rr, h.hB⟩
theorem Stay.later {w W W' : World} {Bc B p pb q n : Nat} {bv pv rv : Value} {D : Dk} {M : Rk} (h : Stay w W Bc B p pb q n bv pv rv D M) (hb : Below W.heap.size W W') (hs : Bc ≤ W.heap.size) : Stay w W' Bc B p pb q n bv pv rv D M := h.under (hb.mono hs)

theorem dsk_ge {W : World} {B p pb : Nat} {bv : Value} {D : Dk} (h : Dsk W B p pb bv D) : ∀ k ∈ fp p pb bv, B ≤ k := by
  intro k hk
  simp only [fp, List.mem_cons, Option.mem_toList] at hk
  rcases hk with rfl | rfl | h9
  · exact h.hp
  · exact h.hpb
  · exact (h.far k h9).2.2.1
theorem crash_none (D : Dk) : (crashM D []).plate = D.plate := by
  have : ∀ (l : List (Nat × Rw)) (E : Dk), crashF E [] l = E := by
    intro l
    induction l with
    | nil => intro E; rfl
    | cons x l ih =>
      intro E
      have e : crashF E [] (x :: l) = crashF (if ([] : List Bool).getD x.1 false = true then downM E x.2 else E) [] l := rfl
      rw [e, ih]
      rfl
  show (crashF D [] _).plate = _
  rw [this]
end Go.Proofs.Ytaikgngigaohmaa
