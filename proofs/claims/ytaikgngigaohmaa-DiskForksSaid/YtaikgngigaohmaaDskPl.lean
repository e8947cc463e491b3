/-
  The walk of DiskPlays: deed by deed a disk answers as the document says. Nothing here is a statement of the document.
-/
import Derived.Test.YtaikgngigaohmaaDskMo
import Derived.Test.YtaikgngigaohmaaDskIs
import Derived.Test.YtaikgngigaohmaaDskEq
import Derived.Test.YtaikgngigaohmaaDskW
namespace Go.Proofs.Ytaikgngigaohmaa
open Go.RowKit Go.Shelf
set_option linter.unusedVariables false

/-- A disk and the document's, side by side; the document's stands in the box q. -/
structure Play (w W : World) (B q n : Nat) (bv pv rv : Value) (D : Dk) (M : Rk) : Prop where
  hb : Below w.heap.size w W
  dsk : Dsk W B (B + 1) B bv D
  box : Blk W q 32 (M.vals pv rv)
  rf : Ref W pv rv M
  ap : ∀ k, pv.ownBlock = some k → k ∉ fp (B + 1) B bv
  ag : Agree D M
  len : D.plate.length = n
  hB : w.heap.size ≤ B
  hq : w.heap.size ≤ q

theorem Play.fuse {w W : World} {B q n : Nat} {bv pv rv : Value} {D : Dk} {M : Rk} (h : Play w W B q n bv pv rv D M) : M.fuse ≤ 9223372036854775807 := by
  rw [h.ag.fuse]
  cases hf : D.fuse with
  | none => simp [encD]
  | some m => have := h.dsk.ok.fuse m hf; simp [encD]; omega
theorem Play.p0 {w W : World} {B q n : Nat} {bv pv rv : Value} {D : Dk} {M : Rk} (h : Play w W B q n bv pv rv D M) : 0 < M.plate.length ∧ M.plate.length ≤ 2048 ∧ M.rows.length ≤ 8 ∧ ∀ r ∈ M.rows, r.s < M.plate.length := by
  have ok := h.dsk.ok
  rw [h.ag.plate, h.ag.rows]
  exact ⟨ok.pos, ok.max, ok.held, ok.at_⟩
theorem Play.size {w W : World} {B q n : Nat} {bv pv rv : Value} {D : Dk} {M : Rk} (h : Play w W B q n bv pv rv D M) : B ≤ W.heap.size := by
  have := h.dsk.plate.lt; omega
theorem Play.later {w W W' : World} {B q n : Nat} {bv pv rv : Value} {D : Dk} {M : Rk} (h : Play w W B q n bv pv rv D M) (hb : Below W.heap.size W W') : Play w W' B q n bv pv rv D M :=
  ⟨h.hb.trans (hb.mono h.hb.size), h.dsk.later hb, h.box.kept (Kept.of_below [] hb) (by simp), h.rf.below hb, h.ap, h.ag, h.len, h.hB, h.hq⟩

theorem fp_types {W : World} {B p pb k : Nat} {bv : Value} {D : Dk} (h : Dsk W B p pb bv D) (hk : k ∈ fp p pb bv) : ∃ t C, Blk W k t C ∧ (t = 63 ∨ t = 38 ∨ t = 79) := by
  simp only [fp, List.mem_cons, Option.mem_toList] at hk
  rcases hk with rfl | rfl | h9
  · exact ⟨_, _, h.cells, .inl rfl⟩
  · exact ⟨_, _, h.plate, .inr (.inl rfl)⟩
  · rcases h.buf.2 with ⟨rfl, _⟩ | ⟨g, cap, cur, rfl, _, hg, _⟩
    · simp [Value.ownBlock] at h9
    · obtain rfl : g = k := by simpa [Value.ownBlock] using h9
      exact ⟨_, _, hg, .inr (.inr rfl)⟩
/-- Rows of the document's disk are no block of a disk. -/
theorem rows_apart {W : World} {B p pb n : Nat} {bv rv : Value} {D : Dk} {xs : List Value} (h : Dsk W B p pb bv D) (hr : W.ownsRow 0 74 65 rv n xs) : ∀ k, rv.ownBlock = some k → k ∉ fp p pb bv := by
  intro k hk hm
  obtain ⟨t, C, hb, ht⟩ := fp_types h hm
  have : 74 ≠ t := by rcases ht with rfl | rfl | rfl <;> decide
  exact own_apart hr hb this k hk (by simp)

/-- A deed has been done to the disk. -/
theorem Play.goes {w W W' : World} {B q n : Nat} {bv bv' pv rv : Value} {D D' : Dk} {M : Rk} (h : Play w W B q n bv pv rv D M) (hd : Dsk W' B (B + 1) B bv' D') (hg : Goes W W' (B + 1) B bv bv') :
    Below w.heap.size w W' ∧ Blk W' q 32 (M.vals pv rv) ∧ Ref W' pv rv M ∧ (∀ k, pv.ownBlock = some k → k ∉ fp (B + 1) B bv') := by
  have hqn : q ∉ fp (B + 1) B bv := h.dsk.sep h.box (by decide) (by decide) (by decide)
  refine ⟨?_, h.box.kept hg.kept hqn, ⟨own_kept0 h.rf.p hg.kept h.ap, own_kept0 h.rf.r hg.kept (rows_apart h.dsk h.rf.r)⟩, fun k hk hm => ?_⟩
  · have h1 := hg.below h.dsk h.size
    exact h.hb.trans ((h1.mono h.hB).mono (Nat.le_refl _))
  · simp only [fp, List.mem_cons, Option.mem_toList] at hm
    have ha := h.ap k hk
    simp only [fp, List.mem_cons, Option.mem_toList, not_or] at ha
    rcases hm with h9 | h9 | h9
    · exact ha.1 h9
    · exact ha.2.1 h9
    · rcases hg.new k h9 with h8 | h8
      · exact ha.2.2 h8
      · have := (h.rf.p.lt k hk).2; omega

theorem downsL_len : ∀ (l : List Rw) (P : List Bk), (downsL P l).length = P.length
  | [], _ => rfl
  | r :: l, P => by
    have e : downsL P (r :: l) = downsL (P.set r.s r.b) l := rfl
    rw [e, downsL_len l _, List.length_set]

/-- The document's disk in the box stands when nothing has gone down or is to fail. -/
structure Calm (w W : World) (B q : Nat) (bv pv rv : Value) (D : Dk) (M : Rk) (P : List Bk) : Prop where
  hb : Below w.heap.size w W
  dsk : Dsk W B (B + 1) B bv D
  box : Blk W q 32 (M.vals pv rv)
  rf : Ref W pv rv M
  ap : ∀ k, pv.ownBlock = some k → k ∉ fp (B + 1) B bv
  idle : Idle D P
  hB : w.heap.size ≤ B
theorem Calm.later {w W W' : World} {B q : Nat} {bv pv rv : Value} {D : Dk} {M : Rk} {P : List Bk} (h : Calm w W B q bv pv rv D M P) (hb : Below W.heap.size W W') : Calm w W' B q bv pv rv D M P :=
  ⟨h.hb.trans (hb.mono h.hb.size), h.dsk.later hb, h.box.kept (Kept.of_below [] hb) (by simp), h.rf.below hb, h.ap, h.idle, h.hB⟩
theorem Calm.goes {w W W' : World} {B q : Nat} {bv bv' pv rv : Value} {D D' : Dk} {M : Rk} {P P' : List Bk} (h : Calm w W B q bv pv rv D M P) (hd : Dsk W' B (B + 1) B bv' D') (hg : Goes W W' (B + 1) B bv bv') (hi : Idle D' P') : Calm w W' B q bv' pv rv D' M P' := by
  have hqn : q ∉ fp (B + 1) B bv := h.dsk.sep h.box (by decide) (by decide) (by decide)
  have hs : B ≤ W.heap.size := by have := h.dsk.plate.lt; omega
  refine ⟨h.hb.trans ((hg.below h.dsk hs).mono h.hB), hd, h.box.kept hg.kept hqn, ⟨own_kept0 h.rf.p hg.kept h.ap, own_kept0 h.rf.r hg.kept (rows_apart h.dsk h.rf.r)⟩, fun k hk hm => ?_, hi, h.hB⟩
  simp only [fp, List.mem_cons, Option.mem_toList] at hm
  have ha := h.ap k hk
  simp only [fp, List.mem_cons, Option.mem_toList, not_or] at ha
  rcases hm with h9 | h9 | h9
  · exact ha.1 h9
  · exact ha.2.1 h9
  · rcases hg.new k h9 with h8 | h8
    · exact ha.2.2 h8
    · have := (h.rf.p.lt k hk).2; omega
theorem Play.crash {w W W' : World} {B q n : Nat} {bv bv' pv rv : Value} {D D' : Dk} {M : Rk} {P : List Bk} (h : Play w W B q n bv pv rv D M) (hd : Dsk W' B (B + 1) B bv' D') (hg : Goes W W' (B + 1) B bv bv') (hi : Idle D' P) : Calm w W' B q bv' pv rv D' M P := by
  obtain ⟨h1, h2, h3, h4⟩ := h.goes hd hg
  exact ⟨h1, hd, h2, h3, h4, hi, h.hB⟩

/-- The document's disk behind a deed is laid into the box. -/
theorem Play.next {w W : World} {B q n : Nat} {bv pv' rv' : Value} {D' : Dk} {M' : Rk} {V : Array Value} (hb : Below w.heap.size w W) (hd : Dsk W B (B + 1) B bv D') (hx : Blk W q 32 V) (hr : Ref W pv' rv' M') (ha : ∀ k, pv'.ownBlock = some k → k ∉ fp (B + 1) B bv)
    (hag : Agree D' M') (hl : D'.plate.length = n) (hB : w.heap.size ≤ B) (hq : w.heap.size ≤ q) : Play w (W.setRow q (M'.vals pv' rv')) B q n bv pv' rv' D' M' := by
  have hk : Kept [q] W (W.setRow q (M'.vals pv' rv')) := (Kept.refl _ _).setRow (.inl (by simp)) _
  have hqn : q ∉ fp (B + 1) B bv := hd.sep hx (by decide) (by decide) (by decide)
  exact ⟨below_setRow hb hq _, hd.apart hk (by simpa using hqn), hx.row _, ⟨own_kept0 hr.p hk (own_apart hr.p hx (by decide)), own_kept0 hr.r hk (own_apart hr.r hx (by decide))⟩, ha, hag, hl, hB, hq⟩
set_option maxRecDepth 100000 in
set_option maxHeartbeats 2000000 in
theorem new_ref2 (n : Nat) (h1 : 1 ≤ n) (h2 : n ≤ 2048) (w : World) : Calls Try.prog 9 #[.int .i64 (n : Int)] w fun e w' =>
    ∃ g, e = .returned (.agg ((newR n).vals (.slice (some ⟨g, 0, none⟩) n n) (.slice none 0 0))) ∧ Ref w' (.slice (some ⟨g, 0, none⟩) n n) (.slice none 0 0) (newR n) ∧ Below w.heap.size w w' ∧ w.heap.size ≤ g := by
  obtain ⟨i0, hi, hz0, hz1, hz2⟩ := info_parts i_blk
  obtain ⟨W0, hW0⟩ : ∃ W0, w.alloc (.cells #[.slice none 0 0, .slice none 0 0, .int .i64 0, .int .i64 0, .bool false, .int .i64 0] 32) = W0 := ⟨_, rfl⟩
  have hmk := run_make (P := Try.prog) W0 29 38 i0 (.agg Bk.zero.cs) Try.underlying29 hi hz0 .i64 .i64 (n : Int) (n : Int) (by omega) (by omega) (by rw [hz2]; omega) (by omega)
  rw [hz1, show (n : Int).toNat = n from by omega, made_blocks] at hmk
  obtain ⟨PC, hPC⟩ : ∃ PC, (pcs (List.replicate n Bk.zero)).toArray = PC := ⟨_, rfl⟩
  rw [hPC] at hmk
  obtain ⟨W1, hW1⟩ : ∃ W1, W0.alloc (.cells PC 38) = W1 := ⟨_, rfl⟩
  rw [hW1] at hmk
  have hs0 : W0.heap.size = w.heap.size + 1 := by rw [← hW0]; simp
  have b0 : Blk W1 w.heap.size 32 #[.slice none 0 0, .slice none 0 0, .int .i64 0, .int .i64 0, .bool false, .int .i64 0] := by rw [← hW1, ← hW0]; exact (Blk.new w _ _).alloc _
  have b1 : Blk W1 W0.heap.size 38 PC := by rw [← hW1]; exact Blk.new W0 _ _
  have hb1 : Below w.heap.size w W1 := by rw [← hW1, ← hW0]; exact ((Below.refl _ _).alloc (Nat.le_refl _) _).alloc (by simp) _
  have hps : PC.size = n * 64 := by rw [← hPC]; simp [pcs_length]
  have hw := own_whole b1 n 64 hps (by unfold maxLen; omega)
  have hne : w.heap.size ≠ W0.heap.size := by omega
  have H := Lib.hid (And.intro hb1 (And.intro b1 (And.intro hPC (And.intro hps hne))))
  have c0 := b0.cell 0
  have c1 := b0.cell 1
  have c2 := b0.cell 2
  have c3 := b0.cell 3
  have c4 := b0.cell 4
  have c5 := b0.cell 5
  simp only [List.getElem?_toArray, List.getElem?_cons_zero, List.getElem?_cons_succ] at c0 c1 c2 c3 c4 c5
  have hR : ∃ W2, W1.setRow w.heap.size #[.slice (some ⟨W0.heap.size, 0, none⟩) n n, .slice none 0 0, .int .i64 (-1), .int .i64 (-1), .bool false, .int .i64 0] = W2 := ⟨_, rfl⟩
  obtain ⟨W2, hW2⟩ := hR
  have hs6 : ∀ xs : Array Value, xs.size = 6 → over #[.slice none 0 0, .slice none 0 0, .int .i64 0, .int .i64 0, .bool false, .int .i64 0] 0 xs = xs := fun xs hx => over_all (by rw [hx]; rfl)
  have b2 : Blk W2 w.heap.size 32 #[.slice (some ⟨W0.heap.size, 0, none⟩) n n, .slice none 0 0, .int .i64 (-1), .int .i64 (-1), .bool false, .int .i64 0] := by rw [← hW2]; exact b0.row _
  have hb2 : Below w.heap.size w W2 := by rw [← hW2]; exact below_setRow hb1 (Nat.le_refl _) _
  have b3 : Blk W2 W0.heap.size 38 PC := by
    rw [← hW2]
    exact b1.kept (S := [w.heap.size]) ((Kept.refl _ _).setRow (.inl (by simp)) _) (by simp; omega)
  have hw2 := own_whole b3 n 64 hps (by unfold maxLen; omega)
  rw [← hPC] at hw2
  have HE := Lib.hid (And.intro b2 (And.intro hb2 hw2))
  have HS := Lib.hid hs6
  have HS0 := Lib.hid hs0
  clear hw hb1 b1 hPC hps hne hi hz0 hz1 hz2 hW1 hs0 h1 h2 b2 hb2 b3 hw2 hs6 c0 c1 c2 c3 c4 c5
  go_enter Try.func9, Try.ntmps9
  go_wp2_with (with_reducible refine wpList_store_blk rfl 32 (.tmp 2) (.tmp 5) rfl w.heap.size 0 _ _ _ rfl rfl b0 (by simp) (by kernel_rfl) (by kernel_rfl) ?_; rw [HS.out _ rfl, hW2])
  refine bodyPost_ret (results_cell_row rfl _ _ w.heap.size 32 _ (0, 0) _ rfl HE.out.1 Try.underlying32 rfl (by kernel_rfl)) rfl ?_
  exact ⟨_, rfl, ⟨by simpa [newR] using HE.out.2.2, World.ownsRow_nil _ _ _ _⟩, HE.out.2.1, by have := HS0.out; omega⟩

end Go.Proofs.Ytaikgngigaohmaa
