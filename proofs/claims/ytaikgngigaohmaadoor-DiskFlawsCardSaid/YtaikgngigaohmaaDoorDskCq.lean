/-
  Copy of a disk that lives: its contract. Nothing here is a statement of the document.
-/
import Derived.Test.YtaikgngigaohmaaDoorDskCp
namespace Go.Proofs.YtaikgngigaohmaaDoor
open Go.RowKit Go.Shelf
set_option linter.unusedVariables false
theorem load_dd_rule (v : Value) : Instr.loadAt 68 v = loadSem 68 v := rfl
theorem store_dd_rule (v x : Value) : Instr.storeAt 68 v x = storeSem 68 v x := rfl
theorem size_dd : (Tryd.prog.info? 68).map (·.size) = some 8 := by kernel_rfl
theorem dcs_size (pb : Nat) (bv : Value) (D : Dk) : (dcs pb bv D).size = 8 := rfl
theorem dcs_one {w : World} {B p pb : Nat} {bv : Value} {D : Dk} (h : Dsk w B p pb bv D) : (dcs pb bv D).all (·.oneCell') = true := by
  obtain ⟨ba, bc, rfl⟩ := own_slice h.buf
  unfold dcs
  kernel_rfl
attribute [local go_sem ↓] copy_rule load_dd_rule store_dd_rule

set_option maxRecDepth 100000 in
set_option maxHeartbeats 4000000 in
theorem copy_any {w : World} {B p pb : Nat} {bv : Value} {D : Dk} (h : Dsk w B p pb bv D) :
    Calls Tryd.prog 24 #[.pointer (some ⟨p, 0, none⟩)] w fun e w' => ∃ bv', e = .returned (.pointer (some ⟨w.heap.size, 0, none⟩)) ∧ Dsk w' w.heap.size w.heap.size (w.heap.size + 1) bv' D ∧ Below w.heap.size w w' := by
  obtain ⟨i0, hi, hz0, hz1, hz2⟩ := info_parts i_blk
  have hok := h.ok
  obtain ⟨n, hn⟩ : ∃ n, D.plate.length = n := ⟨_, rfl⟩
  have hn8 : n ≤ 2048 := by rw [← hn]; exact hok.max
  -- the copy's own cells
  have LD : (loadSem 68 (.pointer (some ⟨p, 0, none⟩))).run Tryd.prog w = .ok (.agg (dcs pb bv D)) w := loadRes_of (o := 0) h.cells (fun q _ => by rw [Nat.zero_add]) _ Tryd.underlying68 rfl (by rw [dcs_size]; exact size_dd)
  obtain ⟨W1, hW1⟩ : ∃ W1, (w.alloc (.cells #[.slice none 0 0, .slice none 0 0, .bool false, .int .i64 0, .bool false, .int .i64 0, .bool false, .int .i64 0] 68)).setRow w.heap.size (dcs pb bv D) = W1 := ⟨_, rfl⟩
  have z1 : Blk (w.alloc (.cells #[.slice none 0 0, .slice none 0 0, .bool false, .int .i64 0, .bool false, .int .i64 0, .bool false, .int .i64 0] 68)) w.heap.size 68 #[.slice none 0 0, .slice none 0 0, .bool false, .int .i64 0, .bool false, .int .i64 0, .bool false, .int .i64 0] := Blk.new w _ _
  have SD : (storeSem 68 (.pointer (some ⟨w.heap.size, 0, none⟩)) (.agg (dcs pb bv D))).run Tryd.prog (w.alloc (.cells #[.slice none 0 0, .slice none 0 0, .bool false, .int .i64 0, .bool false, .int .i64 0, .bool false, .int .i64 0] 68)) = .ok () W1 := by
    have := storeRes_of (P := Tryd.prog) (ty := 68) (o := 0) (vs := dcs pb bv D) z1 (by rw [dcs_size]; decide) (by rw [dcs_size]; exact size_dd) (dcs_one h)
    rw [over_all (by rw [dcs_size]; rfl), hW1] at this
    exact this
  have hs1 : W1.heap.size = w.heap.size + 1 := by rw [← hW1]; simp
  have hb1 : Below w.heap.size w W1 := by rw [← hW1]; exact below_setRow ((Below.refl _ _).alloc (Nat.le_refl _) _) (Nat.le_refl _) _
  have b1 : Blk W1 w.heap.size 68 (dcs pb bv D) := by rw [← hW1]; exact z1.row _
  have h1 := h.later hb1
  -- its plate
  have hmk := run_make (P := Tryd.prog) W1 63 31 i0 (.agg Bk.zero.cs) Tryd.underlying63 hi hz0 .i64 .i64 (n : Int) (n : Int) (by omega) (by omega) (by rw [hz2]; omega) (by omega)
  rw [hz1, show (n : Int).toNat = n from by omega, made_blocks] at hmk
  obtain ⟨PC, hPC⟩ : ∃ PC, (pcs (List.replicate n Bk.zero)).toArray = PC := ⟨_, rfl⟩
  have hPs : PC.size = n * 64 := by rw [← hPC]; simp [pcs_length]
  rw [hPC] at hmk
  obtain ⟨W2, hW2⟩ : ∃ W2, W1.alloc (.cells PC 31) = W2 := ⟨_, rfl⟩
  rw [hW2, hs1] at hmk
  have hb2 : Below W1.heap.size W1 W2 := by rw [← hW2]; exact (Below.refl _ _).alloc (Nat.le_refl _) _
  have b2 := b1.kept (Kept.of_below [] hb2) (by simp)
  have p2 : Blk W2 (w.heap.size + 1) 31 PC := by rw [← hW2, ← hs1]; exact Blk.new W1 _ _
  have h2 := h1.later hb2
  -- it stands in the copy
  obtain ⟨W3, hW3⟩ : ∃ W3, W2.setCell ⟨w.heap.size, 0, none⟩ (.slice (some ⟨w.heap.size + 1, 0, none⟩) n n) = W3 := ⟨_, rfl⟩
  have k3 : Kept [w.heap.size] W2 W3 := by rw [← hW3]; exact (Kept.refl _ _).setCell (.inl (by simp)) _
  have hbb2 : Below w.heap.size w W2 := hb1.trans (hb2.mono hb1.size)
  have hbb3 := hbb2.trans (k3.below (by simp) hbb2.size)
  have b3 : Blk W3 w.heap.size 68 ((dcs pb bv D).setIfInBounds 0 (.slice (some ⟨w.heap.size + 1, 0, none⟩) n n)) := by rw [← hW3]; exact b2.set 0 _
  have p3 := p2.kept k3 (by simp)
  have hnf : w.heap.size ∉ fp p pb bv := h.beside (Nat.le_refl _)
  have h3 := h2.apart k3 (by simpa using hnf)
  -- the blocks
  have hsrc : ∀ j v, (pcs D.plate)[j]? = some v → W3.drew.cell? ((⟨pb, 0, none⟩ : Addr).add j) = some v := fun j v hj => by
    rw [Addr.add_lit, Nat.zero_add]
    have := h3.drew.plate.cell j
    rw [this]; simpa using hj
  have hcp := fun ty => copySem_run (n := n) ty n n p3.drew (by rw [pcs_length, hn]) hPs hsrc (pcs_one D.plate)
  obtain ⟨W4, hW4⟩ : ∃ W4, W3.drew.setRow (w.heap.size + 1) (pcs D.plate).toArray = W4 := ⟨_, rfl⟩
  simp only [hW4] at hcp
  have k4 : Kept [w.heap.size + 1] W3 W4 := by rw [← hW4]; exact ((Kept.refl _ W3).drew).setRow (.inl (by simp)) _
  have b4 := b3.kept k4 (by simp)
  have p4 : Blk W4 (w.heap.size + 1) 31 (pcs D.plate).toArray := by rw [← hW4]; exact p3.drew.row _
  have hnf2 : w.heap.size + 1 ∉ fp p pb bv := h.beside (Nat.le_succ _)
  have h4 := h3.apart k4 (by simpa using hnf2)
  have hbb4 := hbb3.trans (k4.below (by simp) hbb3.size)
  have hcl := clone_buf h4.buf hok.held
  have c0 := h1.c0
  have c30 : W3.cell? ⟨w.heap.size, 0, none⟩ = some (.slice (some ⟨w.heap.size + 1, 0, none⟩) n n) := b3.cell 0
  have c3p := h3.c0
  have c41 := h4.c1
  have x20 : W2.cell? ⟨w.heap.size, 0, none⟩ = some (.slice (some ⟨pb, 0, none⟩) D.plate.length D.plate.length) := b2.cell 0
  have x2f := b2.free 0
  have x41 : W4.cell? ⟨w.heap.size, 1, none⟩ = some bv := b4.cell 1
  have x4f := b4.free 1
  rw [hn] at c0 c3p x20
  have HN := Lib.hid hn
  have H4 := Lib.hid (And.intro hbb4 (And.intro b4 (And.intro p4 (And.intro h4 hok))))
  clear hn hi hz0 hz1 hz2 hok hW1 z1 hs1 hb1 b1 h1 hPC hPs hb2 b2 p2 h2 k3 hbb2 hbb3 b3 p3 hnf h3 hsrc k4 b4 p4 hnf2 h4 hbb4
  go_enter Tryd.func24, Tryd.ntmps24
  go_wp2_with fail
  go_region
  go_wp2_with fail
  refine hcl.mono ?_
  rintro e W5 ⟨v5, rfl, hown5, hb5⟩
  obtain ⟨ra, rc, rfl⟩ := own_slice hown5
  have b5 := H4.out.2.1.kept (Kept.of_below [] hb5) (by simp)
  have p5 := H4.out.2.2.1.kept (Kept.of_below [] hb5) (by simp)
  have x51 : W5.cell? ⟨w.heap.size, 1, none⟩ = some bv := b5.cell 1
  have x5f := b5.free 1
  obtain ⟨W6, hW6⟩ : ∃ W6, W5.setCell ⟨w.heap.size, 1, none⟩ (.slice ra D.rows.length rc) = W6 := ⟨_, rfl⟩
  have k6 : Kept [w.heap.size] W5 W6 := by rw [← hW6]; exact (Kept.refl _ _).setCell (.inl (by simp)) _
  have hbb5 := H4.out.1.trans (hb5.mono H4.out.1.size)
  have hbb6 := hbb5.trans (k6.below (by simp) hbb5.size)
  have hsz4 : w.heap.size + 1 < W4.heap.size := H4.out.2.2.1.lt
  have hfin : Dsk W6 w.heap.size w.heap.size (w.heap.size + 1) (.slice ra D.rows.length rc) D := by
    refine ⟨?_, p5.kept k6 (by simp), ?_, Nat.le_refl _, by omega, H4.out.2.2.2.2⟩
    · have : Blk W6 w.heap.size 68 (((dcs pb bv D).setIfInBounds 0 (.slice (some ⟨w.heap.size + 1, 0, none⟩) n n)).setIfInBounds 1 (.slice ra D.rows.length rc)) := by rw [← hW6]; exact b5.set 1 _
      have e : (((dcs pb bv D).setIfInBounds 0 (.slice (some ⟨w.heap.size + 1, 0, none⟩) n n)).setIfInBounds 1 (.slice ra D.rows.length rc)) = dcs (w.heap.size + 1) (.slice ra D.rows.length rc) D := by
        unfold dcs
        rw [HN.out]
        rfl
      rwa [e] at this
    · have h9 : W5.ownsRow w.heap.size 61 65 (.slice ra D.rows.length rc) D.rows.length (rcs D.rows) := by
        rcases hown5.2 with h8 | ⟨g, cap, cur, h8, hB, rest⟩
        · exact ⟨hown5.1, .inl h8⟩
        · exact ⟨hown5.1, .inr ⟨g, cap, cur, h8, by omega, rest⟩⟩
      exact own_kept0 h9 k6 (own_apart h9 b5 (by decide))
  have HE := Lib.hid (And.intro hfin hbb6)
  clear hfin hbb6 hbb5 k6 b5 p5 hown5 hb5 hsz4
  go_wp2_with fail
  go_ret
  exact ⟨_, rfl, HE.out.1, HE.out.2⟩
end Go.Proofs.YtaikgngigaohmaaDoor
