/-
  The contracts of disk's down and of slices.Delete on a buffer's head. Nothing here is a statement of the document.
-/
import Derived.Test.YtkfpkolgikpcpaaDskD
import Derived.Deep.RegionLaw
import Derived.Deep.RegionLawGrows
import Derived.Lib.SliceRun
namespace Go.Proofs.Ytkfpkolgikpcpaa
open Go.RowKit Go.Shelf
set_option linter.unusedVariables false

/-! ### down -/
def downM (D : Dk) (r : Rw) : Dk := { D with plate := D.plate.set r.s r.b }
theorem downM_ok {D : Dk} (h : D.Ok) (r : Rw) : (downM D r).Ok := ⟨by simpa [downM] using h.pos, by simpa [downM] using h.max, h.held, by simpa [downM] using h.at_, h.once, h.fuse, h.flaw⟩
theorem Dsk.platted {w : World} {B p pb : Nat} {bv : Value} {D : Dk} (h : Dsk w B p pb bv D) (r : Rw) (hr : r.s < D.plate.length) : Dsk (w.setRow pb (over (pcs D.plate).toArray (r.s * 64) r.b.cs)) B p pb bv (downM D r) := by
  have hk : Kept [pb] w (w.setRow pb (over (pcs D.plate).toArray (r.s * 64) r.b.cs)) := (Kept.refl _ _).setRow (.inl (by simp)) _
  refine ⟨?_, ?_, ?_, h.hp, h.hpb, downM_ok h.ok r⟩
  · have e : dcs pb bv (downM D r) = dcs pb bv D := by simp [dcs, downM]
    rw [e]
    exact h.cells.kept hk (by simpa using h.ne)
  · have e : over (pcs D.plate).toArray (r.s * 64) r.b.cs = (pcs (downM D r).plate).toArray := by
      simp only [over, downM]
      rw [pcs_set r.b hr]
    rw [← e]
    exact h.plate.row _
  · refine h.buf.kept (row := some pb) ⟨rfl, rfl, rfl, by simp, fun k _ hk => setRow_other w pb k _ (fun e => hk (by rw [e]))⟩ ?_
    cases e : bv.ownBlock with
    | none => exact .inl rfl
    | some k => exact .inr (fun e2 => (h.far k e).2.1 (by injection e2))

attribute [local go_sem ↓] load_blk_rule store_blk_rule

set_option maxHeartbeats 1000000 in
theorem down_any {w : World} {B p pb : Nat} {bv : Value} {D : Dk} (h : Dsk w B p pb bv D) (r : Rw) (hr : r.s < D.plate.length) :
    Calls Try.prog 53 #[.pointer (some ⟨p, 0, none⟩), .agg r.cs] w fun e w' => e = .returned (.tuple #[]) ∧ Dsk w' B p pb bv (downM D r) ∧ Kept [pb] w w' := by
  obtain ⟨W, hW⟩ : ∃ W, w.alloc (.cells r.cs 108) = W := ⟨_, rfl⟩
  have bx : Blk W w.heap.size 108 r.cs := by rw [← hW]; exact Blk.new _ _ _
  have hD : Dsk W B p pb bv D := by rw [← hW]; exact h.alloc _
  have hk : Kept [pb] w W := by rw [← hW]; exact (Kept.refl _ _).alloc _
  have c0 := hD.c0
  have cx : W.cell? ⟨w.heap.size, 0, none⟩ = some (.int .i64 (r.s : Int)) := by rw [bx.cell]; exact r.cell0
  have L : (loadSem 77 (.pointer (some ⟨w.heap.size, 1, none⟩))).run Try.prog W.drew = .ok (.agg r.b.cs) W.drew := loadRes_of (w := W.drew) bx (fun j _ => r.cell1 j) _ Try.underlying77 rfl (s_blk r.b)
  have S : (storeSem 77 (.pointer (some ⟨pb, r.s * 64, none⟩)) (.agg r.b.cs)).run Try.prog W.drew = .ok () (W.drew.setRow pb (over (pcs D.plate).toArray (r.s * 64) r.b.cs)) :=
    storeRes_of (w := W.drew) hD.plate (by have := pcs_length D.plate; rw [Bk.size]; simp; omega) (s_blk r.b) r.b.one
  have hil : (r.s : Int) < (D.plate.length : Int) := by omega
  have hE : Dsk (W.drew.setRow pb (over (pcs D.plate).toArray (r.s * 64) r.b.cs)) B p pb bv (downM D r) := hD.drew.platted r hr
  have hk2 : Kept [pb] w (W.drew.setRow pb (over (pcs D.plate).toArray (r.s * 64) r.b.cs)) := hk.drew.setRow (.inl (by simp)) _
  clear h hD
  generalize hcs : r.cs = cs at *
  clear hcs
  go_enter Try.func53, Try.ntmps53
  go_wp2_with fail
  clear hW
  go_region
  go_end0
  exact ⟨rfl, hE, hk2⟩

/-! ### slices.Delete on the head of a buffer -/
section
variable {P : Program}
/-- The builtin clear over elements of several cells: what lies ahead stays. -/
theorem wpList_clear_blk {ops : Array Oper} {rest : List Oper} {op : Oper} {a : Act} {w : World} {Q : Exit → Act → World → Prop} (hgd : op.guard = none) (x : Operand) (t e : TypeId) (ho : op.op = .call { callee := .builtin .clear, args := #[x], argTypes := #[t] })
    (ht : P.underlying t = some (.slice e)) (zs : Array Value) (k : Nat) (hz : (P.info? e).map (fun i => (i.zero, i.size)) = some (some (.agg zs), k)) (hzs : zs.size = k) (h1 : zs.all (·.oneCell') = true)
    (g off n c : Nat) (hx : a.eval x = .slice (some ⟨g, off, none⟩) n c) (hn : 0 < n) (C : Array Value) (t' : TypeId) (h : Blk w g t' C) (hfit : off + n * k ≤ C.size)
    (hK : ∀ C', C'.size = C.size → (∀ j, j < off → C'[j]? = C[j]?) → wpList P ops Q rest (a.put op.dst (.tuple #[])) (w.setRow g C')) : wpList P ops Q (op :: rest) a w := by
  refine wpList_plain hgd fun K hK' => ?_
  have hv := (zero_of_info hz).1
  obtain ⟨m, rfl⟩ : ∃ m, n = m + 1 := ⟨n - 1, by omega⟩
  obtain ⟨Z, hZ⟩ : ∃ Z, Z = Builtin.zeroCells zs (m + 1) := ⟨_, rfl⟩
  have hsz : Z.size = (m + 1) * k := by rw [hZ, size_zeroCells, hzs]
  have hone : ∀ v ∈ Z.toList, v.oneCell' = true := by
    intro v hv2
    rw [hZ] at hv2
    simp only [Builtin.zeroCells, Array.toList_map, List.mem_map] at hv2
    obtain ⟨i, hi, rfl⟩ := hv2
    have hpos : 0 < zs.size := by
      rcases Nat.eq_zero_or_pos zs.size with h0 | h0
      · rw [h0] at hi; simp at hi
      · exact h0
    have hlt : i % zs.size < zs.size := Nat.mod_lt _ hpos
    rw [getElem!_pos zs _ hlt]
    exact Array.all_eq_true_iff_forall_mem.1 h1 _ (Array.getElem_mem hlt)
  have hst := run_storeCells_cells (P := P) g off Z.toList 0 w (fun j hj => by rw [h.cell, Nat.add_zero, Array.getElem?_eq_getElem (by simp at hj; omega)]; rfl) (fun j hj => h.free _) hone
  simp only [Nat.add_zero] at hst
  rw [setCells_over h off Z (by omega)] at hst
  have hrun : (Builtin.clear_ #[t] op.type #[.slice (some ⟨g, off, none⟩) (m + 1) c]).run P w = .ok (.tuple #[]) (w.setRow g (over C off Z)) := by
    simp [Builtin.clear_, run_underlying ht, hv, Sem.run_bind, Result.andThen, Value.cells, ← hZ, hst]
  unfold Oper.wp
  simp [execOp, ho, resolve, invoke, builtin, hx, hrun, Result.andThen]
  refine hK' _ _ (hK _ (size_over (by omega)) (fun j hj => ?_))
  rw [over, List.getElem?_toArray, splice_get (by simp; omega), if_pos hj, Array.getElem?_toList]
end

theorem i_row : (Try.prog.info? 108).map (fun i => (i.zero, i.size, i.bytes)) = some (some (.agg Rw.zero.cs), 65, 72) := by kernel_rfl

set_option maxHeartbeats 400000 in
theorem delete_none (a : Option Addr) (len cap : Nat) (hle : len ≤ cap) (hm : cap ≤ 9223372036854775807) (w : World) :
    Calls Try.prog 90 #[.slice a len cap, .int .i64 0, .int .i64 0] w fun e w' => e = .returned (.slice a len cap) ∧ w = w' := by
  go_enter Try.func90, Try.ntmps90
  go_wp2
  go_ret
  exact ⟨rfl, rfl⟩

set_option maxHeartbeats 2000000 in
theorem delete_head {w : World} {B g len cap n : Nat} {R : List Rw} (h : w.ownsRow B 108 65 (.slice (some ⟨g, 0, none⟩) len cap) len (rcs R)) (hR : R.length = len) (hn0 : 1 ≤ n) (hn : n ≤ len) (hl8 : len ≤ 8) :
    Calls Try.prog 90 #[.slice (some ⟨g, 0, none⟩) len cap, .int .i64 0, .int .i64 (n : Int)] w fun e w' =>
      e = .returned (.slice (some ⟨g, 0, none⟩) (len - n) cap) ∧ w'.ownsRow B 108 65 (.slice (some ⟨g, 0, none⟩) (len - n) cap) (len - n) (rcs (R.drop n)) ∧ Kept [g] w w' := by
  obtain ⟨C, hC, hsz, hcap, hcm, hget⟩ := row_cells h
  have hB : B ≤ g := (h.lt g rfl).1
  have hcm2 : cap ≤ 9223372036854775807 := by unfold maxLen at hcm; omega
  obtain ⟨i0, hi, hz0, hz1, hz2⟩ := info_parts i_row
  obtain ⟨news, hnews⟩ : ∃ news, news = rcs (R.drop n) := ⟨_, rfl⟩
  have hnl : news.length = (len - n) * 65 := by rw [hnews, rcs_length]; simp [hR]
  have hnget : ∀ j u, news[j]? = some u → C[n * 65 + j]? = some u := by
    intro j u hj
    have hlt : j < (len - n) * 65 := by rw [← hnl]; exact (List.getElem?_eq_some_iff.1 hj).1
    rw [hget _ (by omega), ← hj, hnews, ← rcs_drop, List.getElem?_drop]
  obtain ⟨A, hA, hsrc⟩ : ∃ A : Addr, (if cap = n then some (⟨g, 0, none⟩ : Addr) else some ⟨g, n * 65, none⟩) = some A ∧ ∀ j u, news[j]? = some u → w.drew.cell? (A.add j) = some u := by
    by_cases hc : cap = n
    · refine ⟨⟨g, 0, none⟩, by simp [hc], fun j u hj => ?_⟩
      have : news.length = 0 := by rw [hnl]; omega
      rw [List.length_eq_zero_iff.1 this] at hj
      simp at hj
    · refine ⟨⟨g, n * 65, none⟩, by simp [hc], fun j u hj => ?_⟩
      rw [Addr.add_lit]
      show w.cell? _ = _
      rw [hC.cell]
      exact hnget j u hj
  have hroom : ∀ j, j < news.length → (w.drew.cell? ⟨g, 0 + 0 * 65 + j, none⟩).isSome = true ∧ w.drew.frozen? ⟨g, 0 + 0 * 65 + j, none⟩ = false := by
    intro j hj
    refine ⟨?_, hC.free _⟩
    show (w.cell? _).isSome = true
    rw [hC.cell, Array.getElem?_eq_getElem (by omega)]; rfl
  have hset : w.drew.setCells g (0 + 0 * 65) news = w.drew.setRow g (over C 0 news.toArray) := by
    have := setCells_over (w := w.drew) hC 0 news.toArray (by simp; omega)
    simpa using this
  obtain ⟨C1, hC1⟩ : ∃ C1, C1 = over C 0 news.toArray := ⟨_, rfl⟩
  have hs1 : C1.size = C.size := by rw [hC1]; exact size_over (by simp; omega)
  have hg1 : ∀ j, j < news.length → C1[j]? = news[j]? := by
    intro j hj
    rw [hC1, over, List.getElem?_toArray, splice_get (by simp; omega), if_neg (by omega), if_pos (by simp; omega)]
    simp
  obtain ⟨W1, hW1⟩ : ∃ W1, w.drew.setRow g C1 = W1 := ⟨_, rfl⟩
  have hb1 : Blk W1 g 108 C1 := by rw [← hW1]; exact (show Blk w.drew g _ C from hC).row _
  have hk1 : Kept [g] w W1 := by rw [← hW1]; exact (Kept.refl [g] w).drew.setRow (.inl (by simp)) _
  rw [← hC1, hW1] at hset
  have hfin : ∀ C', C'.size = C1.size → (∀ j, j < (len - n) * 65 → C'[j]? = C1[j]?) → (W1.setRow g C').ownsRow B 108 65 (.slice (some ⟨g, 0, none⟩) (len - n) cap) (len - n) (rcs (R.drop n)) ∧ Kept [g] w (W1.setRow g C') := by
    intro C' hs' hg'
    refine ⟨⟨by rw [rcs_length]; simp [hR], .inr ⟨g, cap, C', rfl, hB, hb1.row C', by omega, hcm, by omega, ?_⟩⟩, hk1.setRow (.inl (by simp)) _⟩
    apply List.ext_getElem?
    intro j
    rw [List.getElem?_take]
    by_cases hj : j < (len - n) * 65
    · rw [if_pos hj, Array.getElem?_toList, hg' j hj, hg1 j (by omega), hnews]
    · rw [if_neg hj, List.getElem?_eq_none (by rw [rcs_length]; simp [hR]; omega)]
  have h1c : ∀ u ∈ news, u.oneCell' = true := by rw [hnews]; exact rcs_one _
  have HS := Lib.hid hset
  have HSrc := Lib.hid hsrc
  have HRo := Lib.hid hroom
  have H1 := Lib.hid h1c
  have HNl := Lib.hid hnl
  have HF := Lib.hid hfin
  have hz65 : Rw.zero.cs.size = 65 := Rw.size _
  have HZ := Lib.hid hz65
  have hone := Rw.one Rw.zero
  have HO := Lib.hid hone
  have hfit : (len - n) * 65 + n * 65 ≤ C1.size := by omega
  clear hset hsrc hroom h1c hnl hfin hget hnget hnews hR h hC1 hg1 hW1 hk1 hz65 hone hs1 hsz
  have hnb : ((0 : Int) == (n : Int)) = false := by rw [beq_eq_false_iff_ne]; omega
  go_enter Try.func90, Try.ntmps90
  go_wp2_with fail
  go_region_law (refine step_append_room rfl (.tmp 22) (.tmp 25) 100 rfl 108 i0 65 Try.underlying100 hi hz1 g 0 0 cap (by simp [Act.eval, Act.put]) A (len - n) (cap - n) news (by simp [Act.eval, Act.put, hA]) HNl.out HSrc.out H1.out (by omega) HRo.out ?_; rw [HS.out])
  go_wp2_with (with_reducible refine wpList_clear_blk rfl (.tmp 31) 100 108 rfl Try.underlying100 Rw.zero.cs 65 z_row HZ.out HO.out g ((len - n) * 65) _ _ rfl ?_ C1 _ hb1 ?_ ?_)
  · omega
  · omega
  · intro C' hs' hg'
    have F := Lib.hid (HF.out C' hs' hg')
    clear hg' hs' HF
    go_wp2
    go_ret
    exact ⟨rfl, F.out.1, F.out.2⟩
end Go.Proofs.Ytkfpkolgikpcpaa
