/-
  The walks of prefix.DecodeAddr and Decode, by what version, bits and addr give. Nothing here is a statement of the document.
-/
import Derived.Test.YtfnagfmbhcaphaaDoorPfxK
namespace Go.Proofs.YtfnagfmbhcaphaaDoor
open Go.RowKit Go.Shelf
set_option linter.unusedVariables false
attribute [local go_sem ↓] load_b16_rule store_b16_rule load_ad_rule store_ad_rule load_px_rule store_px_rule eq_b16_rule eq_ad_rule eq_px_rule build_ad_rule build_px_rule

theorem results_cell_tmp2 {fn : Func} {p u t : Tmp} {ty : TypeId} (h : fn.results = #[.cell p ty, .tmp u, .tmp t]) (tmps : Array Value) (P : Program) (w : World) :
    (results fn tmps).run P w =
      ((asAddr (tmps.getD p undef)).run P w).andThen fun a w₁ => ((loadVar ty a).run P w₁).andThen fun v w₂ => .ok (.tuple #[v, tmps.getD u undef, tmps.getD t undef]) w₂ := by
  simp only [results, h]
  simp [Sem.run_bind, Result.andThen]
theorem results_blk2 {fn : Func} {p u t : Tmp} {ty : TypeId} (h : fn.results = #[.cell p ty, .tmp u, .tmp t]) (tmps : Array Value) (w : World) (g : Nat) (vs : Array Value) (d : TypeDesc)
    (hp : tmps.getD p undef = .pointer (some ⟨g, 0, none⟩)) (hb : Blk w g ty vs) (hu : Tryd.prog.underlying ty = some d) (hd : d.isRow = true) (hi : (Tryd.prog.info? ty).map (·.size) = some vs.size) :
    (results fn tmps).run Tryd.prog w = .ok (.tuple #[.agg vs, tmps.getD u undef, tmps.getD t undef]) w := by
  have hl := run_loadVar_row (P := Tryd.prog) w g ty ty vs (0, 0) d hb hu (by cases d <;> simp_all) hi
  rw [results_cell_tmp2 h, hp]
  simp [asAddr, hl, Result.andThen]

set_option maxRecDepth 100000 in
set_option maxHeartbeats 1600000 in
theorem decode_walk (a : Option Addr) (cap : Nat) (l : List Nat) (w : World) (hW : Wid w) (hlm : l.length ≤ 1100) (hc : l.length ≤ cap) (hcm : cap ≤ 9223372036854775807) (hL : Lies w a l) (v1 : Int) (x : Ad) (j1 j3 : Nat) (e1 e3 : Int) (wr1 wr3 : Bool) (n1 : Nat) (j2 : Nat) (e2 : Int) (wr2 : Bool)
    (hver : ∀ w' r p g, PR w' r p g (l.take 18) 0 0 (l.take 18).length 151 false → Wid w' → r ≠ 0 ∧ p ≠ 0 → Calls Tryd.prog 80 #[.pointer (some ⟨r, 0, none⟩)] w' fun e w'' => e = .returned (.int .i64 v1) ∧ PR w'' r p g (l.take 18) j1 e1 (l.take 18).length 151 wr1 ∧ Kept [r, p] w' w'')
    (hbits : ∀ w' r p g, PR w' r p g (l.take 18) j1 e1 (l.take 18).length 151 wr1 → Calls Tryd.prog 81 #[.pointer (some ⟨r, 0, none⟩), .int .i64 ((wid v1 : Nat) : Int)] w' fun e w'' => e = .returned (.int .i64 (n1 : Int)) ∧ PR w'' r p g (l.take 18) j2 e2 (l.take 18).length 151 wr2 ∧ Kept [r, p] w' w'')
    (haddr : ∀ w' r p g, PR w' r p g (l.take 18) j2 e2 (l.take 18).length 151 wr2 → Calls Tryd.prog 82 #[.pointer (some ⟨r, 0, none⟩), .int .i64 v1, .int .i64 (n1 : Int)] w' fun e w'' => e = .returned (.agg x.cs) ∧ PR w'' r p g (l.take 18) j3 e3 (l.take 18).length 151 wr3 ∧ Kept [r, p] w' w'')
    (E : Int) (hE : (if wr3 then 151 else e3) = E) (hj3 : j3 ≤ (l.take 18).length) :
    Calls Tryd.prog 72 #[.slice a l.length cap] w fun e w' => (E = 0 → e = .returned (.tuple #[.agg (Px.mk x (n1 : Int)).cs, .int .i64 (j3 : Int), .int .i64 0])) ∧ (E ≠ 0 → e = .returned (.tuple #[.agg Px.zero.cs, .int .i64 0, .int .i64 E])) ∧ Below w.heap.size w w' := by
  obtain ⟨W1, hW1⟩ : ∃ W1, w.alloc (.cells Px.zero.cs 29) = W1 := ⟨_, rfl⟩
  have hb1 : Below w.heap.size w W1 := by rw [← hW1]; exact (Below.refl _ _).alloc (Nat.le_refl _) _
  have b1 : Blk W1 w.heap.size 29 Px.zero.cs := by rw [← hW1]; exact Blk.new w _ _
  have hs1 : W1.heap.size = w.heap.size + 1 := by rw [← hW1]; simp
  have hw0 : 0 < w.heap.size := by have := cell_lt (hW 0 (by omega)); omega
  have hrd := fun fault => pread_any a cap l fault W1 hlm hc hcm (hL.kept hb1)
  have hwd := width_any v1
  have hlen18 : (l.take 18).length ≤ 18 := by rw [List.length_take]; omega
  generalize l.take 18 = L at *
  obtain ⟨n, hnn⟩ : ∃ n, l.length = n := ⟨_, rfl⟩
  rw [hnn] at hrd ⊢
  generalize wid v1 = ww at *
  have H1 := Lib.hid (And.intro hb1 (And.intro b1 (And.intro hs1 (And.intro hw0 (hW.later hb1)))))
  have HV := Lib.hid hver
  have HA := Lib.hid haddr
  have HBI := Lib.hid hbits
  have HR := Lib.hid hrd
  have HE := Lib.hid (And.intro hE (And.intro hj3 hlen18))
  have HWD := Lib.hid hwd
  have BZ := build_px0
  have BP := build_px x (n1 : Int)
  clear hver haddr hrd hE hj3 hlen18 hb1 b1 hs1 hw0 hW hlm hc hcm hL hwd hnn hbits
  go_enter Tryd.func72, Tryd.ntmps72
  go_wp2_with (with_reducible refine wpList_alloc_z rfl 29 rfl Px.zero.cs 18 z_px ?_)
  refine (HR.out 151).mono ?_
  rintro e w2 ⟨r, p, g, rfl, hr0, hp0, hP, hb2⟩
  have hk0 : Kept [r, p] W1 w2 := Kept.of_below _ hb2
  have hne : r ≠ 0 ∧ p ≠ 0 := by have := H1.out.2.2.1; omega
  have hvv := HV.out w2 r p g hP (H1.out.2.2.2.2.later hb2) hne
  have hWW := H1.out.2.2.2.2.later hb2
  clear hP hW1
  go_wp2_with fail
  refine hvv.mono ?_
  rintro e w3 ⟨rfl, hP3, hk3⟩
  have hk03 := hk0.trans hk3
  have hW3 : Wid w3 := hWW.kept hk3 (by simp; exact ⟨fun e => hne.1 e.symm, fun e => hne.2 e.symm⟩)
  have hn3 := HWD.out w3 hW3
  have hbb := HBI.out w3 r p g hP3
  clear hP3 hvv
  go_wp2_with (go_at_call 63; refine hn3.mono ?_; rintro e w' ⟨rfl, rfl⟩)
  refine hbb.mono ?_
  rintro e w4 ⟨rfl, hP4, hk4⟩
  have hk04 := hk03.trans hk4
  have haa := HA.out w4 r p g hP4
  clear hP4 hbb
  go_wp2_with fail
  refine haa.mono ?_
  rintro e w5 ⟨rfl, hP5, hk5⟩
  have hk05 := hk04.trans hk5
  have hs5 : w.heap.size < w5.heap.size := by have := hk05.size; have := H1.out.2.2.1; omega
  have hS5 := st_px (q := (Px.mk x (n1 : Int))) (Blk.new w5 29 Px.zero.cs)
  rw [World.setRow_alloc_new] at hS5
  obtain ⟨w6, hw6⟩ : ∃ w6, w5.alloc (.cells (Px.mk x (n1 : Int)).cs 29) = w6 := ⟨_, rfl⟩
  rw [hw6] at hS5
  have hb6 : Below w5.heap.size w5 w6 := by rw [← hw6]; exact (Below.refl _ _).alloc (Nat.le_refl _) _
  have b6 : Blk w6 w5.heap.size 29 (Px.mk x (n1 : Int)).cs := by rw [← hw6]; exact Blk.new w5 _ _
  have hP6 := hP5.below hb6
  have hk06 : Kept [r, p] W1 w6 := hk05.trans (Kept.of_below _ hb6)
  have her := preader_err hP6
  have htk := taken_any (hP6.below (Below.refl w6.heap.size w6).drew) (by have := HE.out.2.2; omega) (Nat.sub_le _ _)
  rw [HE.out.1] at her
  have hj := HE.out.2.1
  have ej : L.length - (L.length - j3) = j3 := by omega
  rw [ej] at htk
  have z6 : Blk w6 w.heap.size 29 Px.zero.cs := H1.out.2.1.kept hk06 (by simp; have := H1.out.2.2.1; omega)
  have HK := Lib.hid (And.intro z6 (And.intro hk06 (And.intro b6 hs5)))
  have hr1 : w.heap.size ≤ r := by have := H1.out.2.2.1; omega
  have hp1 : w.heap.size ≤ p := by have := H1.out.2.2.1; omega
  have hbel : Below w.heap.size w w6 := H1.out.1.trans (hk06.below (by simp; omega) H1.out.1.size)
  have HBE := Lib.hid hbel
  clear haa hk5 hk05 hb6 hP5 hP6 hk06 hw6 z6 hbel hk04 hk03 hk0 hk3 hj ej
  go_wp2_with (first | (with_reducible refine wpList_alloc_z rfl 29 rfl Px.zero.cs 18 z_px ?_))
  refine her.mono ?_
  rintro e w' ⟨rfl, rfl⟩
  by_cases h0 : E = 0
  · subst h0
    have L8 := px_p HK.out.2.2.1
    have hd0 : ((0 : Int) != 0) = false := rfl
    have HTK := Lib.hid htk
    clear htk
    go_wp2
    refine wp_region_linX (fun w' => (loadSem 29 (.pointer (some ⟨w5.heap.size, 0, none⟩))).run Tryd.prog w' = .ok (.agg (Px.mk x (n1 : Int)).cs) w') [2, 3] [0, 1, 2, 3, 4, 5] (by kernel_rfl) (by kernel_rfl) (L8 _ (bel_drew (Below.refl _ _))) ?_
    (repeat (first | (refine linX_off rfl rfl (by rfl) ?_; (try simp only [Act.put, List.getElem_toArray, List.getElem_cons_zero, List.getElem_cons_succ, List.setIfInBounds_toArray, List.set_cons_zero, List.set_cons_succ])) | (refine linX_op (v := ?_) rfl rfl (by rfl) (fun w9 hS9 => ?_) ?_; rotate_left; (focus (((try dsimp only at hS9); go_simp; (try go_bits)) <;> with_reducible rfl)); (try simp only [Act.put, List.getElem_toArray, List.getElem_cons_zero, List.getElem_cons_succ, List.setIfInBounds_toArray, List.set_cons_zero, List.set_cons_succ])) ))
    refine linX_call (f := 84) (args := #[.pointer (some ⟨r, 0, none⟩)]) rfl rfl (by rfl) rfl rfl (enters_of Tryd.func84 (by kernel_rfl) rfl) ?_ ?_; (focus (simp [Act.eval]; done))
    refine HTK.out.mono ?_
    rintro e w7 ⟨rfl, hb7⟩
    have hb7' : Below w6.heap.size w6 w7 := ⟨hb7.os, hb7.tape, hb7.output, hb7.size, hb7.block⟩
    refine ⟨_, rfl, L8 w7 hb7', ?_⟩
    (try simp only [Act.put, List.getElem_toArray, List.getElem_cons_zero, List.getElem_cons_succ, List.setIfInBounds_toArray, List.set_cons_zero, List.set_cons_succ])
    have hz7 := HK.out.1.later hb7'
    have hX7 := HK.out.2.2.1.later hb7'
    have S7 := st_px (q := (Px.mk x (n1 : Int))) hz7
    have hX8 := hX7.kept ((Kept.refl [w.heap.size] w7).setRow (g := w.heap.size) (.inl (by simp)) (Px.mk x (n1 : Int)).cs) (by simp; have := HK.out.2.2.2; omega)
    have L9 := px_p hX8 _ (Below.refl _ _)
    refine linX_store (w' := w7.setRow w.heap.size (Px.mk x (n1 : Int)).cs) rfl rfl (by rfl) (by go_simp) L9 ?_
    (try simp only [Act.put, List.getElem_toArray, List.getElem_cons_zero, List.getElem_cons_succ, List.setIfInBounds_toArray, List.set_cons_zero, List.set_cons_succ])
    have HX := Lib.hid (And.intro (hz7.row (Px.mk x (n1 : Int)).cs) (below_setRow (HBE.out.trans (hb7'.mono (Nat.le_of_lt (Nat.lt_trans HK.out.2.2.2 (by have := HK.out.2.2.1.lt; omega))))) (Nat.le_refl _) (Px.mk x (n1 : Int)).cs))
    clear hz7 hX7 hX8 hb7
    (repeat (first | (refine linX_off rfl rfl (by rfl) ?_; (try simp only [Act.put, List.getElem_toArray, List.getElem_cons_zero, List.getElem_cons_succ, List.setIfInBounds_toArray, List.set_cons_zero, List.set_cons_succ])) | (refine linX_op (v := ?_) rfl rfl (by rfl) (fun w9 hS9 => ?_) ?_; rotate_left; (focus (((try dsimp only at hS9); go_simp; (try go_bits)) <;> with_reducible rfl)); (try simp only [Act.put, List.getElem_toArray, List.getElem_cons_zero, List.getElem_cons_succ, List.setIfInBounds_toArray, List.set_cons_zero, List.set_cons_succ])) ))
    refine linX_nil ?_
    go_wp2
    refine bodyPost_ret (results_blk2 rfl _ _ w.heap.size _ _ rfl HX.out.1 Tryd.underlying29 rfl (s_px _)) rfl ?_
    first | exact ⟨fun _ => rfl, fun h => absurd rfl h, HX.out.2⟩ | exact ⟨rfl, HX.out.2⟩
  · have hd0 : (E != 0) = true := by simpa using h0
    have S7 := st_px (q := Px.zero) HK.out.1
    have HX := Lib.hid (And.intro (HK.out.1.row Px.zero.cs) (below_setRow HBE.out (Nat.le_refl _) Px.zero.cs))
    go_wp2
    refine bodyPost_ret (results_blk2 rfl _ _ w.heap.size _ _ rfl HX.out.1 Tryd.underlying29 rfl (s_px _)) rfl ?_
    exact ⟨fun h => absurd h h0, fun _ => rfl, HX.out.2⟩
end Go.Proofs.YtfnagfmbhcaphaaDoor
