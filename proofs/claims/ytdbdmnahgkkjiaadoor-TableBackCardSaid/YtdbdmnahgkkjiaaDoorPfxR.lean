/-
  The contracts of cmp.Compare and cmp.Or of ints, of prefix.Compare and of the reference's. Nothing here is a statement of the document.
-/
import Derived.Test.YtdbdmnahgkkjiaaDoorPfxK
import Derived.Test.YtdbdmnahgkkjiaaDoorDskA
namespace Go.Proofs.YtdbdmnahgkkjiaaDoor
open Go.RowKit Go.Shelf
set_option linter.unusedVariables false
attribute [local go_sem ↓] load_b16_rule store_b16_rule load_ad_rule store_ad_rule load_px_rule store_px_rule eq_b16_rule eq_ad_rule eq_px_rule build_ad_rule build_px_rule

theorem results_cell_tmp2 {fn : Func} {p u t : Tmp} {ty : TypeId} (h : fn.results = #[.cell p ty, .tmp u, .tmp t]) (tmps : Array Value) (P : Program) (w : World) :
    (results fn tmps).run P w =
      ((asAddr (tmps.getD p undef)).run P w).andThen fun a w₁ => ((loadVar ty a).run P w₁).andThen fun v w₂ => .ok (.tuple #[v, tmps.getD u undef, tmps.getD t undef]) w₂ := by
  simp only [results, h]
  simp [Sem.run_bind, Result.andThen]
theorem results_blk2 {fn : Func} {p u t : Tmp} {ty : TypeId} (h : fn.results = #[.cell p ty, .tmp u, .tmp t]) (tmps : Array Value) (w : World) (g : Nat) (vs : Array Value) (d : TypeDesc)
    (hp : tmps.getD p undef = .pointer (some ⟨g, 0, none⟩)) (hb : Blk w g ty vs) (hu : Tryd.prog.underlying ty = some d) (hd : d.isRow = true) (hi : (Tryd.prog.info? ty).map (·.size) = some vs.size) :
    (results fn tmps).run Tryd.prog w = .ok (.tuple #[.agg vs, tmps.getD u undef, tmps.getD t undef]) w := by
  have hl := run_loadVar_row (P := Tryd.prog) w g ty ty vs (0, 0) d hb hu (by cases d <;> simp_all) hi
  rw [results_cell_tmp2 h, hp]
  simp [asAddr, hl, Result.andThen]

set_option maxRecDepth 100000 in
set_option maxHeartbeats 1600000 in
theorem decode_walk (a : Option Addr) (cap : Nat) (l : List Nat) (w : World) (hW : Wid w) (hlm : l.length ≤ 4000) (hc : l.length ≤ cap) (hcm : cap ≤ 9223372036854775807) (hL : Lies w a l) (v1 : Int) (x : Ad) (j1 j3 : Nat) (e1 e3 : Int) (wr1 wr3 : Bool) (n1 : Nat) (j2 : Nat) (e2 : Int) (wr2 : Bool)
    (hver : ∀ w' r p g, PR w' r p g (l.take 18) 0 0 (l.take 18).length 151 false → Wid w' → r ≠ 0 ∧ p ≠ 0 → Calls Tryd.prog 69 #[.pointer (some ⟨r, 0, none⟩)] w' fun e w'' => e = .returned (.int .i64 v1) ∧ PR w'' r p g (l.take 18) j1 e1 (l.take 18).length 151 wr1 ∧ Kept [r, p] w' w'')
    (hbits : ∀ w' r p g, PR w' r p g (l.take 18) j1 e1 (l.take 18).length 151 wr1 → Calls Tryd.prog 70 #[.pointer (some ⟨r, 0, none⟩), .int .i64 ((wid v1 : Nat) : Int)] w' fun e w'' => e = .returned (.int .i64 (n1 : Int)) ∧ PR w'' r p g (l.take 18) j2 e2 (l.take 18).length 151 wr2 ∧ Kept [r, p] w' w'')
    (haddr : ∀ w' r p g, PR w' r p g (l.take 18) j2 e2 (l.take 18).length 151 wr2 → Calls Tryd.prog 71 #[.pointer (some ⟨r, 0, none⟩), .int .i64 v1, .int .i64 (n1 : Int)] w' fun e w'' => e = .returned (.agg x.cs) ∧ PR w'' r p g (l.take 18) j3 e3 (l.take 18).length 151 wr3 ∧ Kept [r, p] w' w'')
    (E : Int) (hE : (if wr3 then 151 else e3) = E) (hj3 : j3 ≤ (l.take 18).length) :
    Calls Tryd.prog 55 #[.slice a l.length cap] w fun e w' => (E = 0 → e = .returned (.tuple #[.agg (Px.mk x (n1 : Int)).cs, .int .i64 (j3 : Int), .int .i64 0])) ∧ (E ≠ 0 → e = .returned (.tuple #[.agg Px.zero.cs, .int .i64 0, .int .i64 E])) ∧ Below w.heap.size w w' := by
  obtain ⟨W1, hW1⟩ : ∃ W1, w.alloc (.cells Px.zero.cs 38) = W1 := ⟨_, rfl⟩
  have hb1 : Below w.heap.size w W1 := by rw [← hW1]; exact (Below.refl _ _).alloc (Nat.le_refl _) _
  have b1 : Blk W1 w.heap.size 38 Px.zero.cs := by rw [← hW1]; exact Blk.new w _ _
  have hs1 : W1.heap.size = w.heap.size + 1 := by rw [← hW1]; simp
  have hw0 : 0 < w.heap.size := by have := cell_lt (hW 0 (by omega)); omega
  have hrd := fun fault => pread_any a cap l fault W1 hlm hc hcm (hL.kept hb1)
  have hwd := width_any v1
  have hlen18 : (l.take 18).length ≤ 18 := by rw [List.length_take]; omega
  generalize l.take 18 = L at *
  obtain ⟨n, hnn⟩ : ∃ n, l.length = n := ⟨_, rfl⟩
  rw [hnn] at hrd ⊢
  generalize wid v1 = ww at *
  have H1 := Lib.hid (And.intro hb1 (And.intro b1 (And.intro hs1 (And.intro hw0 (hW.later hb1)))))
  have HV := Lib.hid hver
  have HA := Lib.hid haddr
  have HBI := Lib.hid hbits
  have HR := Lib.hid hrd
  have HE := Lib.hid (And.intro hE (And.intro hj3 hlen18))
  have HWD := Lib.hid hwd
  have BZ := build_px0
  have BP := build_px x (n1 : Int)
  clear hver haddr hrd hE hj3 hlen18 hb1 b1 hs1 hw0 hW hlm hc hcm hL hwd hnn hbits
  go_enter Tryd.func55, Tryd.ntmps55
  go_wp2_with (with_reducible refine wpList_alloc_z rfl 38 rfl Px.zero.cs 18 z_px ?_)
  refine (HR.out 151).mono ?_
  rintro e w2 ⟨r, p, g, rfl, hr0, hp0, hP, hb2⟩
  have hk0 : Kept [r, p] W1 w2 := Kept.of_below _ hb2
  have hne : r ≠ 0 ∧ p ≠ 0 := by have := H1.out.2.2.1; omega
  have hvv := HV.out w2 r p g hP (H1.out.2.2.2.2.later hb2) hne
  have hWW := H1.out.2.2.2.2.later hb2
  clear hP hW1
  go_wp2_with fail
  refine hvv.mono ?_
  rintro e w3 ⟨rfl, hP3, hk3⟩
  have hk03 := hk0.trans hk3
  have hW3 : Wid w3 := hWW.kept hk3 (by simp; exact ⟨fun e => hne.1 e.symm, fun e => hne.2 e.symm⟩)
  have hn3 := HWD.out w3 hW3
  have hbb := HBI.out w3 r p g hP3
  clear hP3 hvv
  go_wp2_with (go_at_call 59; refine hn3.mono ?_; rintro e w' ⟨rfl, rfl⟩)
  refine hbb.mono ?_
  rintro e w4 ⟨rfl, hP4, hk4⟩
  have hk04 := hk03.trans hk4
  have haa := HA.out w4 r p g hP4
  clear hP4 hbb
  go_wp2_with fail
  refine haa.mono ?_
  rintro e w5 ⟨rfl, hP5, hk5⟩
  have hk05 := hk04.trans hk5
  have hs5 : w.heap.size < w5.heap.size := by have := hk05.size; have := H1.out.2.2.1; omega
  have hS5 := st_px (q := (Px.mk x (n1 : Int))) (Blk.new w5 38 Px.zero.cs)
  rw [World.setRow_alloc_new] at hS5
  obtain ⟨w6, hw6⟩ : ∃ w6, w5.alloc (.cells (Px.mk x (n1 : Int)).cs 38) = w6 := ⟨_, rfl⟩
  rw [hw6] at hS5
  have hb6 : Below w5.heap.size w5 w6 := by rw [← hw6]; exact (Below.refl _ _).alloc (Nat.le_refl _) _
  have b6 : Blk w6 w5.heap.size 38 (Px.mk x (n1 : Int)).cs := by rw [← hw6]; exact Blk.new w5 _ _
  have hP6 := hP5.below hb6
  have hk06 : Kept [r, p] W1 w6 := hk05.trans (Kept.of_below _ hb6)
  have her := preader_err hP6
  have htk := taken_any (hP6.below (Below.refl w6.heap.size w6).drew) (by have := HE.out.2.2; omega) (Nat.sub_le _ _)
  rw [HE.out.1] at her
  have hj := HE.out.2.1
  have ej : L.length - (L.length - j3) = j3 := by omega
  rw [ej] at htk
  have z6 : Blk w6 w.heap.size 38 Px.zero.cs := H1.out.2.1.kept hk06 (by simp; have := H1.out.2.2.1; omega)
  have HK := Lib.hid (And.intro z6 (And.intro hk06 (And.intro b6 hs5)))
  have hr1 : w.heap.size ≤ r := by have := H1.out.2.2.1; omega
  have hp1 : w.heap.size ≤ p := by have := H1.out.2.2.1; omega
  have hbel : Below w.heap.size w w6 := H1.out.1.trans (hk06.below (by simp; omega) H1.out.1.size)
  have HBE := Lib.hid hbel
  clear haa hk5 hk05 hb6 hP5 hP6 hk06 hw6 z6 hbel hk04 hk03 hk0 hk3 hj ej
  go_wp2_with (first | (with_reducible refine wpList_alloc_z rfl 38 rfl Px.zero.cs 18 z_px ?_))
  refine her.mono ?_
  rintro e w' ⟨rfl, rfl⟩
  by_cases h0 : E = 0
  · subst h0
    have L8 := px_p HK.out.2.2.1
    have hd0 : ((0 : Int) != 0) = false := rfl
    have HTK := Lib.hid htk
    clear htk
    go_wp2
    refine wp_region_linX (fun w' => (loadSem 38 (.pointer (some ⟨w5.heap.size, 0, none⟩))).run Tryd.prog w' = .ok (.agg (Px.mk x (n1 : Int)).cs) w') [2, 3] [0, 1, 2, 3, 4, 5] (by kernel_rfl) (by kernel_rfl) (L8 _ (bel_drew (Below.refl _ _))) ?_
    (repeat (first | (refine linX_off rfl rfl (by rfl) ?_; (try simp only [Act.put, List.getElem_toArray, List.getElem_cons_zero, List.getElem_cons_succ, List.setIfInBounds_toArray, List.set_cons_zero, List.set_cons_succ])) | (refine linX_op (v := ?_) rfl rfl (by rfl) (fun w9 hS9 => ?_) ?_; rotate_left; (focus (((try dsimp only at hS9); go_simp; (try go_bits)) <;> with_reducible rfl)); (try simp only [Act.put, List.getElem_toArray, List.getElem_cons_zero, List.getElem_cons_succ, List.setIfInBounds_toArray, List.set_cons_zero, List.set_cons_succ])) ))
    refine linX_call (f := 73) (args := #[.pointer (some ⟨r, 0, none⟩)]) rfl rfl (by rfl) rfl rfl (enters_of Tryd.func73 (by kernel_rfl) rfl) ?_ ?_; (focus (simp [Act.eval]; done))
    refine HTK.out.mono ?_
    rintro e w7 ⟨rfl, hb7⟩
    have hb7' : Below w6.heap.size w6 w7 := ⟨hb7.os, hb7.tape, hb7.output, hb7.size, hb7.block⟩
    refine ⟨_, rfl, L8 w7 hb7', ?_⟩
    (try simp only [Act.put, List.getElem_toArray, List.getElem_cons_zero, List.getElem_cons_succ, List.setIfInBounds_toArray, List.set_cons_zero, List.set_cons_succ])
    have hz7 := HK.out.1.later hb7'
    have hX7 := HK.out.2.2.1.later hb7'
    have S7 := st_px (q := (Px.mk x (n1 : Int))) hz7
    have hX8 := hX7.kept ((Kept.refl [w.heap.size] w7).setRow (g := w.heap.size) (.inl (by simp)) (Px.mk x (n1 : Int)).cs) (by simp; have := HK.out.2.2.2; omega)
    have L9 := px_p hX8 _ (Below.refl _ _)
    refine linX_store (w' := w7.setRow w.heap.size (Px.mk x (n1 : Int)).cs) rfl rfl (by rfl) (by go_simp) L9 ?_
    (try simp only [Act.put, List.getElem_toArray, List.getElem_cons_zero, List.getElem_cons_succ, List.setIfInBounds_toArray, List.set_cons_zero, List.set_cons_succ])
    have HX := Lib.hid (And.intro (hz7.row (Px.mk x (n1 : Int)).cs) (below_setRow (HBE.out.trans (hb7'.mono (Nat.le_of_lt (Nat.lt_trans HK.out.2.2.2 (by have := HK.out.2.2.1.lt; omega))))) (Nat.le_refl _) (Px.mk x (n1 : Int)).cs))
    clear hz7 hX7 hX8 hb7
    (repeat (first | (refine linX_off rfl rfl (by rfl) ?_; (try simp only [Act.put, List.getElem_toArray, List.getElem_cons_zero, List.getElem_cons_succ, List.setIfInBounds_toArray, List.set_cons_zero, List.set_cons_succ])) | (refine linX_op (v := ?_) rfl rfl (by rfl) (fun w9 hS9 => ?_) ?_; rotate_left; (focus (((try dsimp only at hS9); go_simp; (try go_bits)) <;> with_reducible rfl)); (try simp only [Act.put, List.getElem_toArray, List.getElem_cons_zero, List.getElem_cons_succ, List.setIfInBounds_toArray, List.set_cons_zero, List.set_cons_succ])) ))
    refine linX_nil ?_
    go_wp2
    refine bodyPost_ret (results_blk2 rfl _ _ w.heap.size _ _ rfl HX.out.1 Tryd.underlying38 rfl (s_px _)) rfl ?_
    first | exact ⟨fun _ => rfl, fun h => absurd rfl h, HX.out.2⟩ | exact ⟨rfl, HX.out.2⟩
  · have hd0 : (E != 0) = true := by simpa using h0
    have S7 := st_px (q := Px.zero) HK.out.1
    have HX := Lib.hid (And.intro (HK.out.1.row Px.zero.cs) (below_setRow HBE.out (Nat.le_refl _) Px.zero.cs))
    go_wp2
    refine bodyPost_ret (results_blk2 rfl _ _ w.heap.size _ _ rfl HX.out.1 Tryd.underlying38 rfl (s_px _)) rfl ?_
    exact ⟨fun h => absurd h h0, fun _ => rfl, HX.out.2⟩
end Go.Proofs.YtdbdmnahgkkjiaaDoor
namespace Go.Proofs.YtdbdmnahgkkjiaaDoor
open Go.RowKit Go.Shelf
set_option linter.unusedVariables false

def padF (L : List Nat) (k n : Nat) : B16 := padB ((L.drop k).take (fill8 n))
noncomputable def bodyE (L : List Nat) (k n : Nat) (wrong : Int) : Int := if L.length < k + fill8 n then 7 else if keptB (padF L k n) n = padF L k n then 0 else wrong
def by0 (L : List Nat) : Nat := L.getD 0 0
def by1 (L : List Nat) : Nat := L.getD 1 0
noncomputable def decAE (L : List Nat) : Int := if L.length < 1 then 7 else if wid (by0 L : Int) = 0 then 150 else bodyE L 1 (wid (by0 L : Int)) 150
noncomputable def decAX (L : List Nat) : Ad := if decAE L = 0 then ⟨(by0 L : Int), padF L 1 (wid (by0 L : Int))⟩ else Ad.zero
noncomputable def decAN (L : List Nat) : Nat := if decAE L = 0 then 1 + fill8 (wid (by0 L : Int)) else 0
noncomputable def decPE (L : List Nat) : Int := if L.length < 1 then 7 else if wid (by0 L : Int) = 0 then 151 else if L.length < 2 then 7 else if wid (by0 L : Int) < by1 L then 151 else bodyE L 2 (by1 L) 151
noncomputable def decPX (L : List Nat) : Px := if decPE L = 0 then ⟨⟨(by0 L : Int), padF L 2 (by1 L)⟩, (by1 L : Int)⟩ else Px.zero
noncomputable def decPN (L : List Nat) : Nat := if decPE L = 0 then 2 + fill8 (by1 L) else 0

theorem t18_get (L : List Nat) (i : Nat) (h : i < 18) : (L.take 18).getD i 0 = L.getD i 0 := by simp [List.getElem?_take, h]
theorem t18_drop (L : List Nat) (k f : Nat) (h : k + f ≤ 18) : ((L.take 18).drop k).take f = (L.drop k).take f := by
  apply List.ext_getElem?
  intro i
  rw [List.getElem?_take, List.getElem?_take]
  by_cases hi : i < f
  · rw [if_pos hi, if_pos hi, List.getElem?_drop, List.getElem?_drop, List.getElem?_take, if_pos (by omega)]
  · rw [if_neg hi, if_neg hi]
theorem kept_pad_nil (n : Nat) : keptB (padB []) n = padB [] := by
  apply bt_ext
  intro i hi
  rw [bt_kept _ _ _ hi]
  have : ∀ i, i < 128 → bt (padB []) i = false := by decide +kernel
  rw [this i hi]
  simp
theorem fill8_le {n : Nat} (h : n ≤ 128) : fill8 n ≤ 16 := by unfold fill8; omega
/-- What the error comes to, the bytes of the number taken off at k. -/
theorem body_err (L : List Nat) (k n : Nat) (fault : Int) (wr : Bool) (hk : k ≤ (L.take 18).length) (hn : k + fill8 n ≤ 18) (hf : fault ≠ 0) :
    (if (if keptB (padB (came (L.take 18) k 0 (fill8 n : Nat))) n = padB (came (L.take 18) k 0 (fill8 n : Nat)) then wr else if (offTo (L.take 18).length k 0 (fill8 n : Nat)).2 = 0 then true else wr) = true then fault else (offTo (L.take 18).length k 0 (fill8 n : Nat)).2) = (if wr = true then fault else bodyE L k n fault) ∧
    (wr = false → bodyE L k n fault = 0 → (offTo (L.take 18).length k 0 (fill8 n : Nat)).1 = k + fill8 n ∧ padB (came (L.take 18) k 0 (fill8 n : Nat)) = padF L k n) ∧ (offTo (L.take 18).length k 0 (fill8 n : Nat)).1 ≤ (L.take 18).length := by
  have hlen : (L.take 18).length = min 18 L.length := List.length_take
  by_cases h : k + fill8 n ≤ (L.take 18).length
  · rw [came_some h, offTo_some h, t18_drop L k (fill8 n) hn]
    have h2 : ¬ L.length < k + fill8 n := by omega
    refine ⟨?_, fun _ _ => ⟨rfl, rfl⟩, h⟩
    unfold bodyE
    rw [if_neg h2]
    show (if (if keptB (padF L k n) n = padF L k n then wr else if (0 : Int) = 0 then true else wr) = true then fault else 0) = _
    by_cases h3 : keptB (padF L k n) n = padF L k n
    · rw [if_pos h3, if_pos h3]
    · rw [if_neg h3, if_neg h3]
      cases wr <;> simp
  · have hd : dry (L.take 18).length k 0 (fill8 n) := .inr (by omega)
    rw [came_none hk hd, offTo_none hk hd, if_pos (kept_pad_nil n)]
    have h2 : L.length < k + fill8 n := by omega
    unfold bodyE
    rw [if_pos h2]
    exact ⟨rfl, fun _ h9 => absurd h9 (by decide), hk⟩
theorem body_dry (L : List Nat) (k n : Nat) (fault e : Int) (wr : Bool) (he : e ≠ 0) :
    (if (if keptB (padB (came (L.take 18) k e (fill8 n : Nat))) n = padB (came (L.take 18) k e (fill8 n : Nat)) then wr else if (offTo (L.take 18).length k e (fill8 n : Nat)).2 = 0 then true else wr) = true then fault else (offTo (L.take 18).length k e (fill8 n : Nat)).2) = (if wr = true then fault else e) ∧ (offTo (L.take 18).length k e (fill8 n : Nat)).1 = k := by
  have h1 : offTo (L.take 18).length k e (fill8 n : Nat) = (k, e) := by unfold offTo; rw [if_pos he]
  rw [h1]
  refine ⟨?_, rfl⟩
  show (if (if _ then wr else if e = 0 then true else wr) = true then fault else e) = _
  rw [if_neg he]
  split <;> rfl
theorem px_ans {L : List Nat} (h : decPE L ≠ 0) : decPX L = Px.zero ∧ decPN L = 0 := ⟨if_neg h, if_neg h⟩
theorem ad_ans {L : List Nat} (h : decAE L ≠ 0) : decAX L = Ad.zero ∧ decAN L = 0 := ⟨if_neg h, if_neg h⟩

theorem decode_any (a : Option Addr) (cap : Nat) (l : List Nat) (w : World) (hW : Wid w) (hB : Bys l) (hlm : l.length ≤ 4000) (hc : l.length ≤ cap) (hcm : cap ≤ 9223372036854775807) (hL : Lies w a l) :
    Calls Tryd.prog 55 #[.slice a l.length cap] w fun e w' => e = .returned (.tuple #[.agg (decPX l).cs, .int .i64 (decPN l : Int), .int .i64 (decPE l)]) ∧ Below w.heap.size w w' := by
  have hB' := Bys.take2 hB 18
  have hlen : (l.take 18).length = min 18 l.length := List.length_take
  by_cases h1 : l.length < 1
  · have hE : decPE l = 7 := if_pos h1
    obtain ⟨q1, q2⟩ := body_dry l 0 0 151 7 false (by omega)
    refine (decode_walk a cap l w hW hlm hc hcm hL 0 _ 0 _ 7 _ false _ 0 0 7 false (fun w' r p g h hw hne => (version_none h hB' (by omega) (Nat.zero_le _) (.inr (by omega)) hw hne)) (fun w' r p g h => bits_none h hB' (by omega) (Nat.zero_le _) (.inl (by omega)) (wid 0)) (fun w' r p g h => addr_any h hB' (by omega) 0 0 (by decide)) 7 q1 (by rw [q2]; omega)).mono ?_
    rintro e w' ⟨_, h3, h4⟩
    obtain ⟨e1, e2⟩ := px_ans (L := l) (by rw [hE]; omega)
    exact ⟨by rw [e1, e2, hE]; exact h3 (by omega), h4⟩
  · have hv : (l.take 18).getD 0 0 = by0 l := t18_get l 0 (by omega)
    have hw128 := wid_le (by0 l : Int)
    have hx0 := hB.at 0
    by_cases h2 : l.length < 2
    · obtain ⟨q1, q2⟩ := body_dry l 1 0 151 7 (false || decide (wid (by0 l : Int) = 0)) (by omega)
      have hE : decPE l ≠ 0 := by unfold decPE; rw [if_neg h1]; split <;> omega
      refine (decode_walk a cap l w hW hlm hc hcm hL (by0 l : Int) _ 1 _ 0 _ (false || decide (wid (by0 l : Int) = 0)) _ 0 1 7 (false || decide (wid (by0 l : Int) = 0)) (fun w' r p g h hw hne => ?_) (fun w' r p g h => bits_none h hB' (by omega) (by omega) (.inr (by omega)) (wid (by0 l : Int))) (fun w' r p g h => addr_any h hB' (by omega) (by0 l : Int) 0 (by decide)) (decPE l) ?_ (by rw [q2]; omega)).mono ?_
      · have := version_some h hB' (by omega) (by omega) hw hne
        rw [hv] at this
        exact this
      · rw [q1]
        unfold decPE
        rw [if_neg h1]
        by_cases h3 : wid (by0 l : Int) = 0
        · rw [if_pos h3]; simp [h3]
        · rw [if_neg h3, if_pos h2]; simp [h3]
      · rintro e w' ⟨_, h3, h4⟩
        obtain ⟨e1, e2⟩ := px_ans hE
        exact ⟨by rw [e1, e2]; exact h3 hE, h4⟩
    · have hv1 : (l.take 18).getD 1 0 = by1 l := t18_get l 1 (by omega)
      have hx1 : by1 l < 256 := hB.at 1
      have hbits := fun w' r p g (h : PR w' r p g (l.take 18) 1 0 (l.take 18).length 151 (false || decide (wid (by0 l : Int) = 0))) => bits_some h hB' (by omega) (by omega) (wid (by0 l : Int))
      rw [hv1] at hbits
      have hver := fun w' r p g (h : PR w' r p g (l.take 18) 0 0 (l.take 18).length 151 false) (hw : Wid w') (hne : r ≠ 0 ∧ p ≠ 0) => version_some h hB' (by omega) (by omega) hw hne
      rw [hv] at hver
      generalize hwr : ((false || decide (wid (by0 l : Int) = 0)) || decide (wid (by0 l : Int) < by1 l)) = wr at hbits
      by_cases hsm : by1 l ≤ 128
      · obtain ⟨q1, q2, q3⟩ := body_err l 2 (by1 l) 151 wr (by omega) (by have := fill8_le hsm; omega) (by omega)
        refine (decode_walk a cap l w hW hlm hc hcm hL (by0 l : Int) _ 1 _ 0 _ _ _ (by1 l) 2 0 wr hver hbits (fun w' r p g h => addr_any h hB' (by omega) (by0 l : Int) (by1 l) (by omega)) (decPE l) ?_ q3).mono ?_
        · rw [q1, ← hwr]
          unfold decPE
          rw [if_neg h1]
          by_cases h3 : wid (by0 l : Int) = 0
          · rw [if_pos h3]; simp [h3]
          · rw [if_neg h3, if_neg h2]
            by_cases h5 : wid (by0 l : Int) < by1 l
            · rw [if_pos h5]; simp [h5]
            · rw [if_neg h5]; simp [h3, h5]
        · rintro e w' ⟨h3, h5, h4⟩
          refine ⟨?_, h4⟩
          by_cases h0 : decPE l = 0
          · have hu := h0
            unfold decPE at hu
            rw [if_neg h1] at hu
            have hw0 : wid (by0 l : Int) ≠ 0 := fun h9 => by rw [if_pos h9] at hu; omega
            rw [if_neg hw0, if_neg h2] at hu
            have hlt : ¬ wid (by0 l : Int) < by1 l := fun h9 => by rw [if_pos h9] at hu; omega
            rw [if_neg hlt] at hu
            obtain ⟨e1, e2⟩ := q2 (by rw [← hwr]; simp [hw0]; omega) hu
            have e3 := h3 h0
            rw [e1, e2] at e3
            rw [h0, show decPX l = _ from if_pos h0, show decPN l = _ from if_pos h0]
            exact e3
          · obtain ⟨e1, e2⟩ := px_ans h0
            rw [e1, e2]
            exact h5 h0
      · have hlt : wid (by0 l : Int) < by1 l := by omega
        have hwr2 : wr = true := by rw [← hwr]; simp [hlt]
        have hE : decPE l = 151 := by
          unfold decPE
          rw [if_neg h1]
          split
          · rfl
          · first | rfl | rw [if_neg h2, if_pos hlt]
        subst hwr2
        have q1 : ∀ (c : Prop) [Decidable c] (e3 : Int), (if (if c then true else if e3 = 0 then true else true) = true then (151 : Int) else e3) = 151 := fun c _ e3 => by split <;> simp_all
        have q3 : (offTo (l.take 18).length 2 0 (fill8 (by1 l) : Nat)).1 ≤ (l.take 18).length := by
          unfold offTo
          rw [if_neg (by simp), if_neg (by omega)]
          split
          · show 2 ≤ _
            omega
          · show 2 + _ ≤ _
            omega
        refine (decode_walk a cap l w hW hlm hc hcm hL (by0 l : Int) _ 1 _ 0 _ _ _ (by1 l) 2 0 true hver hbits (fun w' r p g h => addr_any h hB' (by omega) (by0 l : Int) (by1 l) (by omega)) 151 (q1 _ _) q3).mono ?_
        rintro e w' ⟨_, h3, h4⟩
        obtain ⟨e1, e2⟩ := px_ans (L := l) (by rw [hE]; omega)
        exact ⟨by rw [e1, e2, hE]; exact h3 (by omega), h4⟩
end Go.Proofs.YtdbdmnahgkkjiaaDoor
namespace Go.Proofs.YtdbdmnahgkkjiaaDoor
open Go.RowKit Go.Shelf
set_option linter.unusedVariables false

theorem build_b16_rule (ps : Array (Nat × Value)) : Instr.build 34 ps = buildSem 34 ps := rfl
def tenB : B16 := ⟨[10, 1, 2, 3, 0, 0, 0, 0, 0, 0, 0, 0, 0, 0, 0, 0], rfl, by unfold Bys; decide⟩
def ten8 : B16 := ⟨[10, 0, 0, 0, 0, 0, 0, 0, 0, 0, 0, 0, 0, 0, 0, 0], rfl, by unfold Bys; decide⟩
def tenA : Ad := ⟨4, tenB⟩
def tenP : Px := ⟨⟨4, ten8⟩, 8⟩
theorem build_ten (w : World) : (buildSem 34 #[(0, .int .u8 10), (1, .int .u8 1), (2, .int .u8 2), (3, .int .u8 3)]).run Tryd.prog w = .ok (.agg tenB.cs) w := by kernel_rfl
theorem ten_kept : keptB tenB 8 = ten8 := B16.same rfl
theorem ten8_kept : keptB ten8 8 = ten8 := B16.same rfl
theorem ten_clear : clear tenB 32 := by
  have : ∀ i, i < 128 → 32 ≤ i → bt tenB i = false := by decide +kernel
  exact fun i h1 h2 => this i h2 h1
theorem ten8_clear : clear ten8 8 := (kept_iff _ _).1 ten8_kept
theorem ten_okA : okA tenA := ⟨by decide, ten_clear⟩
theorem ten_okP : okP tenP := ⟨⟨by decide, clear_mono ten8_clear (by decide)⟩, by decide, by decide, ten8_clear⟩
theorem ten_ofP : ofP tenA 8 = tenP := by
  have : ofP tenA 8 = ⟨⟨4, keptB tenB 8⟩, 8⟩ := if_pos ⟨ten_okA, by decide, by decide⟩
  rw [this, ten_kept]
  rfl
theorem ten_ofE : ofE tenA 8 = 0 := by
  unfold ofE
  rw [if_pos ten_okA, if_pos (by decide)]
theorem ten_hasM : hasM tenP tenA := ⟨ten_okP, ten_okA, rfl, ten_kept.symm⟩
theorem ten_enc : encP tenP = [4, 8, 10] := rfl
theorem ten_decE : decPE [4, 8, 10] = 0 := by
  unfold decPE
  rw [if_neg (by decide), if_neg (by decide), if_neg (by decide), if_neg (by decide)]
  unfold bodyE
  have e : padF [4, 8, 10] 2 (by1 [4, 8, 10]) = ten8 := B16.same rfl
  rw [if_neg (by decide), e, show by1 [4, 8, 10] = 8 from rfl, if_pos ten8_kept]
theorem ten_decX : decPX [4, 8, 10] = tenP := by
  have h : decPX [4, 8, 10] = ⟨⟨(by0 [4, 8, 10] : Int), padF [4, 8, 10] 2 (by1 [4, 8, 10])⟩, (by1 [4, 8, 10] : Int)⟩ := if_pos ten_decE
  have e : padF [4, 8, 10] 2 (by1 [4, 8, 10]) = ten8 := B16.same rfl
  rw [h, e]
  rfl
theorem ten_decN : decPN [4, 8, 10] = 3 := by
  have h : decPN [4, 8, 10] = 2 + fill8 (by1 [4, 8, 10]) := if_pos ten_decE
  rw [h]
  rfl
theorem ten_nib : nibW tenA 1 = 10 := by
  unfold nibW
  rw [if_pos (by decide)]
  unfold nibV bitV
  rw [if_pos ⟨ten_okA, by decide, by decide⟩, if_pos ⟨ten_okA, by decide, by decide⟩, if_pos ⟨ten_okA, by decide, by decide⟩, if_pos ⟨ten_okA, by decide, by decide⟩]
  decide +kernel
/-- What owns a row of bytes lies. -/
theorem own_lies {w : World} {B : Nat} {v : Value} {l : List Nat} (h : w.ownsRow B 5 1 v l.length (l.map byc)) : ∃ a cap, v = .slice a l.length cap ∧ Lies w a l ∧ l.length ≤ cap ∧ cap ≤ 9223372036854775807 ∧ (a = none → l = []) := by
  rcases h.2 with ⟨rfl, h0⟩ | ⟨g, cap, cur, rfl, hb, hg, hc, hm, hs, ht⟩
  · have : l = [] := List.eq_nil_of_length_eq_zero h0
    subst this
    exact ⟨none, 0, rfl, .inl rfl, Nat.le_refl _, by omega, fun _ => rfl⟩
  · refine ⟨_, cap, rfl, ?_, hc, by unfold maxLen at hm; omega, fun e => by cases e⟩
    refine .inr ⟨g, 0, rfl, (Array.getElem?_eq_some_iff.1 hg).1, fun i hi => ?_⟩
    rw [Nat.zero_add]
    have h1 : cur.toList[i]? = (l.map byc)[i]? := by
      rw [← ht, List.getElem?_take, if_pos (by omega)]
    have h2 : w.cell? ⟨g, i, none⟩ = cur[i]? := cell_of_row w g i cur _ (0, 0) hg
    rw [h2, ← Array.getElem?_toList, h1]
    simp [byc, hi]
attribute [local go_sem ↓] load_b16_rule store_b16_rule load_ad_rule store_ad_rule load_px_rule store_px_rule eq_b16_rule eq_ad_rule eq_px_rule build_ad_rule build_px_rule build_b16_rule

end Go.Proofs.YtdbdmnahgkkjiaaDoor
namespace Go.Proofs.YtdbdmnahgkkjiaaDoor
open Go.RowKit Go.Shelf
set_option linter.unusedVariables false

/-- Which of two ints comes first. -/
def cmpI (x y : Int) : Int := if x < y then -1 else if y < x then 1 else 0
/-- The first one that is not nought. -/
def orL : List Int → Int
  | [] => 0
  | x :: l => if x = 0 then orL l else x
noncomputable def cmpP (p q : Px) : Int := orL [cmpI p.a.v q.a.v, cmpB p.a.b.l q.a.b.l, cmpI p.n q.n]
set_option maxHeartbeats 400000 in
theorem nanI (x : Int) (w : World) : Calls Tryd.prog 77 #[.int .i64 x] w fun e w' => e = .returned (.bool false) ∧ w = w' := by
  have h : (x != x) = false := by simp
  go_enter Tryd.func77, Tryd.ntmps77
  go_wp2
  go_ret
  exact ⟨rfl, rfl⟩
set_option maxHeartbeats 800000 in
theorem cmpI_any (x y : Int) (w : World) : Calls Tryd.prog 66 #[.int .i64 x, .int .i64 y] w fun e w' => e = .returned (.int .i64 (cmpI x y)) ∧ w = w' := by
  have h3 : (decide (x < y) = true ∧ cmpI x y = -1) ∨ (decide (x < y) = false ∧ decide (y < x) = true ∧ cmpI x y = 1) ∨ (decide (x < y) = false ∧ decide (y < x) = false ∧ cmpI x y = 0) := by
    unfold cmpI
    by_cases h1 : x < y
    · simp [h1]
    · by_cases h2 : y < x
      · simp [h1, h2]
      · simp [h1, h2]
  generalize cmpI x y = z at *
  rcases h3 with ⟨d1, rfl⟩ | ⟨d1, d2, rfl⟩ | ⟨d1, d2, rfl⟩
  all_goals
    go_enter Tryd.func66, Tryd.ntmps66
    go_wp2_with (go_at_call 77; refine (nanI _ _).mono ?_; rintro e w' ⟨rfl, rfl⟩)
    go_ret
    exact ⟨rfl, rfl⟩
theorem or_drop (l : List Int) (k : Nat) (h : k < l.length) : orL (l.drop k) = if l.getD k 0 = 0 then orL (l.drop (k + 1)) else l.getD k 0 := by
  rw [List.drop_eq_getElem_cons h]
  simp [orL, h]
set_option maxHeartbeats 800000 in
theorem or_any (l : List Int) (n : Nat) (hn : l.length = n) (hm : n < 100) (g : Nat) (w : World) (hc : ∀ j, j < n → w.cell? ⟨g, j, none⟩ = some (.int .i64 (l.getD j 0))) : Calls Tryd.prog 65 #[.slice (some ⟨g, 0, none⟩) n n] w fun e w' => e = .returned (.int .i64 (orL l)) ∧ w = w' := by
  have H := Lib.hid (And.intro hn hc)
  clear hn hc
  go_enter Tryd.func65, Tryd.ntmps65
  go_wp2_with fail
  go_loopw [5, 8] (fun u i wr => ∃ k : Nat, k ≤ n ∧ i = .int .i64 k ∧ orL (l.drop k) = orL l ∧ wr = w) (fun u i _ => n - (intOf i).toNat)
  case atStart => exact ⟨0, Nat.zero_le _, rfl, by rw [List.drop_zero], by trivial⟩
  case round =>
    obtain ⟨k, hk, rfl, ho, rfl⟩ := hrel
    by_cases hlt : k < n
    · have hc := H.out.2 k hlt
      have hd := or_drop l k (by have := H.out.1; omega)
      have HO := Lib.hid (And.intro ho hd)
      generalize l.getD k 0 = x at *
      clear ho hd
      by_cases hx : x = 0
      · have HX := Lib.hid hx
        have d1 : (x != 0) = false := by simp [hx]
        clear hx
        go_wp2
        go_roundw
        case rel => exact ⟨k + 1, by omega, by go_num, by rw [← HO.out.1, HO.out.2, if_pos HX.out], by trivial⟩
        case measure => simp [intOf]; omega
      · have d1 : (x != 0) = true := by simp [hx]
        have HX := Lib.hid hx
        clear hx
        go_wp2
        go_ret
        exact ⟨by rw [← HO.out.1, HO.out.2, if_neg HX.out]; rfl, rfl⟩
    · obtain rfl : k = n := by omega
      have HO := Lib.hid (show orL l = 0 by rw [← ho, List.drop_eq_nil_of_le (by have := H.out.1; omega)]; rfl)
      clear ho
      go_wp2
      go_ret
      exact ⟨by rw [HO.out]; rfl, rfl⟩

attribute [local go_sem ↓] load_b16_rule store_b16_rule load_ad_rule store_ad_rule load_px_rule store_px_rule eq_b16_rule eq_ad_rule eq_px_rule build_ad_rule build_px_rule build_b16_rule

theorem px_lies {W : World} {g : Nat} {p : Px} (h : Blk W g 38 p.cs) : ∀ w', Below W.heap.size W w' → Lies w' (some ⟨g, 1, none⟩) p.a.b.l := fun w' hb => by
  have h' := h.later hb
  refine .inr ⟨g, 1, rfl, h'.lt, fun i hi => ?_⟩
  have hi16 : i < 16 := by rw [← p.a.b.len]; exact hi
  rw [h'.cell, p.cb i hi16, p.a.b.get i hi16]
  simp [B16.at, hi]

set_option maxRecDepth 100000 in
set_option maxHeartbeats 1600000 in
theorem compare_any (p q : Px) (w : World) : Calls Tryd.prog 49 #[.agg p.cs, .agg q.cs] w fun e w' => e = .returned (.int .i64 (cmpP p q)) ∧ Below w.heap.size w w' := by
  obtain ⟨W1, hW1⟩ : ∃ W1, (w.alloc (.cells p.cs 38)).alloc (.cells q.cs 38) = W1 := ⟨_, rfl⟩
  have hb1 : Below w.heap.size w W1 := by rw [← hW1]; exact (((Below.refl w.heap.size w).alloc (Nat.le_refl _) _).alloc (by simp) _)
  have b1 : Blk W1 (w.heap.size) 38 p.cs := by
    have h9 := Blk.new w 38 p.cs
    rw [← hW1]; exact (h9.alloc _)
  have b2 : Blk W1 (w.heap.size + 1) 38 q.cs := by
    have h9 := Blk.new (w.alloc (.cells p.cs 38)) 38 q.cs
    rw [World.size_alloc] at h9
    rw [← hW1]; exact h9
  have LPp := px_p b1
  have LAp := px_a b1
  have LBp := px_b b1
  have LVp := px_v b1
  have LNp := px_n b1
  have LPq := px_p b2
  have LAq := px_a b2
  have LBq := px_b b2
  have LVq := px_v b2
  have LNq := px_n b2
  have LIp := px_lies b1
  have LIq := px_lies b2
  have h0 : Below W1.heap.size W1 W1 := Below.refl _ _
  have HB := Lib.hid hb1
  clear hb1 b1 b2
  have LD := bel_drew_all W1
  have LE := bel_alloc_all W1
  have HCV := cmpI_any p.a.v q.a.v
  have HCN := cmpI_any p.n q.n
  have HCB := fun w' h => bcompare_any _ _ 16 16 16 16 _ _ w' p.a.b.len q.a.b.len p.a.b.bys q.a.b.bys (LIp w' h) (LIq w' h)
  have HOR := or_any [cmpI p.a.v q.a.v, cmpB p.a.b.l q.a.b.l, cmpI p.n q.n] 3 rfl (by omega)
  have HE := Lib.hid (show orL [cmpI p.a.v q.a.v, cmpB p.a.b.l q.a.b.l, cmpI p.n q.n] = cmpP p q from rfl)
  generalize cmpI p.a.v q.a.v = x1 at *
  generalize cmpI p.n q.n = x3 at *
  generalize cmpB p.a.b.l q.a.b.l = x2 at *
  clear LIp LIq
  go_enter Tryd.func49, Tryd.ntmps49
  go_wp2_with fail
  refine wp_region_linX (fun w' => Below W1.heap.size W1 w') [19, 20] [0, 1, 2, 3, 4, 5, 6, 7, 8, 9, 10, 11, 12, 13, 14, 15, 16, 17, 18, 19, 20, 21] (by kernel_rfl) (by kernel_rfl) (bel_drew (by assumption)) ?_
  (repeat (first | (refine linX_off rfl rfl (by rfl) ?_; (try simp only [Act.put, List.getElem_toArray, List.getElem_cons_zero, List.getElem_cons_succ, List.setIfInBounds_toArray, List.set_cons_zero, List.set_cons_succ])) | (refine linX_op (v := ?_) rfl rfl (by rfl) (fun w9 hS9 => ?_) ?_; rotate_left; (focus (((try dsimp only at hS9); go_simp; (try go_bits)) <;> with_reducible rfl)); (try simp only [Act.put, List.getElem_toArray, List.getElem_cons_zero, List.getElem_cons_succ, List.setIfInBounds_toArray, List.set_cons_zero, List.set_cons_succ])) | (refine linX_fn (f := 66) rfl rfl (by rfl) rfl rfl (enters_of Tryd.func66 (by kernel_rfl) rfl) (fun w9 hS9 => (HCV w9).mono (fun e w' h => ⟨h.1, h.2⟩)) ?_ ?_; (focus (simp [Act.eval]; done)); (try simp only [Act.put, List.getElem_toArray, List.getElem_cons_zero, List.getElem_cons_succ, List.setIfInBounds_toArray, List.set_cons_zero, List.set_cons_succ])) | (refine linX_fn (f := 66) rfl rfl (by rfl) rfl rfl (enters_of Tryd.func66 (by kernel_rfl) rfl) (fun w9 hS9 => (HCN w9).mono (fun e w' h => ⟨h.1, h.2⟩)) ?_ ?_; (focus (simp [Act.eval]; done)); (try simp only [Act.put, List.getElem_toArray, List.getElem_cons_zero, List.getElem_cons_succ, List.setIfInBounds_toArray, List.set_cons_zero, List.set_cons_succ])) | (refine linX_fn (f := 67) rfl rfl (by rfl) rfl rfl (enters_of Tryd.func67 (by kernel_rfl) rfl) (fun w9 hS9 => (HCB w9 hS9).mono (fun e w' h => ⟨h.1, h.2⟩)) ?_ ?_; (focus (simp [Act.eval]; done)); (try simp only [Act.put, List.getElem_toArray, List.getElem_cons_zero, List.getElem_cons_succ, List.setIfInBounds_toArray, List.set_cons_zero, List.set_cons_succ]))))
  refine linX_do (v := .slice (some ⟨W1.heap.size, 0, none⟩) 3 3) (w' := (W1.alloc (.cells #[.int .i64 x1, .int .i64 x2, .int .i64 x3] 3)).drew) rfl rfl (by rfl) ?_ ?_ ?_; (focus (go_simp; done))
  · exact LD _ (LE _ _ h0)
  (try simp only [Act.put, List.getElem_toArray, List.getElem_cons_zero, List.getElem_cons_succ, List.setIfInBounds_toArray, List.set_cons_zero, List.set_cons_succ])
  have hk3 : Below W1.heap.size W1 (W1.alloc (.cells #[.int .i64 x1, .int .i64 x2, .int .i64 x3] 3)).drew := LD _ (LE _ _ h0)
  have HC3 : ∀ j, j < 3 → (W1.alloc (.cells #[.int .i64 x1, .int .i64 x2, .int .i64 x3] 3)).drew.cell? ⟨W1.heap.size, j, none⟩ = some (.int .i64 ([x1, x2, x3].getD j 0)) := fun j hj => by
    rw [(Blk.drew (Blk.new W1 3 _)).cell]
    match j, hj with
    | 0, _ => rfl
    | 1, _ => rfl
    | 2, _ => rfl
  generalize (W1.alloc (.cells #[.int .i64 x1, .int .i64 x2, .int .i64 x3] 3)).drew = w3 at *
  refine linX_call (f := 65) (args := #[.slice (some ⟨W1.heap.size, 0, none⟩) 3 3]) rfl rfl (by rfl) rfl rfl (enters_of Tryd.func65 (by kernel_rfl) rfl) ?_ ?_; (focus (simp [Act.eval]; done)); refine (HOR W1.heap.size w3 HC3).mono ?_; rintro e w4 ⟨rfl, rfl⟩; refine ⟨_, rfl, hk3, ?_⟩
  (try simp only [Act.put, List.getElem_toArray, List.getElem_cons_zero, List.getElem_cons_succ, List.setIfInBounds_toArray, List.set_cons_zero, List.set_cons_succ])
  (repeat (first | (refine linX_off rfl rfl (by rfl) ?_; (try simp only [Act.put, List.getElem_toArray, List.getElem_cons_zero, List.getElem_cons_succ, List.setIfInBounds_toArray, List.set_cons_zero, List.set_cons_succ])) | (refine linX_op (v := ?_) rfl rfl (by rfl) (fun w9 hS9 => ?_) ?_; rotate_left; (focus (((try dsimp only at hS9); go_simp; (try go_bits)) <;> with_reducible rfl)); (try simp only [Act.put, List.getElem_toArray, List.getElem_cons_zero, List.getElem_cons_succ, List.setIfInBounds_toArray, List.set_cons_zero, List.set_cons_succ])) ))
  refine linX_nil ?_
  go_wp2
  go_ret
  exact ⟨by rw [HE.out]; rfl, bel_trans HB.out hk3⟩
end Go.Proofs.YtdbdmnahgkkjiaaDoor
