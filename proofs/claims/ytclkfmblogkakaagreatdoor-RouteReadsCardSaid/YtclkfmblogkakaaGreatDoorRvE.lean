/-
  A RIB that is data, and a batch that is data. Nothing here is a statement of the document.
-/
import Derived.Test.YtclkfmblogkakaaGreatDoorRvZ
import Derived.Test.YtclkfmblogkakaaGreatDoorRtX
import Derived.Test.YtclkfmblogkakaaGreatDoorTdD
import Derived.Test.YtclkfmblogkakaaGreatDoorOctH
import Derived.Test.YtclkfmblogkakaaGreatDoorRtB
import Derived.Test.YtclkfmblogkakaaGreatDoorTbS
import Derived.Deep.Slices
namespace Go.Proofs.YtclkfmblogkakaaGreatDoor
open Go.RowKit Go.Shelf
set_option linter.unusedVariables false
set_option maxRecDepth 100000
def bcpSem (ty : TypeId) (args : Array Value) : Sem Value := Builtin.append_ #[22, 22] ty args
theorem bcp_rule (ty : TypeId) (args : Array Value) : Builtin.append_ #[22, 22] ty args = bcpSem ty args := rfl
theorem bcp_none (ty : TypeId) (g : Nat) (w : World) : (bcpSem ty #[.slice (some ⟨g, 0, none⟩) 0 0, .slice none 0 0]).run Tryz.prog w = .ok (.slice (some ⟨g, 0, none⟩) 0 0) w := by
  unfold bcpSem
  kernel_rfl
theorem bown09 (w : World) : OwnB (w.alloc (.cells #[] 5)) w.heap.size (.slice (some ⟨w.heap.size, 0, none⟩) 0 0) [] :=
  ⟨rfl, .inr ⟨_, 0, #[], rfl, Nat.le_refl _, heap_alloc_new w _, Nat.le_refl _, by simp, rfl, rfl⟩⟩
theorem bcopy_any {w : World} {a : Option Addr} {n c : Nat} {l : List Nat} (hn : l.length = n) (hL : Lies w a l) (hs : n ≤ 5000) (h0 : a = none → n = 0 ∧ c = 0) :
    ∃ a' c' w', (∀ ty, (bcpSem ty #[.slice (some ⟨w.heap.size, 0, none⟩) 0 0, .slice a n c]).run Tryz.prog (w.alloc (.cells #[] 5)) = .ok (.slice a' n c') w') ∧ Lies w' a' l ∧ n ≤ c' ∧ c' ≤ maxLen ∧ Below w.heap.size w w' := by
  have hb : Below w.heap.size w (w.alloc (.cells #[] 5)) := (Below.refl _ _).alloc (Nat.le_refl _) _
  cases a with
  | none =>
    obtain ⟨rfl, rfl⟩ := h0 rfl
    have hl : l = [] := List.eq_nil_of_length_eq_zero hn
    subst hl
    exact ⟨_, _, _, fun ty => bcp_none ty _ _, .inl rfl, Nat.le_refl _, by unfold maxLen; omega, hb⟩
  | some x =>
    obtain ⟨v', w', h1, h2, h3⟩ := bapp_run (c := c) (bown09 w) hn (hL.kept hb) (by simp; omega) (by simp)
    obtain ⟨a', c', h4, h5, h6, h7, _⟩ := h2.lies
    rw [List.nil_append] at h4 h5 h7
    rw [hn] at h4 h5
    subst h4
    exact ⟨a', c', w', h1, h7, h5, h6, hb.grown h3 (by simp) (fun k hk => by cases hk; exact Nat.le_refl _)⟩
attribute [local go_sem ↓] bcp_rule load_rib_rule9 store_rib_rule9 load_bat_rule9 store_bat_rule9
set_option maxHeartbeats 8000000 in
theorem rreads_walk (a : Option Addr) (n c : Nat) (l : List Nat) (w : World) (hW : Wid w) (hB : Bys l) (hn : l.length = n) (hc : n ≤ c) (hm : c ≤ maxLen) (h0 : a = none → n = 0 ∧ c = 0) (hL : Lies w a l) :
    Calls Tryz.prog 3 #[.slice a n c] w fun e w' => e = .returned (.bool true) ∧ Below w.heap.size w w' := by
  have HWK := wakes11_any w hW
  by_cases h5 : 5000 < n
  · have d5 : decide ((5000 : Int) < (n : Int)) = true := decide_eq_true (by omega)
    have d6 : decide (5000 < n) = true := decide_eq_true h5
    clear hL hB hn hc hm h0 h5 hW
    go_enter Tryz.func3, Tryz.ntmps3
    go_wp2_with fail
    refine HWK.mono ?_
    rintro e w2 ⟨rfl, hb2⟩
    go_wp2_with fail
    go_ret
    exact ⟨rfl, hb2⟩
  have d5 : decide ((5000 : Int) < (n : Int)) = false := decide_eq_false (by omega)
  have d6 : decide (5000 < n) = false := decide_eq_false h5
  have h9 : n ≤ 5000 := by omega
  have HB := Lib.hid (And.intro hW (And.intro hB (And.intro hn (And.intro hc (And.intro hm (And.intro h0 (And.intro hL h9)))))))
  clear hL hB hn hc hm h0 h5 hW h9
  go_enter Tryz.func3, Tryz.ntmps3
  go_wp2_with fail
  refine HWK.mono ?_
  rintro e w2 ⟨rfl, hb2⟩
  clear HWK
  obtain ⟨a1, c1, x1, BC1, hl1, hc1, hm1, hx1⟩ := bcopy_any HB.out.2.2.1 (HB.out.2.2.2.2.2.2.1.kept hb2) HB.out.2.2.2.2.2.2.2 HB.out.2.2.2.2.2.1
  have hbx1 := bel_trans hb2 hx1
  have HD1 := rdecode_any (HB.out.1.later hbx1) hl1 (by rw [HB.out.2.2.1]; exact hc1) hm1 HB.out.2.1 (by rw [HB.out.2.2.1]; have := HB.out.2.2.2.2.2.2.2; omega)
  rw [HB.out.2.2.1] at HD1
  clear hl1 hc1 hm1 hx1
  go_wp2_with fail
  refine HD1.mono ?_
  rintro e w3 ⟨v1, rfl, ho1, hb3⟩
  have hb13 := bel_trans hbx1 hb3
  clear HD1 BC1 hbx1 hb3
  obtain ⟨p1, q1, rfl, hcc1, hmm1, hat1, _⟩ := ho1.lies
  obtain ⟨n1, hn1⟩ : ∃ n, (decRo l).2.length = n := ⟨_, rfl⟩
  rw [hn1]
  have hle1 : n1 ≤ 9223372036854775807 := by unfold maxLen at hmm1; omega
  have hbq1 := Blk.new w3 26 #[.slice none 0 0]
  have ST1 := st_rib (a2 := p1) (n2 := n1) (c2 := q1) hbq1
  obtain ⟨y1, hy1⟩ : ∃ y, (w3.alloc (.cells #[.slice none 0 0] 26)).setRow w3.heap.size #[.slice p1 n1 q1] = y := ⟨_, rfl⟩
  have bl1 : Blk y1 w3.heap.size 26 #[.slice p1 n1 q1] := by rw [← hy1]; exact Blk.row hbq1 _
  have ky1 : Below w3.heap.size w3 y1 := by rw [← hy1]; exact below_setRow ((Below.refl _ _).alloc (Nat.le_refl _) _) (Nat.le_refl _) _
  rw [hy1] at ST1
  have hby1 := bel_trans hb13 ky1
  have LT1 := Lib.hid (And.intro (rib_t bl1) (And.intro (hat1.later ky1) (And.intro hn1 hle1)))
  clear hbq1 hy1 bl1 hat1 ky1 hn1 hcc1 hmm1 hle1
  have HR2 := refro_any a n c l y1 HB.out.2.1 HB.out.2.2.1 (by have := HB.out.2.2.2.2.2.2.2; omega) HB.out.2.2.2.1 (HB.out.2.2.2.2.2.2.1.kept hby1)
  clear hb13 ho1 hb2
  go_wp2_with (first | (with_reducible refine wpList_alloc_z rfl 26 rfl #[.slice none 0 0] 1 z_rib ?_) | (with_reducible refine wpList_alloc_z rfl 32 rfl #[.slice none 0 0] 1 z_bat ?_))
  refine HR2.mono ?_
  rintro e w4 ⟨v2, rfl, ho2, hb4⟩
  have hb14 := bel_trans hby1 hb4
  clear HR2 ST1
  obtain ⟨p2, q2, rfl, hcc2, hmm2, hat2, _⟩ := ho2.lies
  obtain ⟨n2, hn2⟩ : ∃ n, (decRo l).2.length = n := ⟨_, rfl⟩
  rw [hn2]
  have hle2 : n2 ≤ 9223372036854775807 := by unfold maxLen at hmm2; omega
  have hbq2 := Blk.new w4 26 #[.slice none 0 0]
  have ST2 := st_rib (a2 := p2) (n2 := n2) (c2 := q2) hbq2
  obtain ⟨y2, hy2⟩ : ∃ y, (w4.alloc (.cells #[.slice none 0 0] 26)).setRow w4.heap.size #[.slice p2 n2 q2] = y := ⟨_, rfl⟩
  have bl2 : Blk y2 w4.heap.size 26 #[.slice p2 n2 q2] := by rw [← hy2]; exact Blk.row hbq2 _
  have ky2 : Below w4.heap.size w4 y2 := by rw [← hy2]; exact below_setRow ((Below.refl _ _).alloc (Nat.le_refl _) _) (Nat.le_refl _) _
  rw [hy2] at ST2
  have hby2 := bel_trans hb14 ky2
  have LT2 := Lib.hid (And.intro (rib_t bl2) (And.intro (hat2.later ky2) (And.intro hn2 hle2)))
  have KY2 := ky2
  clear hbq2 hy2 bl2 hat2 ky2 hn2 hcc2 hmm2 hle2
  have k12 := Lib.hid (bel_trans hb4 (show Below w4.heap.size w4 y2 from KY2))
  clear hb4 hb14 ho2 hby1
  obtain ⟨a3, c3, x3, BC3, hl3, hc3, hm3, hx3⟩ := bcopy_any HB.out.2.2.1 (HB.out.2.2.2.2.2.2.1.kept hby2) HB.out.2.2.2.2.2.2.2 HB.out.2.2.2.2.2.1
  have hbx3 := bel_trans hby2 hx3
  have HD3 := udecode_any (HB.out.1.later hbx3) hl3 (by rw [HB.out.2.2.1]; exact hc3) hm3 HB.out.2.1 (by rw [HB.out.2.2.1]; have := HB.out.2.2.2.2.2.2.2; omega)
  rw [HB.out.2.2.1] at HD3
  have KX3 := hx3
  clear hl3 hc3 hm3 hx3
  go_wp2_with (first | (with_reducible refine wpList_alloc_z rfl 26 rfl #[.slice none 0 0] 1 z_rib ?_) | (with_reducible refine wpList_alloc_z rfl 32 rfl #[.slice none 0 0] 1 z_bat ?_))
  refine HD3.mono ?_
  rintro e w5 ⟨v3, rfl, ho3, hb5⟩
  have hb15 := bel_trans hbx3 hb5
  clear HD3 BC3 hbx3 ST2
  obtain ⟨p3, q3, rfl, hcc3, hmm3, hat3, _⟩ := ho3.lies
  obtain ⟨n3, hn3⟩ : ∃ n, (decUp l).2.length = n := ⟨_, rfl⟩
  rw [hn3]
  have hle3 : n3 ≤ 9223372036854775807 := by unfold maxLen at hmm3; omega
  have hbq3 := Blk.new w5 32 #[.slice none 0 0]
  have ST3 := st_bat (a2 := p3) (n2 := n3) (c2 := q3) hbq3
  obtain ⟨y3, hy3⟩ : ∃ y, (w5.alloc (.cells #[.slice none 0 0] 32)).setRow w5.heap.size #[.slice p3 n3 q3] = y := ⟨_, rfl⟩
  have bl3 : Blk y3 w5.heap.size 32 #[.slice p3 n3 q3] := by rw [← hy3]; exact Blk.row hbq3 _
  have ky3 : Below w5.heap.size w5 y3 := by rw [← hy3]; exact below_setRow ((Below.refl _ _).alloc (Nat.le_refl _) _) (Nat.le_refl _) _
  rw [hy3] at ST3
  have hby3 := bel_trans hb15 ky3
  have LT3 := Lib.hid (And.intro (bat_t9 bl3) (And.intro (hat3.later ky3) (And.intro hn3 hle3)))
  have KY3 := ky3
  clear hbq3 hy3 bl3 hat3 ky3 hn3 hcc3 hmm3 hle3
  have K23 := Lib.hid (bel_trans (bel_trans KX3 hb5) (show Below w5.heap.size w5 y3 from KY3))
  have HR4 := refup_any a n c l y3 HB.out.2.1 HB.out.2.2.1 (by have := HB.out.2.2.2.2.2.2.2; omega) HB.out.2.2.2.1 (HB.out.2.2.2.2.2.2.1.kept hby3)
  clear hb15 ho3 hb5 KX3 KY3
  go_wp2_with (first | (with_reducible refine wpList_alloc_z rfl 26 rfl #[.slice none 0 0] 1 z_rib ?_) | (with_reducible refine wpList_alloc_z rfl 32 rfl #[.slice none 0 0] 1 z_bat ?_))
  refine HR4.mono ?_
  rintro e w6 ⟨v4, rfl, ho4, hb6⟩
  have hb16 := bel_trans hby3 hb6
  clear HR4 ST3
  obtain ⟨p4, q4, rfl, hcc4, hmm4, hat4, _⟩ := ho4.lies
  obtain ⟨n4, hn4⟩ : ∃ n, (decUp l).2.length = n := ⟨_, rfl⟩
  rw [hn4]
  have hle4 : n4 ≤ 9223372036854775807 := by unfold maxLen at hmm4; omega
  have hbq4 := Blk.new w6 32 #[.slice none 0 0]
  have ST4 := st_bat (a2 := p4) (n2 := n4) (c2 := q4) hbq4
  obtain ⟨y4, hy4⟩ : ∃ y, (w6.alloc (.cells #[.slice none 0 0] 32)).setRow w6.heap.size #[.slice p4 n4 q4] = y := ⟨_, rfl⟩
  have bl4 : Blk y4 w6.heap.size 32 #[.slice p4 n4 q4] := by rw [← hy4]; exact Blk.row hbq4 _
  have ky4 : Below w6.heap.size w6 y4 := by rw [← hy4]; exact below_setRow ((Below.refl _ _).alloc (Nat.le_refl _) _) (Nat.le_refl _) _
  rw [hy4] at ST4
  have hby4 := bel_trans hb16 ky4
  have LT4 := Lib.hid (And.intro (bat_t9 bl4) (And.intro (hat4.later ky4) (And.intro hn4 hle4)))
  have KY4 := ky4
  clear hbq4 hy4 bl4 hat4 ky4 hn4 hcc4 hmm4 hle4
  have K34 := bel_trans hb6 (show Below w6.heap.size w6 y4 from KY4)
  have K24 := bel_trans K23.out K34
  have K14 := bel_trans k12.out K24
  have L1 := LT1.out.1 y4 K14
  have L2 := LT2.out.1 y4 K24
  have HS1 := rorsame_any p1 p2 n1 q1 n2 q2 (decRo l).2 (decRo l).2 y4 LT1.out.2.2.1 LT1.out.2.2.2 (LT1.out.2.1.later K14) LT2.out.2.2.1 LT2.out.2.2.2 (LT2.out.2.1.later K24)
  rw [decide_eq_true rfl] at HS1
  have K34h := Lib.hid K34
  clear hb16 ho4 hb6 KY4 K14 K24 K34 hby3
  go_wp2_with (first | (with_reducible refine wpList_alloc_z rfl 26 rfl #[.slice none 0 0] 1 z_rib ?_) | (with_reducible refine wpList_alloc_z rfl 32 rfl #[.slice none 0 0] 1 z_bat ?_))
  refine HS1.mono ?_
  rintro e w7 ⟨rfl, hb7⟩
  have K37 := bel_trans K34h.out hb7
  have L3 := LT3.out.1 w7 K37
  have L4 := LT4.out.1 w7 hb7
  have HS2 := uprsame_any p3 p4 n3 q3 n4 q4 (decUp l).2 (decUp l).2 w7 LT3.out.2.2.1 LT3.out.2.2.2 (LT3.out.2.1.later K37) LT4.out.2.2.1 LT4.out.2.2.2 (LT4.out.2.1.later hb7)
  rw [decide_eq_true rfl] at HS2
  have hb17 := bel_trans hby4 hb7
  clear HS1 L1 L2 K37 hb7 ST4
  go_wp2_with fail
  refine HS2.mono ?_
  rintro e w8 ⟨rfl, hb8⟩
  have hb18 := bel_trans hb17 hb8
  clear HS2 L3 L4 hb8 hb17
  go_wp2_with fail
  go_ret
  exact ⟨rfl, hb18⟩
theorem row_cap9 {w : World} {a : Option Addr} {len cap : Nat} {zs : List Int} (h : IsRow .u8 w a len cap zs) : len ≤ cap ∧ cap ≤ maxLen ∧ (a = none → len = 0 ∧ cap = 0) := by
  rcases h with ⟨rfl, rfl, rfl, _⟩ | ⟨x, rfl, hl, hm, _⟩
  · exact ⟨Nat.le_refl _, by unfold maxLen; omega, fun _ => ⟨rfl, rfl⟩⟩
  · exact ⟨hl, hm, fun e => by cases e⟩
theorem rreads_walk0 (a : Option Addr) (len cap : Nat) (zs : List Int) {w : World} (hz : IsRow .u8 w a len cap zs) (hW : Wid w) :
    Calls Tryz.prog 3 #[.slice a len cap] w fun e w' => e = .returned (.bool true) ∧ Below w.heap.size w w' := by
  obtain ⟨l, hl, _, hL, hB⟩ := hz.bytes
  obtain ⟨h1, h2, h3⟩ := row_cap9 hz
  exact rreads_walk a len cap l w hW hB hl h1 h2 h3 hL
end Go.Proofs.YtclkfmblogkakaaGreatDoor
namespace Go.Proofs.YtclkfmblogkakaaGreatDoor
open Go.RowKit Go.Shelf Go.ChangeShapes Go.WideShapes Go.ChangeAt
set_option linter.unusedVariables false
set_option maxRecDepth 100000
theorem c_bool : Tryz.prog.cellsOf 4 = 1 := by kernel_rfl

/-! ### api.Rib -/
theorem c_ro : Tryz.prog.cellsOf 57 = 21 := by kernel_rfl
theorem c_slro : Tryz.prog.cellsOf 24 = 1 := by kernel_rfl
theorem c_bxro : Tryz.prog.cellsOf 26 = 1 := by kernel_rfl
theorem ro_cells {H : Type} {enc : TypeId × Value → H} {W : World} {sp : Nat → Bool} {held : Bool} {fuel : Nat} {cs : List Value} {y : DataW H × List MemPlace} (h : DataW.trod enc Tryz.prog W 0 sp held fuel 57 cs = some y) : ∃ r : Ro, cs = r.cs.toList := by
  obtain ⟨xs, m, _, _, hlen, hxs, hg⟩ := DataW.trod_struct Tryz.underlying57 h
  rw [c_ro] at hlen
  obtain ⟨y0, y1, y2, y3, rfl⟩ : ∃ y0 y1 y2 y3, xs = [y0, y1, y2, y3] := by
    match xs, hxs with
    | [y0, y1, y2, y3], _ => exact ⟨y0, y1, y2, y3, rfl⟩
  have t0 : DataW.trod enc Tryz.prog W 0 sp held m 43 (List.take (Tryz.prog.cellsOf 43) (List.drop 0 cs)) = some y0 := hg 0 _ rfl
  rw [c_px] at t0
  have t1 : DataW.trod enc Tryz.prog W 0 sp held m 3 (List.take (Tryz.prog.cellsOf 3) (List.drop 18 cs)) = some y1 := hg 1 _ rfl
  rw [c_int] at t1
  have t2 : DataW.trod enc Tryz.prog W 0 sp held m 3 (List.take (Tryz.prog.cellsOf 3) (List.drop 19 cs)) = some y2 := hg 2 _ rfl
  rw [c_int] at t2
  have t3 : DataW.trod enc Tryz.prog W 0 sp held m 3 (List.take (Tryz.prog.cellsOf 3) (List.drop 20 cs)) = some y3 := hg 3 _ rfl
  rw [c_int] at t3
  obtain ⟨p, hp, _, _⟩ := px_cells t0
  obtain ⟨u1, e1, _, f1⟩ := DataW.trod_int Tryz.underlying3 t1
  obtain ⟨u2, e2, _, f2⟩ := DataW.trod_int Tryz.underlying3 t2
  obtain ⟨u3, e3, _, f3⟩ := DataW.trod_int Tryz.underlying3 t3
  refine ⟨⟨p, u1, u2, u3⟩, ?_⟩
  have q18 : (cs.drop 18).take 1 ++ cs.drop 19 = cs.drop 18 := by rw [show cs.drop 19 = (cs.drop 18).drop 1 by rw [List.drop_drop], List.take_append_drop]
  have q19 : (cs.drop 19).take 1 ++ cs.drop 20 = cs.drop 19 := by rw [show cs.drop 20 = (cs.drop 19).drop 1 by rw [List.drop_drop], List.take_append_drop]
  have ql : (cs.drop 20).take 1 = cs.drop 20 := List.take_of_length_le (by simp; omega)
  have hs : cs = cs.take 18 ++ ((cs.drop 18).take 1 ++ ((cs.drop 19).take 1 ++ ((cs.drop 20).take 1))) := by rw [ql, q19, q18, List.take_append_drop]
  rw [List.drop_zero] at hp
  rw [hs, hp, e1, e2, e3]
  simp [Ro.cs]
theorem rorows_of {H : Type} {enc : TypeId × Value → H} {W : World} {sp : Nat → Bool} {held : Bool} {fuel : Nat} {cs : List Value} {y : DataW H × List MemPlace} (h : DataW.trod enc Tryz.prog W 0 sp held fuel 24 cs = some y) : ∃ a n c L, cs = [.slice a n c] ∧ List.length L = n ∧ RoAt W a L ∧ n ≤ c ∧ c ≤ maxLen ∧ (a = none → c = 0) := by
  rcases Go.Deep.open_slice Tryz.underlying24 h with ⟨hcs, _⟩ | ⟨x, len', cap', q, nn, Dt, Pl, hcs, _, hl, hm, hq, _, hi⟩
  · exact ⟨none, 0, 0, [], hcs, rfl, .inl rfl, Nat.le_refl _, Nat.zero_le _, fun _ => rfl⟩
  · have hex : ∀ i, i < len' → ∃ y : Ro, ∀ j, j < 21 → W.cell? (x.add (i * 21 + j)) = (y.cs)[j]? := by
      intro i hil
      obtain ⟨cs', hc', ht'⟩ := hi i (by rw [hq]; split <;> omega)
      rw [c_ro] at hc'
      obtain ⟨_, hlen, hat⟩ := World.cells?_some hc'
      obtain ⟨y, rfl⟩ := ro_cells ht'
      refine ⟨y, fun j hj => ?_⟩
      have h9 := hat j hj
      rw [Go.Deep.add_add] at h9
      rw [h9]
      simp
    obtain ⟨f, hf2⟩ : ∃ f : Nat → Ro, ∀ i, i < len' → ∀ j, j < 21 → W.cell? (x.add (i * 21 + j)) = ((f i).cs)[j]? :=
      ⟨fun i => if h : i < len' then (hex i h).choose else Ro.zero, fun i hil => by simp only [dif_pos hil]; exact (hex i hil).choose_spec⟩
    refine ⟨some x, len', cap', (List.range len').map f, hcs, by simp, ?_, hl, hm, fun h => by cases h⟩
    by_cases h0 : len' = 0
    · left; rw [h0]; rfl
    · right
      have h1 := hf2 0 (by omega) 0 (by omega)
      have h2 : ((f 0).cs)[0]? = some (.int .i64 (f 0).p.a.v) := by rw [Ro.cp _ _ (by omega), Px.ca _ _ (by omega), Ad.c0]
      rw [h2] at h1
      obtain ⟨b, o, s⟩ := x
      obtain rfl : s = none := by simpa [Addr.add] using World.cell?_spot h1
      refine ⟨b, o, rfl, ?_, fun i hi j hj => ?_⟩
      · have := cell_lt h1
        simpa [Addr.add_lit] using this
      · have hil : i < len' := by simpa using hi
        have h3 := hf2 i hil j hj
        rw [Addr.add_lit] at h3
        rw [Nat.add_assoc, h3]
        congr 2
        simp [rog, hil]
theorem rib_of {H : Type} {enc : TypeId × Value → H} {W : World} {sp : Nat → Bool} {base : Nat} {held : Bool} {v : Value} {d : DataW H} {p : List MemPlace} (hv : Value.okWide Tryz.prog W .any base 26 v) (h : DataW.Trod enc Tryz.prog W 0 sp held 26 v d p) : ∃ a n c L, v = .agg #[.slice a n c] ∧ List.length L = n ∧ RoAt W a L ∧ n ≤ c ∧ c ≤ maxLen ∧ (a = none → c = 0) := by
  obtain ⟨cs, rfl, hsz⟩ := okWide_struct Tryz.underlying26 hv
  obtain ⟨fuel, hf⟩ := h
  obtain ⟨xs, m, _, _, hlen, hxs, hg⟩ := DataW.trod_struct Tryz.underlying26 (show DataW.trod enc Tryz.prog W 0 sp held fuel 26 cs.toList = some _ from hf)
  rw [c_bxro] at hlen
  obtain ⟨y0, rfl⟩ : ∃ y0, xs = [y0] := by
    match xs, hxs with
    | [a], _ => exact ⟨a, rfl⟩
  have t0 : DataW.trod enc Tryz.prog W 0 sp held m 24 (List.take (Tryz.prog.cellsOf 24) (List.drop 0 cs.toList)) = some y0 := hg 0 _ rfl
  rw [c_slro, List.drop_zero, List.take_of_length_le (by omega)] at t0
  obtain ⟨a, n, c, L, h1, h2, h3⟩ := rorows_of t0
  exact ⟨a, n, c, L, congrArg Value.agg (Array.toList_inj.1 (by rw [h1])), h2, h3⟩

/-! ### api.Batch -/
theorem c_up : Tryz.prog.cellsOf 46 = 22 := by kernel_rfl
theorem c_slup : Tryz.prog.cellsOf 30 = 1 := by kernel_rfl
theorem c_bxup : Tryz.prog.cellsOf 32 = 1 := by kernel_rfl
theorem up_cells {H : Type} {enc : TypeId × Value → H} {W : World} {sp : Nat → Bool} {held : Bool} {fuel : Nat} {cs : List Value} {y : DataW H × List MemPlace} (h : DataW.trod enc Tryz.prog W 0 sp held fuel 46 cs = some y) : ∃ r : Up, cs = r.cs.toList := by
  obtain ⟨xs, m, _, _, hlen, hxs, hg⟩ := DataW.trod_struct Tryz.underlying46 h
  rw [c_up] at hlen
  obtain ⟨y0, y1, y2, y3, y4, rfl⟩ : ∃ y0 y1 y2 y3 y4, xs = [y0, y1, y2, y3, y4] := by
    match xs, hxs with
    | [y0, y1, y2, y3, y4], _ => exact ⟨y0, y1, y2, y3, y4, rfl⟩
  have t0 : DataW.trod enc Tryz.prog W 0 sp held m 43 (List.take (Tryz.prog.cellsOf 43) (List.drop 0 cs)) = some y0 := hg 0 _ rfl
  rw [c_px] at t0
  have t1 : DataW.trod enc Tryz.prog W 0 sp held m 3 (List.take (Tryz.prog.cellsOf 3) (List.drop 18 cs)) = some y1 := hg 1 _ rfl
  rw [c_int] at t1
  have t2 : DataW.trod enc Tryz.prog W 0 sp held m 4 (List.take (Tryz.prog.cellsOf 4) (List.drop 19 cs)) = some y2 := hg 2 _ rfl
  rw [c_bool] at t2
  have t3 : DataW.trod enc Tryz.prog W 0 sp held m 3 (List.take (Tryz.prog.cellsOf 3) (List.drop 20 cs)) = some y3 := hg 3 _ rfl
  rw [c_int] at t3
  have t4 : DataW.trod enc Tryz.prog W 0 sp held m 3 (List.take (Tryz.prog.cellsOf 3) (List.drop 21 cs)) = some y4 := hg 4 _ rfl
  rw [c_int] at t4
  obtain ⟨p, hp, _, _⟩ := px_cells t0
  obtain ⟨u1, e1, _, f1⟩ := DataW.trod_int Tryz.underlying3 t1
  obtain ⟨u2, e2, _⟩ := DataW.trod_bool Tryz.underlying4 t2
  obtain ⟨u3, e3, _, f3⟩ := DataW.trod_int Tryz.underlying3 t3
  obtain ⟨u4, e4, _, f4⟩ := DataW.trod_int Tryz.underlying3 t4
  refine ⟨⟨p, u1, u2, u3, u4⟩, ?_⟩
  have q18 : (cs.drop 18).take 1 ++ cs.drop 19 = cs.drop 18 := by rw [show cs.drop 19 = (cs.drop 18).drop 1 by rw [List.drop_drop], List.take_append_drop]
  have q19 : (cs.drop 19).take 1 ++ cs.drop 20 = cs.drop 19 := by rw [show cs.drop 20 = (cs.drop 19).drop 1 by rw [List.drop_drop], List.take_append_drop]
  have q20 : (cs.drop 20).take 1 ++ cs.drop 21 = cs.drop 20 := by rw [show cs.drop 21 = (cs.drop 20).drop 1 by rw [List.drop_drop], List.take_append_drop]
  have ql : (cs.drop 21).take 1 = cs.drop 21 := List.take_of_length_le (by simp; omega)
  have hs : cs = cs.take 18 ++ ((cs.drop 18).take 1 ++ ((cs.drop 19).take 1 ++ ((cs.drop 20).take 1 ++ ((cs.drop 21).take 1)))) := by rw [ql, q20, q19, q18, List.take_append_drop]
  rw [List.drop_zero] at hp
  rw [hs, hp, e1, e2, e3, e4]
  simp [Up.cs]
theorem uprows_of {H : Type} {enc : TypeId × Value → H} {W : World} {sp : Nat → Bool} {held : Bool} {fuel : Nat} {cs : List Value} {y : DataW H × List MemPlace} (h : DataW.trod enc Tryz.prog W 0 sp held fuel 30 cs = some y) : ∃ a n c L, cs = [.slice a n c] ∧ List.length L = n ∧ UpAt W a L ∧ n ≤ c ∧ c ≤ maxLen ∧ (a = none → c = 0) := by
  rcases Go.Deep.open_slice Tryz.underlying30 h with ⟨hcs, _⟩ | ⟨x, len', cap', q, nn, Dt, Pl, hcs, _, hl, hm, hq, _, hi⟩
  · exact ⟨none, 0, 0, [], hcs, rfl, .inl rfl, Nat.le_refl _, Nat.zero_le _, fun _ => rfl⟩
  · have hex : ∀ i, i < len' → ∃ y : Up, ∀ j, j < 22 → W.cell? (x.add (i * 22 + j)) = (y.cs)[j]? := by
      intro i hil
      obtain ⟨cs', hc', ht'⟩ := hi i (by rw [hq]; split <;> omega)
      rw [c_up] at hc'
      obtain ⟨_, hlen, hat⟩ := World.cells?_some hc'
      obtain ⟨y, rfl⟩ := up_cells ht'
      refine ⟨y, fun j hj => ?_⟩
      have h9 := hat j hj
      rw [Go.Deep.add_add] at h9
      rw [h9]
      simp
    obtain ⟨f, hf2⟩ : ∃ f : Nat → Up, ∀ i, i < len' → ∀ j, j < 22 → W.cell? (x.add (i * 22 + j)) = ((f i).cs)[j]? :=
      ⟨fun i => if h : i < len' then (hex i h).choose else Up.zero, fun i hil => by simp only [dif_pos hil]; exact (hex i hil).choose_spec⟩
    refine ⟨some x, len', cap', (List.range len').map f, hcs, by simp, ?_, hl, hm, fun h => by cases h⟩
    by_cases h0 : len' = 0
    · left; rw [h0]; rfl
    · right
      have h1 := hf2 0 (by omega) 0 (by omega)
      have h2 : ((f 0).cs)[0]? = some (.int .i64 (f 0).p.a.v) := by rw [Up.cp _ _ (by omega), Px.ca _ _ (by omega), Ad.c0]
      rw [h2] at h1
      obtain ⟨b, o, s⟩ := x
      obtain rfl : s = none := by simpa [Addr.add] using World.cell?_spot h1
      refine ⟨b, o, rfl, ?_, fun i hi j hj => ?_⟩
      · have := cell_lt h1
        simpa [Addr.add_lit] using this
      · have hil : i < len' := by simpa using hi
        have h3 := hf2 i hil j hj
        rw [Addr.add_lit] at h3
        rw [Nat.add_assoc, h3]
        congr 2
        simp [upg, hil]
theorem bat_of {H : Type} {enc : TypeId × Value → H} {W : World} {sp : Nat → Bool} {base : Nat} {held : Bool} {v : Value} {d : DataW H} {p : List MemPlace} (hv : Value.okWide Tryz.prog W .any base 32 v) (h : DataW.Trod enc Tryz.prog W 0 sp held 32 v d p) : ∃ a n c L, v = .agg #[.slice a n c] ∧ List.length L = n ∧ UpAt W a L ∧ n ≤ c ∧ c ≤ maxLen ∧ (a = none → c = 0) := by
  obtain ⟨cs, rfl, hsz⟩ := okWide_struct Tryz.underlying32 hv
  obtain ⟨fuel, hf⟩ := h
  obtain ⟨xs, m, _, _, hlen, hxs, hg⟩ := DataW.trod_struct Tryz.underlying32 (show DataW.trod enc Tryz.prog W 0 sp held fuel 32 cs.toList = some _ from hf)
  rw [c_bxup] at hlen
  obtain ⟨y0, rfl⟩ : ∃ y0, xs = [y0] := by
    match xs, hxs with
    | [a], _ => exact ⟨a, rfl⟩
  have t0 : DataW.trod enc Tryz.prog W 0 sp held m 30 (List.take (Tryz.prog.cellsOf 30) (List.drop 0 cs.toList)) = some y0 := hg 0 _ rfl
  rw [c_slup, List.drop_zero, List.take_of_length_le (by omega)] at t0
  obtain ⟨a, n, c, L, h1, h2, h3⟩ := uprows_of t0
  exact ⟨a, n, c, L, congrArg Value.agg (Array.toList_inj.1 (by rw [h1])), h2, h3⟩
end Go.Proofs.YtclkfmblogkakaaGreatDoor
