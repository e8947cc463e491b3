/-
  A RIB that is data, and a batch that is data. Nothing here is a statement of the document.
-/
import Derived.Test.YtclkfmblogkakaaDoorRvL
import Derived.Test.YtclkfmblogkakaaDoorRvT
import Derived.Test.YtclkfmblogkakaaDoorTbP
import Derived.Test.YtclkfmblogkakaaDoorRtB
import Derived.Deep.Slices
namespace Go.Proofs.YtclkfmblogkakaaDoor
open Go.RowKit Go.Shelf
set_option linter.unusedVariables false
set_option maxRecDepth 100000
/-! ### What the best are -/
theorem best_row {L S : List Ro} (hL : One L) (hS : Sorted cmpB1 L S) {k : Nat} (hk : k < L.length) :
    ∃ j, j < L.length ∧ (rog L j).p = (rog L k).p ∧ roRow (rog L j) ∈ (fstL S).map roRow ∧ ∀ i, i < L.length → (rog L i).p = (rog L j).p → asGood (rog L j) (rog L i) := by
  obtain ⟨m, hm, e⟩ := mem_rog (hS.1.mem_iff.2 (rog_mem hk))
  obtain ⟨r, hr, hp⟩ := fstN_mem S.length (Nat.le_refl _) m hm
  have h1 : roRow r ∈ (fstL S).map roRow := List.mem_map.2 ⟨r, hr, rfl⟩
  obtain ⟨j, hj, _, h2, h3⟩ := ((BI.best hL hS).mem _).1 h1
  refine ⟨j, hj, ?_, by rw [← h2]; exact h1, fun i hi e => h3 i hi trivial e⟩
  have h4 : (roRow r).p = (roRow (rog L j)).p := by rw [h2]
  have h5 : r.p = (rog L j).p := h4
  rw [← h5, hp, e]
theorem BI.okT {L : List Ro} {T : List Rt} (h : BI L T (fun _ => True)) (ho : okRib L) : okT T := by
  refine ⟨Nat.le_trans h.len ho.2.2, fun x hx => ?_, h.rise⟩
  obtain ⟨j, hj, _, rfl, _⟩ := (h.mem x).1 hx
  have := ho.1 j hj
  exact ⟨this.1, this.2.2.2⟩
theorem rise_one {T : List Rt} (h : T.Pairwise ltR) {x y : Rt} (hx : x ∈ T) (hy : y ∈ T) (e : x.p = y.p) : x = y := by
  obtain ⟨i, hi, rfl⟩ := mem_rt hx
  obtain ⟨j, hj, rfl⟩ := mem_rt hy
  rw [same_at h hi hj e]
theorem get_row {T : List Rt} (h : okT T) {x : Rt} (hx : x ∈ T) : getB T x.p = true ∧ getV T x.p = x.h := by
  rcases ix_spec T x.p with ⟨i, h1, h2, h3, _⟩ | ⟨_, h2⟩
  · have hne : ¬ ixM T x.p = -1 := by rw [h2]; omega
    refine ⟨?_, ?_⟩
    · rw [getB, decide_eq_true h, decide_eq_true hne]; rfl
    · rw [getV, if_pos h, if_neg hne, h2, Int.toNat_natCast, rise_one h.2.2 (rt_mem h1) hx h3]
  · exact absurd rfl (h2 x hx)
/-- The test of the law's inner loop. -/
def tells (x y : Ro) (hop : Int) : Prop := y.p = x.p ∧ y.h = hop ∧ (x.f < y.f ∨ y.f = x.f ∧ y.s ≤ x.s)
theorem met_len {L : List Ro} {T : List Rt} {K : List Px} (h : T.Pairwise ltR) (hK : K.Nodup) (h1 : ∀ q, q ∈ K ↔ ∃ i, i < L.length ∧ (rog L i).p = q) (h2 : ∀ x ∈ T, ∃ j, j < L.length ∧ (rog L j).p = x.p) (h3 : ∀ k, k < L.length → ∃ x ∈ T, x.p = (rog L k).p) : K.length = T.length := by
  have hT : (T.map Rt.p).Nodup := by
    rw [List.nodup_iff_pairwise_ne, List.pairwise_map]
    exact h.imp ltR_ne
  have a := nodup_len K (T.map Rt.p) hK fun q hq => by
    obtain ⟨i, hi, rfl⟩ := (h1 q).1 hq
    obtain ⟨x, hx, e⟩ := h3 i hi
    exact List.mem_map.2 ⟨x, hx, e⟩
  have b := nodup_len (T.map Rt.p) K hT fun q hq => by
    obtain ⟨x, hx, rfl⟩ := List.mem_map.1 hq
    obtain ⟨j, hj, e⟩ := h2 x hx
    exact (h1 _).2 ⟨j, hj, e⟩
  simp only [List.length_map] at a b
  omega
theorem grown_below {B : Nat} {w w' : World} {b : Nat} (h : w.grownBy w' (some b)) (hb : B ≤ b) (hB : B ≤ w.heap.size) : Below B w w' :=
  (Below.refl B w).grown h hB (fun k hk => by cases hk; exact hb)
theorem run_len_map' {ty : TypeId} {b : Nat} {es : Array MapEntry} {clock : Nat} {w : World} (hb : w.heap[b]? = some (.map es clock)) : (Builtin.len_ #[60] ty #[.map (some b)]).run Tryd.prog w = .ok (.int .i64 es.size) w := by
  simp [Builtin.len_, run_underlying Tryd.underlying60, MapKept.run_getObj_map hb, goInt]
attribute [local go_sem ↓] load_b16_rule store_b16_rule load_ad_rule store_ad_rule load_px_rule store_px_rule eq_b16_rule eq_ad_rule eq_px_rule load_ro_rule store_ro_rule load_rib_rule store_rib_rule load_tab_rule store_tab_rule
set_option maxHeartbeats 8000000 in
theorem rbestlaw_walk (a : Option Addr) (n c : Nat) (L : List Ro) (w : World) (hW : Wid w) (hn : L.length = n) (hR : RoAt w a L) (hc : n ≤ c ∧ c ≤ maxLen ∧ (a = none → c = 0)) :
    Calls Tryd.prog 7 #[.agg #[.slice a n c]] w fun e w' => e = .returned (.bool true) ∧ Below w.heap.size w w' := by
  obtain ⟨W1, hW1⟩ : ∃ W1, w.alloc (.cells #[.slice a n c] 24) = W1 := ⟨_, rfl⟩
  have hb1 : Below w.heap.size w W1 := by rw [← hW1]; exact (Below.refl _ _).alloc (Nat.le_refl _) _
  have b1 : Blk W1 w.heap.size 24 #[.slice a n c] := by rw [← hW1]; exact Blk.new _ _ _
  have LR := Lib.hid (rib_t b1)
  have HWK := wakes11_any W1 (hW.later hb1)
  have hcm : n ≤ 9223372036854775807 := by have := hc.1; have := hc.2.1; unfold maxLen at this; omega
  have HB := Lib.hid (And.intro hb1 (And.intro hn (And.intro b1 (by rw [← hW1]; simp : W1.heap.size = w.heap.size + 1))))
  have HR := Lib.hid (fun (w' : World) (h : Below W1.heap.size W1 w') => And.intro ((hW.later hb1).later h) ((hR.later hb1).later h))
  have HC := Lib.hid hc
  clear hR b1 hb1 hc hn hW
  go_enter Tryd.func7, Tryd.ntmps7
  go_wp2_with fail
  refine HWK.mono ?_
  rintro e w2 ⟨rfl, hb2⟩
  have CR2 : w2.cell? ⟨w.heap.size, 0, none⟩ = some (.slice a n c) := (HB.out.2.2.1.later hb2).cell 0
  clear HWK
  by_cases h300 : 300 < n
  · have d0 : (300 : Int) < (n : Int) := by omega
    clear h300
    go_wp2_with fail
    go_ret
    exact ⟨rfl, bel_trans HB.out.1 hb2⟩
  have d0 : ¬ ((300 : Int) < (n : Int)) := by omega
  have LR2 := LR.out w2 hb2
  have HBE := rbest_any a n c L w2 (HR.out w2 hb2).1 HB.out.2.1 (by omega) (HR.out w2 hb2).2 HC.out.2.2
  have HB2 := Lib.hid hb2
  clear hb2
  go_wp2_with fail
  refine HBE.mono ?_
  rintro e w3 ⟨a3, c3, T, er, rfl, hO3, hB3, hb3⟩
  obtain ⟨W2, ST, bt, hb4⟩ := tab_box w3 a3 T.length c3
  have hb12 : Below W1.heap.size W1 W2 := bel_trans HB2.out (bel_trans hb3 hb4)
  have LR3 := LR.out W2 hb12
  have HCK := rcheck_any a n c L W2 (HR.out W2 hb12).1 HB.out.2.1 (by omega) (HR.out W2 hb12).2 HC.out.2.2
  have HT := Lib.hid (And.intro (hO3.later hb4) (And.intro bt hb12))
  clear HBE LR2 CR2 hO3 bt hb3 hb4 hb12
  by_cases h1 : okRib L
  · cases hB3 with
    | rib k => exact absurd h1 k
    | @good S k hS =>
    have HBI := Lib.hid (And.intro (BI.best (Up2.uniq h1.2.1) hS) (And.intro h1 (fun k (hk : k < L.length) => best_row (Up2.uniq h1.2.1) hS hk)))
    clear HCK LR3
    generalize List.map roRow (fstL S) = T at *
    have hOT := HBI.out.1.okT h1
    have HTC := tcheck_any a3 T.length c3 T W2 (HR.out W2 HT.out.2.2).1 rfl (by have := hOT.1; omega) HT.out.1.tbl2.1.at'
    rw [eT_ok hOT] at HTC
    have HOT := Lib.hid hOT
    have LT2 := tab_t HT.out.2.1 W2 (Below.refl _ _)
    clear h1 k hS hOT
    go_wp2_with (first | (with_reducible refine wpList_alloc_z rfl 67 rfl Ro.zero.cs 21 z_ro ?_) | (with_reducible refine wpList_alloc_z rfl 41 rfl #[.slice none 0 0] 1 z_tab ?_))
    refine HTC.mono ?_
    rintro e w4 ⟨rfl, hb4⟩
    have hmm := @run_makeMap Tryd.prog
    have hb24 := bel_trans HT.out.2.2 hb4
    obtain ⟨W5, hW5⟩ : ∃ W5, w4.alloc (.map #[] 0) = W5 := ⟨_, rfl⟩
    have k45 : Below w4.heap.size w4 W5 := by rw [← hW5]; exact (Below.refl _ _).alloc (Nat.le_refl _) _
    have hm5 : MetP W5 w4.heap.size [] := by rw [← hW5]; exact MetP.new w4
    have bt4 := HT.out.2.1.later hb4
    have ot4 := HT.out.1.later hb4
    have HK : ∀ wx, Below w4.heap.size W5 wx → Below W1.heap.size W1 wx ∧ Blk wx w3.heap.size 41 #[.slice a3 T.length c3] ∧ Tbl wx a3 c3 T := fun wx h => by
      have k1 : Below w4.heap.size w4 wx := k45.trans h
      exact ⟨bel_trans hb24 k1, bt4.later k1, ot4.tbl2.1.later k1⟩
    have HKh := Lib.hid HK
    have H5 := Lib.hid (And.intro hm5 (And.intro (show w4.heap.size < W5.heap.size by rw [← hW5]; simp) (HK W5 (Below.refl _ _)).1))
    have CR5 : W5.cell? ⟨w.heap.size, 0, none⟩ = some (.slice a n c) := (HB.out.2.2.1.later H5.out.2.2).cell 0
    clear HTC LT2 ST hb4 hb24 k45 hm5 bt4 ot4 HK
    go_wp2_with (first | (with_reducible refine wpList_alloc_z rfl 67 rfl Ro.zero.cs 21 z_ro ?_) | (with_reducible refine wpList_alloc_z rfl 41 rfl #[.slice none 0 0] 1 z_tab ?_))
    go_loopw [36] (fun i wr => ∃ (k : Nat) (K : List Px), k ≤ n ∧ i = .int .i64 (k : Int) ∧ MetP wr w4.heap.size K ∧ (∀ q, q ∈ K ↔ ∃ i, i < k ∧ (rog L i).p = q) ∧ Below w4.heap.size W5 wr) (fun i _ => n - (intOf i).toNat)
    case atStart => exact ⟨0, [], Nat.zero_le _, rfl, H5.out.1, fun q => by simp, Below.refl _ _⟩
    case round =>
      obtain ⟨k, K, hk, rfl, hM, hKq, hkb⟩ := hrel
      obtain ⟨hk1, hkt, hkT⟩ := HKh.out wr hkb
      by_cases hlt : k < n
      · have hkl : k < L.length := by have := HB.out.2.1; omega
        obtain ⟨g, og, hao, hrow⟩ := (HR.out wr hk1).2.spot hkl
        have LK := hrow.load hkl
        obtain ⟨W6, hst, hblk, hb6⟩ := ro_new (rog L k) wr
        have LP6 := ro_p hblk W6 (Below.refl _ _)
        obtain ⟨W7, K2, hput, hM7, hK2, hg7⟩ := (hM.later hb6).put (rog L k).p
        have hmb : w4.heap.size < wr.heap.size := hM.lt
        have hb67 : Below w4.heap.size W6 W7 := grown_below hg7 (Nat.le_refl _) (by have := hb6.size; omega)
        have hb57 : Below w4.heap.size W5 W7 := (hkb.trans (hb6.mono (Nat.le_of_lt hmb))).trans hb67
        have bx7 : Blk W7 wr.heap.size 67 (rog L k).cs := (hg7.block _ hblk.lt (by intro e; injection e with e; omega)).trans hblk
        obtain ⟨hk17, hkt7, hkT7⟩ := HKh.out W7 hb57
        have LT7 := tab_t hkt7 W7 (Below.refl _ _)
        have LP7 := ro_p bx7 W7 (Below.refl _ _)
        have HG := get_any a3 T.length c3 T (rog L k).p W7 (HR.out W7 hk17).1 rfl hkT7
        obtain ⟨j, hj, hjp, hjT, hjg⟩ := HBI.out.2.2 k hkl
        obtain ⟨q1, q2⟩ := get_row HOT.out hjT
        have q3 : (roRow (rog L j)).p = (rog L k).p := hjp
        rw [q3] at q1 q2
        rw [q1, q2] at HG
        have q4 : (roRow (rog L j)).h = (rog L j).h := rfl
        rw [q4] at HG
        have HX := Lib.hid (And.intro hKq (And.intro hM7 (And.intro hK2 (And.intro hb57 (And.intro bx7 (And.intro hkl (And.intro hj (And.intro hjp hjg))))))))
        subst hao
        clear hM hKq hkb hk1 hkt hkT hrow hkl hblk hb6 hM7 hK2 hg7 hmb hb67 hb57 bx7 hk17 hkt7 hkT7 q1 q2 q3 q4 hj hjp hjT hjg
        go_wp2_with (first | (with_reducible refine wpList_alloc_z rfl 67 rfl Ro.zero.cs 21 z_ro ?_) | (with_reducible refine wpList_alloc_z rfl 41 rfl #[.slice none 0 0] 1 z_tab ?_))
        refine HG.mono ?_
        rintro e W8 ⟨rfl, hb8⟩
        have hmb7 : w4.heap.size ≤ W7.heap.size := Nat.le_of_lt HX.out.2.1.lt
        have hb58 : Below w4.heap.size W5 W8 := HX.out.2.2.2.1.trans (hb8.mono hmb7)
        have hk18 := (HKh.out W8 hb58).1
        have CR8 : W8.cell? ⟨w.heap.size, 0, none⟩ = some (.slice (some ⟨g, og, none⟩) n c) := (HB.out.2.2.1.later hk18).cell 0
        have HY := Lib.hid (And.intro (HX.out.2.2.2.2.1.later hb8) (And.intro hb58 (And.intro hk18 hb8)))
        generalize hhop : (rog L j).h = hop at *
        have HHOP := Lib.hid hhop
        clear HG LT7 LP7 LP6 LK hput hst hb8 hb58 hk18 hmb7 hhop
        go_wp2_with fail
        go_loopw [10, 55] (fun v i wr => ∃ (m : Nat) (b : Bool), m ≤ n ∧ i = .int .i64 (m : Int) ∧ v = .bool b ∧ (b = true ↔ ∃ i, i < m ∧ tells (rog L k) (rog L i) hop) ∧ Below W8.heap.size W8 wr) (fun _ i _ => n - (intOf i).toNat)
        case atStart => exact ⟨0, false, Nat.zero_le _, rfl, rfl, by simp, Below.refl _ _⟩
        case round =>
          obtain ⟨m, b, hm, rfl, rfl, hbi, hmb⟩ := hrel
          by_cases hml : m < n
          · have hmL : m < L.length := by have := HB.out.2.1; omega
            obtain ⟨g2, o2, hao2, hrow2⟩ := (HR.out wr (bel_trans HY.out.2.2.1 hmb)).2.spot hmL
            obtain ⟨rfl, rfl⟩ : g = g2 ∧ og = o2 := by injection hao2 with h9; injection h9 with h8 h7; exact ⟨h8, h7⟩
            have LK9 := hrow2.load hmL
            obtain ⟨W9, hst9, hblk9, hb9⟩ := ro_new (rog L m) wr
            have bx9 := (HY.out.1.later hmb).later hb9
            have HZ := Lib.hid (And.intro hbi (bel_trans hmb hb9))
            clear hbi hmb hb9 hrow2 hmL
            cases b
            · have A1 := ro_p hblk9 W9 (Below.refl _ _)
              have A2 := ro_h hblk9 W9 (Below.refl _ _)
              have A3 := ro_f hblk9 W9 (Below.refl _ _)
              have A4 := ro_s hblk9 W9 (Below.refl _ _)
              have B1 := ro_p bx9 W9 (Below.refl _ _)
              have B3 := ro_f bx9 W9 (Below.refl _ _)
              have B4 := ro_s bx9 W9 (Below.refl _ _)
              have EQ := eqP (rog L m).p (rog L k).p
              clear hblk9 bx9
              by_cases c1 : (rog L m).p = (rog L k).p
              · rw [decide_eq_true c1] at EQ
                by_cases c2 : (rog L m).h = hop
                · have d2 : ((rog L m).h == hop) = true := by rw [c2]; simp
                  by_cases c3 : (rog L k).f < (rog L m).f
                  · have HC3 := Lib.hid (And.intro c1 (And.intro c2 c3))
                    have d3 : decide ((rog L k).f < (rog L m).f) = true := decide_eq_true c3
                    clear c1 c2
                    skip
                    have HN := Lib.hid (show tells (rog L k) (rog L m) hop from ⟨HC3.out.1, HC3.out.2.1, .inl HC3.out.2.2⟩)
                    go_wp2_with (first | (with_reducible refine wpList_alloc_z rfl 67 rfl Ro.zero.cs 21 z_ro ?_) | (with_reducible refine wpList_alloc_z rfl 41 rfl #[.slice none 0 0] 1 z_tab ?_))
                    go_roundw
                    case rel => exact ⟨m + 1, true, by omega, by go_num, rfl, ⟨fun _ => ⟨m, by omega, HN.out⟩, fun _ => rfl⟩, HZ.out.2⟩
                    case measure => (simp [intOf]; try omega)
                  · have d3 : decide ((rog L k).f < (rog L m).f) = false := decide_eq_false c3
                    by_cases c4 : (rog L m).f = (rog L k).f
                    · have d4 : ((rog L m).f == (rog L k).f) = true := by rw [c4]; simp
                      by_cases c5 : (rog L m).s ≤ (rog L k).s
                      · have HC3 := Lib.hid (And.intro c1 (And.intro c2 (And.intro c4 c5)))
                        clear c1 c2 c4
                        skip
                        have HN := Lib.hid (show tells (rog L k) (rog L m) hop from ⟨HC3.out.1, HC3.out.2.1, .inr HC3.out.2.2⟩)
                        go_wp2_with (first | (with_reducible refine wpList_alloc_z rfl 67 rfl Ro.zero.cs 21 z_ro ?_) | (with_reducible refine wpList_alloc_z rfl 41 rfl #[.slice none 0 0] 1 z_tab ?_))
                        go_roundw
                        case rel => exact ⟨m + 1, true, by omega, by go_num, rfl, ⟨fun _ => ⟨m, by omega, HN.out⟩, fun _ => rfl⟩, HZ.out.2⟩
                        case measure => (simp [intOf]; try omega)
                      · have HC3 := Lib.hid (And.intro c3 c5)
                        clear c1 c2 c4
                        skip
                        have HN := Lib.hid (show ¬ tells (rog L k) (rog L m) hop from (fun h => h.2.2.elim HC3.out.1 fun h => HC3.out.2 h.2))
                        go_wp2_with (first | (with_reducible refine wpList_alloc_z rfl 67 rfl Ro.zero.cs 21 z_ro ?_) | (with_reducible refine wpList_alloc_z rfl 41 rfl #[.slice none 0 0] 1 z_tab ?_))
                        go_roundw
                        case rel => exact ⟨m + 1, false, by omega, by go_num, rfl, ⟨fun h => (by cases h), fun ⟨i, h1, h2⟩ => by
                            by_cases e : i = m
                            · subst e; exact absurd h2 HN.out
                            · exact HZ.out.1.2 ⟨i, by omega, h2⟩⟩, HZ.out.2⟩
                        case measure => (simp [intOf]; try omega)
                    · have d4 : ((rog L m).f == (rog L k).f) = false := by simpa using c4
                      have HC3 := Lib.hid (And.intro c3 c4)
                      clear c1 c2 c4
                      skip
                      have HN := Lib.hid (show ¬ tells (rog L k) (rog L m) hop from (fun h => h.2.2.elim HC3.out.1 fun h => HC3.out.2 h.1))
                      go_wp2_with (first | (with_reducible refine wpList_alloc_z rfl 67 rfl Ro.zero.cs 21 z_ro ?_) | (with_reducible refine wpList_alloc_z rfl 41 rfl #[.slice none 0 0] 1 z_tab ?_))
                      go_roundw
                      case rel => exact ⟨m + 1, false, by omega, by go_num, rfl, ⟨fun h => (by cases h), fun ⟨i, h1, h2⟩ => by
                          by_cases e : i = m
                          · subst e; exact absurd h2 HN.out
                          · exact HZ.out.1.2 ⟨i, by omega, h2⟩⟩, HZ.out.2⟩
                      case measure => (simp [intOf]; try omega)
                · have d2 : ((rog L m).h == hop) = false := by simpa using c2
                  have HC3 := Lib.hid c2
                  clear c1 c2
                  skip
                  have HN := Lib.hid (show ¬ tells (rog L k) (rog L m) hop from (fun h => HC3.out h.2.1))
                  go_wp2_with (first | (with_reducible refine wpList_alloc_z rfl 67 rfl Ro.zero.cs 21 z_ro ?_) | (with_reducible refine wpList_alloc_z rfl 41 rfl #[.slice none 0 0] 1 z_tab ?_))
                  go_roundw
                  case rel => exact ⟨m + 1, false, by omega, by go_num, rfl, ⟨fun h => (by cases h), fun ⟨i, h1, h2⟩ => by
                      by_cases e : i = m
                      · subst e; exact absurd h2 HN.out
                      · exact HZ.out.1.2 ⟨i, by omega, h2⟩⟩, HZ.out.2⟩
                  case measure => (simp [intOf]; try omega)
              · rw [decide_eq_false c1] at EQ
                have HC3 := Lib.hid c1
                clear c1
                skip
                have HN := Lib.hid (show ¬ tells (rog L k) (rog L m) hop from (fun h => HC3.out h.1))
                go_wp2_with (first | (with_reducible refine wpList_alloc_z rfl 67 rfl Ro.zero.cs 21 z_ro ?_) | (with_reducible refine wpList_alloc_z rfl 41 rfl #[.slice none 0 0] 1 z_tab ?_))
                go_roundw
                case rel => exact ⟨m + 1, false, by omega, by go_num, rfl, ⟨fun h => (by cases h), fun ⟨i, h1, h2⟩ => by
                    by_cases e : i = m
                    · subst e; exact absurd h2 HN.out
                    · exact HZ.out.1.2 ⟨i, by omega, h2⟩⟩, HZ.out.2⟩
                case measure => (simp [intOf]; try omega)
            · clear hblk9 bx9
              go_wp2_with (first | (with_reducible refine wpList_alloc_z rfl 67 rfl Ro.zero.cs 21 z_ro ?_) | (with_reducible refine wpList_alloc_z rfl 41 rfl #[.slice none 0 0] 1 z_tab ?_))
              go_roundw
              case rel => exact ⟨m + 1, true, by omega, by go_num, rfl, ⟨fun _ => by
                obtain ⟨i, h1, h2⟩ := HZ.out.1.1 rfl
                exact ⟨i, by omega, h2⟩, fun _ => rfl⟩, HZ.out.2⟩
              case measure => (simp [intOf]; try omega)
          · have i1 : ¬ ((m : Int) < (n : Int)) := by omega
            have hbt : b = true := hbi.2 ⟨j, by have := HX.out.2.2.2.2.2.2.1; have := HB.out.2.1; omega, HX.out.2.2.2.2.2.2.2.1, HHOP.out, by
              have h9 := HX.out.2.2.2.2.2.2.2.2 k HX.out.2.2.2.2.2.1 HX.out.2.2.2.2.2.2.2.1.symm
              unfold asGood at h9
              omega⟩
            subst hbt
            have HZ := Lib.hid hmb
            clear hbi hmb
            go_wp2_with fail
            go_roundw
            case rel => exact ⟨k + 1, K2, by omega, by go_num, HX.out.2.1.later (bel_trans HY.out.2.2.2 HZ.out), fun q => by
              rw [HX.out.2.2.1, HX.out.1]
              constructor
              · rintro (⟨i, h1, h2⟩ | h)
                · exact ⟨i, by omega, h2⟩
                · exact ⟨k, by omega, h.symm⟩
              · rintro ⟨i, h1, h2⟩
                by_cases e : i = k
                · subst e; exact .inr h2.symm
                · exact .inl ⟨i, by omega, h2⟩, HX.out.2.2.2.1.trans ((bel_trans HY.out.2.2.2 HZ.out).mono (Nat.le_of_lt HX.out.2.1.lt))⟩
            case measure => (simp [intOf]; try omega)
      · have i1 : ¬ ((k : Int) < (n : Int)) := by omega
        have hkn : k = L.length := by have := HB.out.2.1; omega
        obtain ⟨es, clock, hh, hsz⟩ := hM.size
        obtain ⟨_, _, _, _, hnd⟩ := hM
        have hlen : K.length = T.length := met_len HBI.out.1.rise hnd (fun q => by rw [hKq, hkn]) (fun x hx => by
          obtain ⟨j, hj, _, rfl, _⟩ := (HBI.out.1.mem x).1 hx
          exact ⟨j, hj, rfl⟩) (fun k hk => by
          obtain ⟨j, hj, hjp, hjT, _⟩ := HBI.out.2.2 k hk
          exact ⟨_, hjT, hjp⟩)
        have hse : es.size = T.length := hsz.trans hlen
        have CT := tab_c hkt wr (Below.refl _ _)
        have hlm := fun ty => run_len_map' (ty := ty) (w := wr) hh
        rw [hse] at hlm
        have HF := Lib.hid hk1
        clear hh hsz hnd hlen hse hKq hkb hk1 hkt hkT hkn
        go_wp2_with fail
        go_ret
        exact ⟨by first | rfl | simp, bel_trans HB.out.1 HF.out⟩
  · cases hB3 with
    | good k => exact absurd k h1
    | rib k =>
    have e1 : ribE L = 211 := if_neg h1
    rw [e1] at HCK
    simp only [List.length_nil] at ST
    clear e1 h1 k
    go_wp2_with (first | (with_reducible refine wpList_alloc_z rfl 67 rfl Ro.zero.cs 21 z_ro ?_) | (with_reducible refine wpList_alloc_z rfl 41 rfl #[.slice none 0 0] 1 z_tab ?_))
    refine HCK.mono ?_
    rintro e w4 ⟨rfl, hb4⟩
    go_wp2_with fail
    go_ret
    exact ⟨rfl, bel_trans HB.out.1 (bel_trans HT.out.2.2 hb4)⟩
end Go.Proofs.YtclkfmblogkakaaDoor
namespace Go.Proofs.YtclkfmblogkakaaDoor
open Go.RowKit Go.Shelf Go.ChangeShapes Go.WideShapes Go.ChangeAt
set_option linter.unusedVariables false
set_option maxRecDepth 100000
theorem c_bool : Tryd.prog.cellsOf 4 = 1 := by kernel_rfl

/-! ### api.Rib -/
theorem c_ro : Tryd.prog.cellsOf 67 = 21 := by kernel_rfl
theorem c_slro : Tryd.prog.cellsOf 22 = 1 := by kernel_rfl
theorem c_bxro : Tryd.prog.cellsOf 24 = 1 := by kernel_rfl
theorem ro_cells {H : Type} {enc : TypeId × Value → H} {W : World} {sp : Nat → Bool} {held : Bool} {fuel : Nat} {cs : List Value} {y : DataW H × List MemPlace} (h : DataW.trod enc Tryd.prog W 0 sp held fuel 67 cs = some y) : ∃ r : Ro, cs = r.cs.toList := by
  obtain ⟨xs, m, _, _, hlen, hxs, hg⟩ := DataW.trod_struct Tryd.underlying67 h
  rw [c_ro] at hlen
  obtain ⟨y0, y1, y2, y3, rfl⟩ : ∃ y0 y1 y2 y3, xs = [y0, y1, y2, y3] := by
    match xs, hxs with
    | [y0, y1, y2, y3], _ => exact ⟨y0, y1, y2, y3, rfl⟩
  have t0 : DataW.trod enc Tryd.prog W 0 sp held m 65 (List.take (Tryd.prog.cellsOf 65) (List.drop 0 cs)) = some y0 := hg 0 _ rfl
  rw [c_px] at t0
  have t1 : DataW.trod enc Tryd.prog W 0 sp held m 3 (List.take (Tryd.prog.cellsOf 3) (List.drop 18 cs)) = some y1 := hg 1 _ rfl
  rw [c_int] at t1
  have t2 : DataW.trod enc Tryd.prog W 0 sp held m 3 (List.take (Tryd.prog.cellsOf 3) (List.drop 19 cs)) = some y2 := hg 2 _ rfl
  rw [c_int] at t2
  have t3 : DataW.trod enc Tryd.prog W 0 sp held m 3 (List.take (Tryd.prog.cellsOf 3) (List.drop 20 cs)) = some y3 := hg 3 _ rfl
  rw [c_int] at t3
  obtain ⟨p, hp, _, _⟩ := px_cells t0
  obtain ⟨u1, e1, _, f1⟩ := DataW.trod_int Tryd.underlying3 t1
  obtain ⟨u2, e2, _, f2⟩ := DataW.trod_int Tryd.underlying3 t2
  obtain ⟨u3, e3, _, f3⟩ := DataW.trod_int Tryd.underlying3 t3
  refine ⟨⟨p, u1, u2, u3⟩, ?_⟩
  have q18 : (cs.drop 18).take 1 ++ cs.drop 19 = cs.drop 18 := by rw [show cs.drop 19 = (cs.drop 18).drop 1 by rw [List.drop_drop], List.take_append_drop]
  have q19 : (cs.drop 19).take 1 ++ cs.drop 20 = cs.drop 19 := by rw [show cs.drop 20 = (cs.drop 19).drop 1 by rw [List.drop_drop], List.take_append_drop]
  have ql : (cs.drop 20).take 1 = cs.drop 20 := List.take_of_length_le (by simp; omega)
  have hs : cs = cs.take 18 ++ ((cs.drop 18).take 1 ++ ((cs.drop 19).take 1 ++ ((cs.drop 20).take 1))) := by rw [ql, q19, q18, List.take_append_drop]
  rw [List.drop_zero] at hp
  rw [hs, hp, e1, e2, e3]
  simp [Ro.cs]
theorem rorows_of {H : Type} {enc : TypeId × Value → H} {W : World} {sp : Nat → Bool} {held : Bool} {fuel : Nat} {cs : List Value} {y : DataW H × List MemPlace} (h : DataW.trod enc Tryd.prog W 0 sp held fuel 22 cs = some y) : ∃ a n c L, cs = [.slice a n c] ∧ List.length L = n ∧ RoAt W a L ∧ n ≤ c ∧ c ≤ maxLen ∧ (a = none → c = 0) := by
  rcases Go.Deep.open_slice Tryd.underlying22 h with ⟨hcs, _⟩ | ⟨x, len', cap', q, nn, Dt, Pl, hcs, _, hl, hm, hq, _, hi⟩
  · exact ⟨none, 0, 0, [], hcs, rfl, .inl rfl, Nat.le_refl _, Nat.zero_le _, fun _ => rfl⟩
  · have hex : ∀ i, i < len' → ∃ y : Ro, ∀ j, j < 21 → W.cell? (x.add (i * 21 + j)) = (y.cs)[j]? := by
      intro i hil
      obtain ⟨cs', hc', ht'⟩ := hi i (by rw [hq]; split <;> omega)
      rw [c_ro] at hc'
      obtain ⟨_, hlen, hat⟩ := World.cells?_some hc'
      obtain ⟨y, rfl⟩ := ro_cells ht'
      refine ⟨y, fun j hj => ?_⟩
      have h9 := hat j hj
      rw [Go.Deep.add_add] at h9
      rw [h9]
      simp
    obtain ⟨f, hf2⟩ : ∃ f : Nat → Ro, ∀ i, i < len' → ∀ j, j < 21 → W.cell? (x.add (i * 21 + j)) = ((f i).cs)[j]? :=
      ⟨fun i => if h : i < len' then (hex i h).choose else Ro.zero, fun i hil => by simp only [dif_pos hil]; exact (hex i hil).choose_spec⟩
    refine ⟨some x, len', cap', (List.range len').map f, hcs, by simp, ?_, hl, hm, fun h => by cases h⟩
    by_cases h0 : len' = 0
    · left; rw [h0]; rfl
    · right
      have h1 := hf2 0 (by omega) 0 (by omega)
      have h2 : ((f 0).cs)[0]? = some (.int .i64 (f 0).p.a.v) := by rw [Ro.cp _ _ (by omega), Px.ca _ _ (by omega), Ad.c0]
      rw [h2] at h1
      obtain ⟨b, o, s⟩ := x
      obtain rfl : s = none := by simpa [Addr.add] using World.cell?_spot h1
      refine ⟨b, o, rfl, ?_, fun i hi j hj => ?_⟩
      · have := cell_lt h1
        simpa [Addr.add_lit] using this
      · have hil : i < len' := by simpa using hi
        have h3 := hf2 i hil j hj
        rw [Addr.add_lit] at h3
        rw [Nat.add_assoc, h3]
        congr 2
        simp [rog, hil]
theorem rib_of {H : Type} {enc : TypeId × Value → H} {W : World} {sp : Nat → Bool} {base : Nat} {held : Bool} {v : Value} {d : DataW H} {p : List MemPlace} (hv : Value.okWide Tryd.prog W .any base 24 v) (h : DataW.Trod enc Tryd.prog W 0 sp held 24 v d p) : ∃ a n c L, v = .agg #[.slice a n c] ∧ List.length L = n ∧ RoAt W a L ∧ n ≤ c ∧ c ≤ maxLen ∧ (a = none → c = 0) := by
  obtain ⟨cs, rfl, hsz⟩ := okWide_struct Tryd.underlying24 hv
  obtain ⟨fuel, hf⟩ := h
  obtain ⟨xs, m, _, _, hlen, hxs, hg⟩ := DataW.trod_struct Tryd.underlying24 (show DataW.trod enc Tryd.prog W 0 sp held fuel 24 cs.toList = some _ from hf)
  rw [c_bxro] at hlen
  obtain ⟨y0, rfl⟩ : ∃ y0, xs = [y0] := by
    match xs, hxs with
    | [a], _ => exact ⟨a, rfl⟩
  have t0 : DataW.trod enc Tryd.prog W 0 sp held m 22 (List.take (Tryd.prog.cellsOf 22) (List.drop 0 cs.toList)) = some y0 := hg 0 _ rfl
  rw [c_slro, List.drop_zero, List.take_of_length_le (by omega)] at t0
  obtain ⟨a, n, c, L, h1, h2, h3⟩ := rorows_of t0
  exact ⟨a, n, c, L, congrArg Value.agg (Array.toList_inj.1 (by rw [h1])), h2, h3⟩

/-! ### api.Batch -/
theorem c_up : Tryd.prog.cellsOf 72 = 22 := by kernel_rfl
theorem c_slup : Tryd.prog.cellsOf 25 = 1 := by kernel_rfl
theorem c_bxup : Tryd.prog.cellsOf 27 = 1 := by kernel_rfl
theorem up_cells {H : Type} {enc : TypeId × Value → H} {W : World} {sp : Nat → Bool} {held : Bool} {fuel : Nat} {cs : List Value} {y : DataW H × List MemPlace} (h : DataW.trod enc Tryd.prog W 0 sp held fuel 72 cs = some y) : ∃ r : Up, cs = r.cs.toList := by
  obtain ⟨xs, m, _, _, hlen, hxs, hg⟩ := DataW.trod_struct Tryd.underlying72 h
  rw [c_up] at hlen
  obtain ⟨y0, y1, y2, y3, y4, rfl⟩ : ∃ y0 y1 y2 y3 y4, xs = [y0, y1, y2, y3, y4] := by
    match xs, hxs with
    | [y0, y1, y2, y3, y4], _ => exact ⟨y0, y1, y2, y3, y4, rfl⟩
  have t0 : DataW.trod enc Tryd.prog W 0 sp held m 65 (List.take (Tryd.prog.cellsOf 65) (List.drop 0 cs)) = some y0 := hg 0 _ rfl
  rw [c_px] at t0
  have t1 : DataW.trod enc Tryd.prog W 0 sp held m 3 (List.take (Tryd.prog.cellsOf 3) (List.drop 18 cs)) = some y1 := hg 1 _ rfl
  rw [c_int] at t1
  have t2 : DataW.trod enc Tryd.prog W 0 sp held m 4 (List.take (Tryd.prog.cellsOf 4) (List.drop 19 cs)) = some y2 := hg 2 _ rfl
  rw [c_bool] at t2
  have t3 : DataW.trod enc Tryd.prog W 0 sp held m 3 (List.take (Tryd.prog.cellsOf 3) (List.drop 20 cs)) = some y3 := hg 3 _ rfl
  rw [c_int] at t3
  have t4 : DataW.trod enc Tryd.prog W 0 sp held m 3 (List.take (Tryd.prog.cellsOf 3) (List.drop 21 cs)) = some y4 := hg 4 _ rfl
  rw [c_int] at t4
  obtain ⟨p, hp, _, _⟩ := px_cells t0
  obtain ⟨u1, e1, _, f1⟩ := DataW.trod_int Tryd.underlying3 t1
  obtain ⟨u2, e2, _⟩ := DataW.trod_bool Tryd.underlying4 t2
  obtain ⟨u3, e3, _, f3⟩ := DataW.trod_int Tryd.underlying3 t3
  obtain ⟨u4, e4, _, f4⟩ := DataW.trod_int Tryd.underlying3 t4
  refine ⟨⟨p, u1, u2, u3, u4⟩, ?_⟩
  have q18 : (cs.drop 18).take 1 ++ cs.drop 19 = cs.drop 18 := by rw [show cs.drop 19 = (cs.drop 18).drop 1 by rw [List.drop_drop], List.take_append_drop]
  have q19 : (cs.drop 19).take 1 ++ cs.drop 20 = cs.drop 19 := by rw [show cs.drop 20 = (cs.drop 19).drop 1 by rw [List.drop_drop], List.take_append_drop]
  have q20 : (cs.drop 20).take 1 ++ cs.drop 21 = cs.drop 20 := by rw [show cs.drop 21 = (cs.drop 20).drop 1 by rw [List.drop_drop], List.take_append_drop]
  have ql : (cs.drop 21).take 1 = cs.drop 21 := List.take_of_length_le (by simp; omega)
  have hs : cs = cs.take 18 ++ ((cs.drop 18).take 1 ++ ((cs.drop 19).take 1 ++ ((cs.drop 20).take 1 ++ ((cs.drop 21).take 1)))) := by rw [ql, q20, q19, q18, List.take_append_drop]
  rw [List.drop_zero] at hp
  rw [hs, hp, e1, e2, e3, e4]
  simp [Up.cs]
theorem uprows_of {H : Type} {enc : TypeId × Value → H} {W : World} {sp : Nat → Bool} {held : Bool} {fuel : Nat} {cs : List Value} {y : DataW H × List MemPlace} (h : DataW.trod enc Tryd.prog W 0 sp held fuel 25 cs = some y) : ∃ a n c L, cs = [.slice a n c] ∧ List.length L = n ∧ UpAt W a L ∧ n ≤ c ∧ c ≤ maxLen ∧ (a = none → c = 0) := by
  rcases Go.Deep.open_slice Tryd.underlying25 h with ⟨hcs, _⟩ | ⟨x, len', cap', q, nn, Dt, Pl, hcs, _, hl, hm, hq, _, hi⟩
  · exact ⟨none, 0, 0, [], hcs, rfl, .inl rfl, Nat.le_refl _, Nat.zero_le _, fun _ => rfl⟩
  · have hex : ∀ i, i < len' → ∃ y : Up, ∀ j, j < 22 → W.cell? (x.add (i * 22 + j)) = (y.cs)[j]? := by
      intro i hil
      obtain ⟨cs', hc', ht'⟩ := hi i (by rw [hq]; split <;> omega)
      rw [c_up] at hc'
      obtain ⟨_, hlen, hat⟩ := World.cells?_some hc'
      obtain ⟨y, rfl⟩ := up_cells ht'
      refine ⟨y, fun j hj => ?_⟩
      have h9 := hat j hj
      rw [Go.Deep.add_add] at h9
      rw [h9]
      simp
    obtain ⟨f, hf2⟩ : ∃ f : Nat → Up, ∀ i, i < len' → ∀ j, j < 22 → W.cell? (x.add (i * 22 + j)) = ((f i).cs)[j]? :=
      ⟨fun i => if h : i < len' then (hex i h).choose else Up.zero, fun i hil => by simp only [dif_pos hil]; exact (hex i hil).choose_spec⟩
    refine ⟨some x, len', cap', (List.range len').map f, hcs, by simp, ?_, hl, hm, fun h => by cases h⟩
    by_cases h0 : len' = 0
    · left; rw [h0]; rfl
    · right
      have h1 := hf2 0 (by omega) 0 (by omega)
      have h2 : ((f 0).cs)[0]? = some (.int .i64 (f 0).p.a.v) := by rw [Up.cp _ _ (by omega), Px.ca _ _ (by omega), Ad.c0]
      rw [h2] at h1
      obtain ⟨b, o, s⟩ := x
      obtain rfl : s = none := by simpa [Addr.add] using World.cell?_spot h1
      refine ⟨b, o, rfl, ?_, fun i hi j hj => ?_⟩
      · have := cell_lt h1
        simpa [Addr.add_lit] using this
      · have hil : i < len' := by simpa using hi
        have h3 := hf2 i hil j hj
        rw [Addr.add_lit] at h3
        rw [Nat.add_assoc, h3]
        congr 2
        simp [upg, hil]
theorem bat_of {H : Type} {enc : TypeId × Value → H} {W : World} {sp : Nat → Bool} {base : Nat} {held : Bool} {v : Value} {d : DataW H} {p : List MemPlace} (hv : Value.okWide Tryd.prog W .any base 27 v) (h : DataW.Trod enc Tryd.prog W 0 sp held 27 v d p) : ∃ a n c L, v = .agg #[.slice a n c] ∧ List.length L = n ∧ UpAt W a L ∧ n ≤ c ∧ c ≤ maxLen ∧ (a = none → c = 0) := by
  obtain ⟨cs, rfl, hsz⟩ := okWide_struct Tryd.underlying27 hv
  obtain ⟨fuel, hf⟩ := h
  obtain ⟨xs, m, _, _, hlen, hxs, hg⟩ := DataW.trod_struct Tryd.underlying27 (show DataW.trod enc Tryd.prog W 0 sp held fuel 27 cs.toList = some _ from hf)
  rw [c_bxup] at hlen
  obtain ⟨y0, rfl⟩ : ∃ y0, xs = [y0] := by
    match xs, hxs with
    | [a], _ => exact ⟨a, rfl⟩
  have t0 : DataW.trod enc Tryd.prog W 0 sp held m 25 (List.take (Tryd.prog.cellsOf 25) (List.drop 0 cs.toList)) = some y0 := hg 0 _ rfl
  rw [c_slup, List.drop_zero, List.take_of_length_le (by omega)] at t0
  obtain ⟨a, n, c, L, h1, h2, h3⟩ := uprows_of t0
  exact ⟨a, n, c, L, congrArg Value.agg (Array.toList_inj.1 (by rw [h1])), h2, h3⟩
end Go.Proofs.YtclkfmblogkakaaDoor
