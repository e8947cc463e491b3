/-
  The contract of the law's put. Nothing here is a statement of the document.
-/
import Derived.Test.YtkoenconjldojaaShPp
import Derived.Lib.AppendZeros
namespace Go.Proofs.Ytkoenconjldojaa
open Go.RowKit Go.Shelf
set_option linter.unusedVariables false
set_option linter.unusedSimpArgs false
set_option maxRecDepth 100000
attribute [local go_sem 10000] gtU_rule leU_rule ltU_rule geU_rule adU_rule sbU_rule mxU_rule mnU_rule mnI_rule
attribute [local go_sem ↓] load_at_rule store_at_rule load_la_rule store_la_rule load_bs_rule store_bs_rule load_vw_rule store_vw_rule load_jo_rule store_jo_rule load_ms_rule store_ms_rule load_ch_rule store_ch_rule load_hd_rule store_hd_rule load_rb_rule store_rb_rule load_en_rule store_en_rule
attribute [local go_sem ↓] build_hd_rule build_rb_rule build_en_rule build_at_rule build_jo_rule upbuild_rule upapp_rule robuild_rule roapp_rule enbuild_rule enapp_rule build_vw_rule eq_at_rule eq_la_rule build_ch_rule build_ms_rule
set_option maxRecDepth 100000 in
set_option maxHeartbeats 1600000 in
theorem llast_any (v : Vw) (w : World) (h : v.b.i + v.n < 18446744073709551616) : Calls Try.prog 30 #[.agg v.cs] w fun e w' => e = .returned (.int .u64 (v.z : Int)) ∧ Below w.heap.size w w' := by
  obtain ⟨W1, hW1⟩ : ∃ W1, w.alloc (.cells v.cs 36) = W1 := ⟨_, rfl⟩
  have hb1 : Below w.heap.size w W1 := by rw [← hW1]; exact below_alloc w _
  have b1 : Blk W1 w.heap.size 36 v.cs := by rw [← hW1]; exact Blk.new w _ _
  have d0 : adU (v.b.i : Int) (v.n : Int) = (v.z : Int) := adU_nat h
  have d1 : IntKind.u64.wrap (v.n : Int) = (v.n : Int) := by rw [IntKind.wrap_u64]; omega
  obtain ⟨c0, c1, c2, c3, c4⟩ := vw_cells b1
  have HB := Lib.hid hb1
  clear hb1 b1 h
  go_enter Try.func30, Try.ntmps30
  go_wp2
  go_ret
  exact ⟨rfl, HB.out⟩
def zappSem (ty : TypeId) (args : Array Value) : Sem Value := Builtin.append_ #[34, 3] ty args
theorem zapp_rule (ty : TypeId) (args : Array Value) : Builtin.append_ #[34, 3] ty args = zappSem ty args := rfl
attribute [local go_sem ↓] zapp_rule
set_option maxRecDepth 100000 in
set_option maxHeartbeats 1600000 in
theorem grow_any (n : Nat) (w : World) (h0 : 0 < n) (hn : n ≤ 1000) : Calls Try.prog 60 #[.slice none 0 0, .int .i64 (n : Int)] w fun e w' => ∃ v, e = .returned v ∧ OwnEn w' w.heap.size v [] ∧ Below w.heap.size w w' := by
  obtain ⟨i0, hi, hz0, hz1, hz2⟩ := info_parts info_en
  have HZ := Go.Lib.run_append_nil_zeros (P := Try.prog) w 34 3 34 92 i0 (.agg En.zero.cs) .i64 .i64 Try.underlying34 Try.underlying3 hi hz0 n h0 (by rw [hz1]; decide) (by omega) (by rw [hz2]; omega)
  obtain ⟨cp, hcp⟩ : ∃ cp, grownCap w n 0 92 = cp := ⟨_, rfl⟩
  have hge : n ≤ cp := by rw [← hcp]; exact grownCap_ge w n 0 _
  have hle : cp ≤ maxLen := by rw [← hcp]; exact grownCap_le_maxLen w n 0 _ (by unfold maxLen; omega)
  rw [hcp] at HZ
  obtain ⟨Z, hZ⟩ : ∃ Z, Builtin.zeroCells (Value.agg En.zero.cs).cells n ++ Builtin.zeroCells (Value.agg En.zero.cs).cells (cp - n) = Z := ⟨_, rfl⟩
  have hZs : Z.size = cp * 4 := by
    rw [← hZ, Array.size_append]
    have e : (Value.agg En.zero.cs).cells.size = 4 := rfl
    simp only [Builtin.zeroCells, Array.size_map, Array.size_range, e]
    omega
  rw [hZ] at HZ
  have HZ2 : (zappSem 34 #[.slice none 0 0, .int .i64 (n : Int)]).run Try.prog w = .ok (.slice (some ⟨w.heap.size, 0, none⟩) n cp) (w.drew.alloc (.cells Z 92)) := HZ
  have hm2 : cp ≤ 9223372036854775807 := by unfold maxLen at hle; omega
  have HO : OwnEn (w.drew.alloc (.cells Z 92)) w.heap.size (.slice (some ⟨w.heap.size, 0, none⟩) 0 cp) [] :=
    ⟨rfl, .inr ⟨_, cp, Z, rfl, Nat.le_refl _, heap_alloc_new w.drew _, Nat.zero_le _, hle, hZs, rfl⟩⟩
  have HB : Below w.heap.size w (w.drew.alloc (.cells Z 92)) := (bel_drew (Below.refl _ _)).alloc (Nat.le_refl _) _
  have HF := Lib.hid (And.intro HO HB)
  obtain ⟨W1, hW1⟩ : ∃ W1, w.drew.alloc (.cells Z 92) = W1 := ⟨_, rfl⟩
  rw [hW1] at HZ2 HF
  have d0 : ¬ ((n : Int) < 0) := by omega
  clear HZ HO HB hi hz0 hz1 hz2 hZ hZs hW1 hcp hle
  go_enter Try.func60, Try.ntmps60
  go_wp2_with fail
  go_ret
  exact ⟨_, rfl, HF.out⟩
theorem enapp_none9 {w : World} {B : Nat} {v : Value} {L : List En} (ty : TypeId) (h : OwnEn w B v L) : (enappSem ty #[v, .slice none 0 0]).run Try.prog w = .ok v w := by
  obtain ⟨i0, hi, hz0, hz1, hz2⟩ := info_parts info_en
  exact run_append_owned_none (P := Try.prog) w B 34 ty 92 i0 4 Try.underlying34 hi v L.length (encs L) h
theorem enapp_opt {w : World} {B : Nat} {v : Value} {L M : List En} {a : Option Addr} {m c : Nat} (h : OwnEn w B v L) (hM : EnIn w 0 a m c M) (hs : L.length + m ≤ 100000) (hB : B ≤ w.heap.size) :
    ∃ v' w', (∀ ty : TypeId, (enappSem ty #[v, .slice a m c]).run Try.prog w = .ok v' w') ∧ OwnEn w' B v' (L ++ M) ∧ Below B w w' := by
  obtain ⟨h1, h2, h3, h4, h5, _⟩ := hM
  cases a with
  | none =>
    obtain rfl : M = [] := by
      rcases h2 with h | ⟨g, o, h, _⟩
      · exact h
      · cases h
    obtain rfl := h5 rfl
    obtain rfl : m = 0 := h1.symm
    exact ⟨_, _, fun ty => enapp_none9 ty h, by simpa using h, Below.refl _ _⟩
  | some x =>
    obtain ⟨v', w', q1, q2, q3, q4⟩ := enapp_run (c := c) 34 h h1 h2 (by omega) hB
    exact ⟨v', w', fun ty => q1, q2, (Below.refl _ _).grown q3 hB (fun k hk => (h.lt k hk).1)⟩
set_option maxRecDepth 100000 in
set_option maxHeartbeats 1600000 in
theorem concat_any (a1 a2 : Option Addr) (n1 c1 n2 c2 : Nat) (L1 L2 : List En) (g : Nat) (w : World) (hb : Blk w g 34 #[.slice a1 n1 c1, .slice a2 n2 c2]) (h1 : EnIn w 0 a1 n1 c1 L1) (h2 : EnIn w 0 a2 n2 c2 L2) (hs1 : n1 ≤ 400) (hs2 : n2 ≤ 400) (hp : 0 < n2) :
    Calls Try.prog 50 #[.slice (some ⟨g, 0, none⟩) 2 2] w fun e w' => ∃ v, e = .returned v ∧ OwnEn w' w.heap.size v (L1 ++ L2) ∧ Below w.heap.size w w' := by
  have H0 := Lib.hid (And.intro hb (And.intro h1 h2))
  have hl1 := h1.1
  have hl2 := h2.1
  clear hb h1 h2
  go_enter Try.func50, Try.ntmps50
  go_wp2_with fail
  go_loopw [3, 11] (fun s i wr => ∃ q : Nat, q ≤ 2 ∧ i = .int .i64 (q : Int) ∧ s = .int .i64 ((if q = 0 then 0 else if q = 1 then n1 else n1 + n2 : Nat) : Int) ∧ wr = w) (fun _ i _ => 2 - (intOf i).toNat)
  case atStart => exact ⟨0, by decide, rfl, rfl, rfl⟩
  case round =>
    obtain ⟨q, hq, rfl, rfl, rfl⟩ := hrel
    have e0 : wr.cell? ⟨g, 0, none⟩ = some (.slice a1 n1 c1) := H0.out.1.cell 0
    have e1 : wr.cell? ⟨g, 1, none⟩ = some (.slice a2 n2 c2) := H0.out.1.cell 1
    have hq3 : q = 0 ∨ q = 1 ∨ q = 2 := by omega
    rcases hq3 with rfl | rfl | rfl
    · have d1 : ¬ ((n1 : Int) < 0) := by omega
      go_wp2_with fail
      go_roundw
      case rel => exact ⟨1, by decide, rfl, by simp, trivial⟩
      case measure => (simp [intOf]; try omega)
    · have d1 : ¬ ((n1 : Int) + (n2 : Int) < 0) := by omega
      go_wp2_with fail
      go_roundw
      case rel => exact ⟨2, by decide, rfl, by simp, trivial⟩
      case measure => (simp [intOf]; try omega)
    · have HG := grow_any (n1 + n2) wr (by omega) (by omega)
      rw [Int.natCast_add] at HG
      go_wp2_with fail
      refine HG.mono ?_
      rintro e W1 ⟨v1, rfl, hO1, hb1⟩
      have H1 := Lib.hid (And.intro hO1 hb1)
      clear hO1 hb1
      go_wp2_with fail
      go_loopw [6, 27] (fun s i w2 => ∃ q : Nat, q ≤ 2 ∧ i = .int .i64 (q : Int) ∧ OwnEn w2 wr.heap.size s (if q = 0 then [] else if q = 1 then L1 else L1 ++ L2) ∧ Below wr.heap.size wr w2) (fun _ i _ => 2 - (intOf i).toNat)
      case atStart => exact ⟨0, by decide, rfl, H1.out.1, H1.out.2⟩
      case round =>
        obtain ⟨q, hq, rfl, hO, hbl⟩ := hrel
        have hq3 : q = 0 ∨ q = 1 ∨ q = 2 := by omega
        rcases hq3 with rfl | rfl | rfl
        · have f0 := (H0.out.1.later hbl).cell 0
          obtain ⟨v2, w2, r1, r2, r3⟩ := enapp_opt hO (H0.out.2.1.later hbl) (by simp; omega) hbl.size
          have HP := Lib.hid (And.intro r2 (hbl.trans r3))
          simp only [show (#[.slice a1 n1 c1, .slice a2 n2 c2] : Array Value)[0]? = some (.slice a1 n1 c1) from rfl] at f0
          clear hO hbl r2 r3
          go_wp2_with fail
          go_roundw
          case rel => exact ⟨1, by decide, rfl, by simpa using HP.out.1, HP.out.2⟩
          case measure => (simp [intOf]; try omega)
        · have f0 := (H0.out.1.later hbl).cell 1
          obtain ⟨v2, w2, r1, r2, r3⟩ := enapp_opt hO (H0.out.2.2.later hbl) (by simp; omega) hbl.size
          have HP := Lib.hid (And.intro r2 (hbl.trans r3))
          simp only [show (#[.slice a1 n1 c1, .slice a2 n2 c2] : Array Value)[1]? = some (.slice a2 n2 c2) from rfl] at f0
          clear hO hbl r2 r3
          go_wp2_with fail
          go_roundw
          case rel => exact ⟨2, by decide, rfl, by simpa using HP.out.1, HP.out.2⟩
          case measure => (simp [intOf]; try omega)
        · have HP := Lib.hid (And.intro hO hbl)
          clear hO hbl
          go_wp2_with fail
          go_ret
          exact ⟨_, rfl, by simpa using HP.out.1, HP.out.2⟩
end Go.Proofs.Ytkoenconjldojaa
namespace Go.Proofs.Ytkoenconjldojaa
open Go.RowKit Go.Shelf
set_option linter.unusedVariables false
set_option linter.unusedSimpArgs false
set_option maxRecDepth 100000
attribute [local go_sem 10000] gtU_rule leU_rule ltU_rule geU_rule adU_rule sbU_rule mxU_rule mnU_rule mnI_rule
attribute [local go_sem ↓] load_at_rule store_at_rule load_la_rule store_la_rule load_bs_rule store_bs_rule load_vw_rule store_vw_rule load_jo_rule store_jo_rule load_ms_rule store_ms_rule load_ch_rule store_ch_rule load_hd_rule store_hd_rule load_rb_rule store_rb_rule load_en_rule store_en_rule
attribute [local go_sem ↓] build_hd_rule build_rb_rule build_en_rule build_at_rule build_jo_rule upbuild_rule upapp_rule robuild_rule roapp_rule enbuild_rule enapp_rule build_vw_rule eq_at_rule eq_la_rule build_ch_rule build_ms_rule
def bslSem (n : Nat) (parts : Array (Nat × Value)) : Sem Value := Instr.buildSlice 118 n parts
theorem bsl_rule (n : Nat) (parts : Array (Nat × Value)) : Instr.buildSlice 118 n parts = bslSem n parts := rfl
attribute [local go_sem ↓] bsl_rule
theorem bsl2_run (a1 a2 : Option Addr) (n1 c1 n2 c2 : Nat) (w : World) : (bslSem 2 #[(0, .slice a1 n1 c1), (1, .slice a2 n2 c2)]).run Try.prog w = .ok (.slice (some ⟨w.heap.size, 0, none⟩) 2 2) (w.alloc (.cells #[.slice a1 n1 c1, .slice a2 n2 c2] 34)) := by kernel_rfl
theorem OwnEn.kept14 {w w' : World} {B : Nat} {S : List Nat} {v : Value} {L : List En} (h : OwnEn w B v L) (k : Kept S w w') (hS : ∀ g ∈ S, g < B) : OwnEn w' B v L := by
  refine ⟨h.1, ?_⟩
  rcases h.2 with h | ⟨g, cap, cur, h1, h2, h3, h4⟩
  · exact .inl h
  · exact .inr ⟨g, cap, cur, h1, h2, k.blk h3 (fun hm => by have := hS g hm; omega), h4⟩
theorem OwnEn.into14 {w : World} {B : Nat} {a : Option Addr} {n c : Nat} {L : List En} (h : OwnEn w B (.slice a n c) L) (hU : ∀ x ∈ L, UpIn w 0 x.a x.n x.c x.U) : EnIn w 0 a n c L := by
  have h9 := h
  obtain ⟨a', c', h1, h2, h3, h4, h5⟩ := h.lies
  injection h1 with e1 e2 e3
  subst e1 e2 e3
  refine ⟨rfl, h4, h2, h3, fun h0 => ?_, fun _ _ _ => Nat.zero_le _, hU⟩
  rcases h9.2 with ⟨h8, _⟩ | ⟨g, cap, cur, h8, _⟩
  · injection h8
  · injection h8 with h8
    rw [h0] at h8
    cases h8
set_option maxHeartbeats 4000000 in
theorem put_none (v : Vw) (c : Ch) (w : World) (hL : EnIn w 0 v.a v.n v.c v.L) (hC : EnIn w 0 c.a c.n c.c c.L) (hz : v.b.i ≤ 4611686018427387904) (hn : v.n ≤ 40) (hcn : c.n ≤ 8) (h0 : c.ix = 0) (hc0 : c.n = 0) :
    Calls Try.prog 29 #[.agg v.cs, .agg c.cs] w fun e w' => ∃ u : Vw, e = .returned (.tuple #[.agg u.cs, .bool true]) ∧ Behind v c u ∧ EnIn w' 0 u.a u.n u.c u.L ∧ Below w.heap.size w w' := by
  obtain ⟨W1, hW1⟩ : ∃ W1, w.alloc (.cells v.cs 36) = W1 := ⟨_, rfl⟩
  have hb1 : Below w.heap.size w W1 := by rw [← hW1]; exact below_alloc w _
  have b1 : Blk W1 w.heap.size 36 v.cs := by rw [← hW1]; exact Blk.new w _ _
  obtain ⟨W2, hW2⟩ : ∃ W2, W1.alloc (.cells c.cs 67) = W2 := ⟨_, rfl⟩
  have hb12 : Below W1.heap.size W1 W2 := by rw [← hW2]; exact below_alloc W1 _
  have b2 : Blk W2 W1.heap.size 67 c.cs := by rw [← hW2]; exact Blk.new W1 _ _
  obtain ⟨W3, hW3⟩ : ∃ W3, W2.alloc (.cells Vw.zero.cs 36) = W3 := ⟨_, rfl⟩
  have hb23 : Below W2.heap.size W2 W3 := by rw [← hW3]; exact below_alloc W2 _
  have b3 : Blk W3 W2.heap.size 36 Vw.zero.cs := by rw [← hW3]; exact Blk.new W2 _ _
  have v3 := (b1.later hb12).later hb23
  have c3 := b2.later hb23
  have hb03 : Below w.heap.size w W3 := bel_trans (bel_trans hb1 hb12) hb23
  have s1 : W1.heap.size = w.heap.size + 1 := by rw [← hW1]; simp
  have s2 : W2.heap.size = w.heap.size + 2 := by rw [← hW2]; simp [s1]
  have s3 : W3.heap.size = w.heap.size + 3 := by rw [← hW3]; simp [s2]
  have HX := Lib.hid (And.intro hb03 (And.intro v3 (And.intro c3 (And.intro b3 (And.intro hL hC)))))
  have HS := Lib.hid (And.intro s1 (And.intro s2 s3))
  have LV := ld_vw v3
  have x1 : W3.cell? ⟨W1.heap.size, 1, none⟩ = some (.int .u64 (c.ix : Int)) := c3.cell 1
  have CV : ∀ w', Below W3.heap.size W3 w' → w'.cell? ⟨W1.heap.size, 1, none⟩ = some (.int .u64 (c.ix : Int)) ∧ w'.cell? ⟨W1.heap.size, 2, none⟩ = some (.slice c.a c.n c.c) ∧ w'.cell? ⟨w.heap.size, 1, none⟩ = some (.int .u64 (v.b.i : Int)) ∧ w'.cell? ⟨w.heap.size, 10, none⟩ = some (.slice v.a v.n v.c) ∧ (loadSem 36 (.pointer (some ⟨w.heap.size, 0, none⟩))).run Try.prog w' = .ok (.agg v.cs) w' := fun w' k => ⟨(HX.out.2.2.1.later k).cell 1, (HX.out.2.2.1.later k).cell 2, (HX.out.2.1.later k).cell 1, (HX.out.2.1.later k).cell 10, ld_vw (HX.out.2.1.later k)⟩
  have h00 : Below W3.heap.size W3 W3.drew := bel_drew (Below.refl _ _)
  clear hb1 b1 hb12 b2 hb23 b3 v3 c3 hb03 s1 s2 s3 hL hC
  have ST9 := st_vw (b2 := v) (HX.out.2.2.2.1.later h00)
  have r9 := (HX.out.2.2.2.1.later h00)
  have HF := Lib.hid (And.intro (r9.row v.cs) (And.intro (below_setRow (bel_trans HX.out.1 h00) (show w.heap.size ≤ W2.heap.size by have := HS.out.2.1; omega) v.cs) (show EnIn (W3.drew.setRow W2.heap.size v.cs) 0 v.a v.n v.c v.L from HX.out.2.2.2.2.1.later (below_setRow (bel_trans HX.out.1 h00) (show w.heap.size ≤ W2.heap.size by have := HS.out.2.1; omega) v.cs))))
  have HC0 := Lib.hid h0
  rw [h0] at x1 CV
  rw [hc0] at CV
  clear r9 h0
  go_enter Try.func29, Try.ntmps29
  go_upto_region 2 with (with_reducible refine wpList_alloc_z rfl 36 rfl Vw.zero.cs 11 z_vw ?_)
  have hSf : ∀ w', (Blk w' w.heap.size 36 v.cs ∧ Blk w' W1.heap.size 67 c.cs) → w'.cell? ⟨W1.heap.size, 2, none⟩ = some (.slice c.a 0 c.c) ∧ (loadSem 36 (.pointer (some ⟨w.heap.size, 0, none⟩))).run Try.prog w' = .ok (.agg v.cs) w' := fun w' k => ⟨by rw [← hc0]; exact k.2.cell 2, ld_vw k.1⟩
  have k9 : Kept [W2.heap.size] W3.drew (W3.drew.setRow W2.heap.size v.cs) := (Kept.refl _ _).setRow (.inl (by simp)) _
  have hS0 : Blk W3.drew w.heap.size 36 v.cs ∧ Blk W3.drew W1.heap.size 67 c.cs := ⟨HX.out.2.1, HX.out.2.2.1⟩
  have hS9 : Blk (W3.drew.setRow W2.heap.size v.cs) w.heap.size 36 v.cs ∧ Blk (W3.drew.setRow W2.heap.size v.cs) W1.heap.size 67 c.cs := ⟨hS0.1.kept k9 (by simp; have := HS.out.2.1; omega), hS0.2.kept k9 (by simp; have := HS.out.2.1; have := HS.out.1; omega)⟩
  refine wp_region_linY (fun w' => Blk w' w.heap.size 36 v.cs ∧ Blk w' W1.heap.size 67 c.cs) [5] [0, 1, 2, 3, 4, 5, 6] (by kernel_rfl) (by kernel_rfl) hS0 ?_
  (repeat (first | (refine linX_off rfl rfl (by rfl) ?_; (try simp only [Act.put, List.getElem_toArray, List.getElem_cons_zero, List.getElem_cons_succ, List.setIfInBounds_toArray, List.set_cons_zero, List.set_cons_succ])) | (refine linX_op (v := ?_) rfl rfl (by rfl) (fun w9 hS9 => ?_) ?_; rotate_left; (focus (((try dsimp only at hS9); obtain ⟨z1, z2⟩ := hSf w9 hS9; go_simp; (try go_bits)) <;> with_reducible rfl)); (try simp only [Act.put, List.getElem_toArray, List.getElem_cons_zero, List.getElem_cons_succ, List.setIfInBounds_toArray, List.set_cons_zero, List.set_cons_succ]))))
  refine linX_store (w' := W3.drew.setRow W2.heap.size v.cs) rfl rfl (by rfl) (by go_simp; done) hS9 ?_
  (try simp only [Act.put, List.getElem_toArray, List.getElem_cons_zero, List.getElem_cons_succ, List.setIfInBounds_toArray, List.set_cons_zero, List.set_cons_succ])
  (repeat (first | (refine linX_off rfl rfl (by rfl) ?_; (try simp only [Act.put, List.getElem_toArray, List.getElem_cons_zero, List.getElem_cons_succ, List.setIfInBounds_toArray, List.set_cons_zero, List.set_cons_succ])) | (refine linX_op (v := ?_) rfl rfl (by rfl) (fun w9 hS9 => ?_) ?_; rotate_left; (focus (((try dsimp only at hS9); obtain ⟨z1, z2⟩ := hSf w9 hS9; go_simp; (try go_bits)) <;> with_reducible rfl)); (try simp only [Act.put, List.getElem_toArray, List.getElem_cons_zero, List.getElem_cons_succ, List.setIfInBounds_toArray, List.set_cons_zero, List.set_cons_succ]))))
  refine linX_nil ?_
  clear hS0 hS9 hSf k9
  go_wp2_with fail
  refine bodyPost_ret (results_row_tmp rfl _ _ W2.heap.size _ _ rfl HF.out.1 Try.underlying36 rfl (s_vw _)) rfl ?_
  exact ⟨v, rfl, .inl ⟨HC0.out, rfl⟩, HF.out.2.2, HF.out.2.1⟩
set_option maxHeartbeats 4000000 in
theorem put_some (v : Vw) (c : Ch) (w : World) (hL : EnIn w 0 v.a v.n v.c v.L) (hC : EnIn w 0 c.a c.n c.c c.L) (hz : v.b.i ≤ 4611686018427387904) (hn : v.n ≤ 40) (hcn : c.n ≤ 8) (h1 : v.b.i < c.ix) (h2 : c.ix ≤ v.z + 1) (h3 : 0 < c.n) :
    Calls Try.prog 29 #[.agg v.cs, .agg c.cs] w fun e w' => ∃ u : Vw, e = .returned (.tuple #[.agg u.cs, .bool true]) ∧ Behind v c u ∧ EnIn w' 0 u.a u.n u.c u.L ∧ Below w.heap.size w w' := by
  obtain ⟨W1, hW1⟩ : ∃ W1, w.alloc (.cells v.cs 36) = W1 := ⟨_, rfl⟩
  have hb1 : Below w.heap.size w W1 := by rw [← hW1]; exact below_alloc w _
  have b1 : Blk W1 w.heap.size 36 v.cs := by rw [← hW1]; exact Blk.new w _ _
  obtain ⟨W2, hW2⟩ : ∃ W2, W1.alloc (.cells c.cs 67) = W2 := ⟨_, rfl⟩
  have hb12 : Below W1.heap.size W1 W2 := by rw [← hW2]; exact below_alloc W1 _
  have b2 : Blk W2 W1.heap.size 67 c.cs := by rw [← hW2]; exact Blk.new W1 _ _
  obtain ⟨W3, hW3⟩ : ∃ W3, W2.alloc (.cells Vw.zero.cs 36) = W3 := ⟨_, rfl⟩
  have hb23 : Below W2.heap.size W2 W3 := by rw [← hW3]; exact below_alloc W2 _
  have b3 : Blk W3 W2.heap.size 36 Vw.zero.cs := by rw [← hW3]; exact Blk.new W2 _ _
  have v3 := (b1.later hb12).later hb23
  have c3 := b2.later hb23
  have hb03 : Below w.heap.size w W3 := bel_trans (bel_trans hb1 hb12) hb23
  have s1 : W1.heap.size = w.heap.size + 1 := by rw [← hW1]; simp
  have s2 : W2.heap.size = w.heap.size + 2 := by rw [← hW2]; simp [s1]
  have s3 : W3.heap.size = w.heap.size + 3 := by rw [← hW3]; simp [s2]
  have HX := Lib.hid (And.intro hb03 (And.intro v3 (And.intro c3 (And.intro b3 (And.intro hL hC)))))
  have HS := Lib.hid (And.intro s1 (And.intro s2 s3))
  have LV := ld_vw v3
  have x1 : W3.cell? ⟨W1.heap.size, 1, none⟩ = some (.int .u64 (c.ix : Int)) := c3.cell 1
  have CV : ∀ w', Below W3.heap.size W3 w' → w'.cell? ⟨W1.heap.size, 1, none⟩ = some (.int .u64 (c.ix : Int)) ∧ w'.cell? ⟨W1.heap.size, 2, none⟩ = some (.slice c.a c.n c.c) ∧ w'.cell? ⟨w.heap.size, 1, none⟩ = some (.int .u64 (v.b.i : Int)) ∧ w'.cell? ⟨w.heap.size, 10, none⟩ = some (.slice v.a v.n v.c) ∧ (loadSem 36 (.pointer (some ⟨w.heap.size, 0, none⟩))).run Try.prog w' = .ok (.agg v.cs) w' := fun w' k => ⟨(HX.out.2.2.1.later k).cell 1, (HX.out.2.2.1.later k).cell 2, (HX.out.2.1.later k).cell 1, (HX.out.2.1.later k).cell 10, ld_vw (HX.out.2.1.later k)⟩
  have h00 : Below W3.heap.size W3 W3.drew := bel_drew (Below.refl _ _)
  clear hb1 b1 hb12 b2 hb23 b3 v3 c3 hb03 s1 s2 s3 hL hC
  have HN := Lib.hid (And.intro h1 (And.intro h2 h3))
  have hzv : v.z = v.b.i + v.n := rfl
  obtain ⟨k1, hk1⟩ : ∃ k1, c.ix - v.b.i = k1 := ⟨_, rfl⟩
  obtain ⟨k0, hk0⟩ : ∃ k0, k1 - 1 = k0 := ⟨_, rfl⟩
  have e0 : sbU (c.ix : Int) (v.b.i : Int) = (k1 : Int) := by rw [← hk1]; exact sbU_nat (by omega) (by omega)
  have e1 : sbU (k1 : Int) 1 = (k0 : Int) := by rw [← hk0]; exact sbU_nat (a := k1) (b := 1) (by omega) (by omega)
  have d0 : (c.ix : Int) ≠ 0 := by omega
  have d1 := leU_nat c.ix v.b.i
  rw [decide_eq_false (show ¬ c.ix ≤ v.b.i by omega)] at d1
  obtain ⟨z9, hz9⟩ : ∃ z9, v.z + 1 = z9 := ⟨_, rfl⟩
  have e2 : adU (v.z : Int) 1 = (z9 : Int) := by rw [← hz9]; exact adU_nat (a := v.z) (b := 1) (by omega)
  have d2 := gtU_nat c.ix z9
  rw [decide_eq_true (show c.ix ≤ z9 by omega)] at d2
  have d3 : ¬ ((c.n : Int) = 0) := by omega
  have d4 : decide ((c.n : Int) = 0) = false := by simp; omega
  have d5 : decide ((c.ix : Int) = 0) = false := by simp; omega
  have HLA := llast_any v W3.drew (by omega)
  have HKK := Lib.hid (show c.ix - v.b.i - 1 = k0 ∧ k0 ≤ v.n by omega)
  have hk0n : k0 ≤ v.n := by omega
  have hk0c : k0 ≤ v.c := by have := HX.out.2.2.2.2.1.2.2.1; omega
  have hvcm : v.c ≤ 9223372036854775807 := by have := HX.out.2.2.2.2.1.2.2.2.1; unfold maxLen at this; omega
  clear hk1 hk0 h1 h2 h3 hzv hz9
  go_enter Try.func29, Try.ntmps29
  go_upto_region 3 with (with_reducible refine wpList_alloc_z rfl 36 rfl Vw.zero.cs 11 z_vw ?_)
  refine wp_region_linY (fun w' => Below W3.heap.size W3 w') [11] [0, 1, 2, 3, 4, 5, 6, 7, 8, 9, 10, 11, 12, 13, 14, 15, 16, 17, 18, 19, 20] (by kernel_rfl) (by kernel_rfl) h00 ?_
  (repeat (first | (refine linX_off rfl rfl (by rfl) ?_; (try simp only [Act.put, List.getElem_toArray, List.getElem_cons_zero, List.getElem_cons_succ, List.setIfInBounds_toArray, List.set_cons_zero, List.set_cons_succ])) | (refine linX_op (v := ?_) rfl rfl (by rfl) (fun w9 hS9 => ?_) ?_; rotate_left; (focus (((try dsimp only at hS9); obtain ⟨z1, z2, z3, z4, z5⟩ := CV w9 hS9; go_simp; (try go_bits)) <;> with_reducible rfl)); (try simp only [Act.put, List.getElem_toArray, List.getElem_cons_zero, List.getElem_cons_succ, List.setIfInBounds_toArray, List.set_cons_zero, List.set_cons_succ]))))
  refine linX_call (f := 30) (args := #[.agg v.cs]) rfl rfl (by rfl) rfl rfl (enters_of Try.func30 (by kernel_rfl) rfl) (by simp [Act.eval]) ?_
  refine HLA.mono ?_
  rintro e W4 ⟨rfl, hb4⟩
  have k4 := bel_trans h00 hb4
  refine ⟨_, rfl, k4, ?_⟩
  (try simp only [Act.put, List.getElem_toArray, List.getElem_cons_zero, List.getElem_cons_succ, List.setIfInBounds_toArray, List.set_cons_zero, List.set_cons_succ])
  (repeat (first | (refine linX_off rfl rfl (by rfl) ?_; (try simp only [Act.put, List.getElem_toArray, List.getElem_cons_zero, List.getElem_cons_succ, List.setIfInBounds_toArray, List.set_cons_zero, List.set_cons_succ])) | (refine linX_op (v := ?_) rfl rfl (by rfl) (fun w9 hS9 => ?_) ?_; rotate_left; (focus (((try dsimp only at hS9); obtain ⟨z1, z2, z3, z4, z5⟩ := CV w9 hS9; go_simp; (try go_bits)) <;> with_reducible rfl)); (try simp only [Act.put, List.getElem_toArray, List.getElem_cons_zero, List.getElem_cons_succ, List.setIfInBounds_toArray, List.set_cons_zero, List.set_cons_succ]))))
  refine linX_nil ?_
  have H4 := Lib.hid k4
  have h04 : Below W4.heap.size W4 W4.drew := bel_drew (Below.refl _ _)
  have CV4 := fun (w' : World) (k : Below W4.heap.size W4 w') => CV w' (bel_trans H4.out k)
  clear hb4 k4 h00 HLA
  go_upto_region 5 with fail
  refine wp_region_linF (fun w' => Below W4.heap.size W4 w') 16 [13, 14, 16] [0, 1, 2, 3, 4, 5, 6, 7, 8, 9, 10, 11, 12, 13, 14, 15, 16] (by kernel_rfl) (by kernel_rfl) h04 ?_
  (repeat (first | (refine linF_off rfl rfl (by rfl) ?_; (try simp only [Act.put, List.getElem_toArray, List.getElem_cons_zero, List.getElem_cons_succ, List.setIfInBounds_toArray, List.set_cons_zero, List.set_cons_succ])) | (refine linF_op (v := ?_) rfl rfl (by rfl) (fun w9 hS9 => ?_) ?_; rotate_left; (focus (((try dsimp only at hS9); obtain ⟨z1, z2, z3, z4, z5⟩ := CV4 w9 hS9; go_simp; (try go_bits)) <;> with_reducible rfl)); (try simp only [Act.put, List.getElem_toArray, List.getElem_cons_zero, List.getElem_cons_succ, List.setIfInBounds_toArray, List.set_cons_zero, List.set_cons_succ]))))
  have EB := bsl2_run v.a c.a k0 v.c c.n c.c W4.drew
  obtain ⟨W5, hW5⟩ : ∃ W5, W4.drew.alloc (.cells #[.slice v.a k0 v.c, .slice c.a c.n c.c] 34) = W5 := ⟨_, rfl⟩
  rw [hW5] at EB
  have hb45 : Below W4.drew.heap.size W4.drew W5 := by rw [← hW5]; exact below_alloc W4.drew _
  have b5 : Blk W5 W4.drew.heap.size 34 #[.slice v.a k0 v.c, .slice c.a c.n c.c] := by rw [← hW5]; exact Blk.new W4.drew _ _
  have k45 := bel_trans h04 hb45
  have k05 := bel_trans HX.out.1 (bel_trans H4.out k45)
  have HCC := concat_any v.a c.a k0 v.c c.n c.c (v.L.take k0) c.L W4.drew.heap.size W5 b5 ((HX.out.2.2.2.2.1.later k05).take k0 hk0n) (HX.out.2.2.2.2.2.later k05) (by omega) (by omega) HN.out.2.2
  have hlen : (v.L.take k0 ++ c.L).length = k0 + c.L.length := by rw [List.length_append, List.length_take, HX.out.2.2.2.2.1.1]; omega
  have H5 := Lib.hid (And.intro k45 (And.intro k05 hlen))
  clear hb45 b5 k45 k05 hlen hW5
  refine linF_do (v := .slice (some ⟨W4.drew.heap.size, 0, none⟩) 2 2) (w' := W5) rfl rfl (by rfl) (by go_simp; done) H5.out.1 ?_
  (try simp only [Act.put, List.getElem_toArray, List.getElem_cons_zero, List.getElem_cons_succ, List.setIfInBounds_toArray, List.set_cons_zero, List.set_cons_succ])
  refine linF_call (f := 50) (args := #[.slice (some ⟨W4.drew.heap.size, 0, none⟩) 2 2]) rfl rfl (by rfl) rfl rfl (enters_of Try.func50 (by kernel_rfl) rfl) (by simp [Act.eval]) ?_
  refine HCC.mono ?_
  rintro e W6 ⟨r, rfl, hO6, hb6⟩
  obtain ⟨a6, c6, er, _⟩ := hO6.lies
  subst er
  rw [H5.out.2.2] at hO6 ⊢
  have k46 := bel_trans H5.out.1 hb6
  refine ⟨_, rfl, k46, ?_⟩
  (try simp only [Act.put, List.getElem_toArray, List.getElem_cons_zero, List.getElem_cons_succ, List.setIfInBounds_toArray, List.set_cons_zero, List.set_cons_succ])
  (repeat (first | (refine linF_off rfl rfl (by rfl) ?_; (try simp only [Act.put, List.getElem_toArray, List.getElem_cons_zero, List.getElem_cons_succ, List.setIfInBounds_toArray, List.set_cons_zero, List.set_cons_succ])) | (refine linF_op (v := ?_) rfl rfl (by rfl) (fun w9 hS9 => ?_) ?_; rotate_left; (focus (((try dsimp only at hS9); obtain ⟨z1, z2, z3, z4, z5⟩ := CV4 w9 hS9; go_simp; (try go_bits)) <;> with_reducible rfl)); (try simp only [Act.put, List.getElem_toArray, List.getElem_cons_zero, List.getElem_cons_succ, List.setIfInBounds_toArray, List.set_cons_zero, List.set_cons_succ]))))
  have k36 := bel_trans H4.out k46
  have x6 := HX.out.2.1.later k36
  have q1 : W6.cell? ⟨w.heap.size, 10, none⟩ = some (.slice v.a v.n v.c) := x6.cell 10
  have q2 := x6.free 10
  have x7 := x6.set 10 (.slice a6 (k0 + c.L.length) c6)
  obtain ⟨W7, hW7⟩ : ∃ W7, W6.setCell ⟨w.heap.size, 10, none⟩ (.slice a6 (k0 + c.L.length) c6) = W7 := ⟨_, rfl⟩
  rw [hW7] at x7
  obtain ⟨u, hu⟩ : ∃ u, u = v.put k0 a6 c6 c.L := ⟨_, rfl⟩
  have x7u : Blk W7 w.heap.size 36 u.cs := by rw [hu]; exact x7
  have k67 : Kept [w.heap.size] W6 W7 := by rw [← hW7]; exact Kept.setCell (p := ⟨w.heap.size, 10, none⟩) (Kept.refl _ _) (.inl (by simp)) _
  have r7 := (HX.out.2.2.2.1.later k36).kept k67 (by simp; have := HS.out.2.1; omega)
  have LV7 := ld_vw x7u
  have ST8 := st_vw (b2 := u) r7
  have k78 : Kept [W2.heap.size] W7 (W7.setRow W2.heap.size u.cs) := (Kept.refl _ _).setRow (.inl (by simp)) _
  have b35 : W3.heap.size ≤ W5.heap.size := (bel_trans H4.out H5.out.1).size
  have hO8 := (hO6.kept14 k67 (fun g hg => by simp at hg; have := HS.out.2.2; omega)).kept14 k78 (fun g hg => by simp at hg; have := HS.out.2.1; have := HS.out.2.2; omega)
  have hb06 := bel_trans HX.out.1 k36
  have hb08 : Below w.heap.size w (W7.setRow W2.heap.size u.cs) := (hb06.trans (k67.below (fun i hi => by simp at hi; omega) hb06.size)).trans (k78.below (fun i hi => by simp at hi; have := HS.out.2.1; omega) (Nat.le_trans hb06.size k67.size))
  have hin : EnIn (W7.setRow W2.heap.size u.cs) 0 u.a u.n u.c u.L := by
    refine (show ∀ W8, OwnEn W8 W5.heap.size (.slice a6 (k0 + c.L.length) c6) (v.L.take k0 ++ c.L) → Below w.heap.size w W8 → EnIn W8 0 u.a u.n u.c u.L from fun W8 h9 k9 => ?_) _ hO8 hb08
    rw [hu]
    refine OwnEn.into14 (a := a6) (n := k0 + c.L.length) (c := c6) h9 (fun x hx => ?_)
    rcases List.mem_append.1 hx with hx | hx
    · exact (HX.out.2.2.2.2.1.2.2.2.2.2.2 x (List.mem_of_mem_take hx)).later k9
    · exact (HX.out.2.2.2.2.2.2.2.2.2.2.2 x hx).later k9
  have hbh : Behind v c u := .inr ⟨by have := HN.out.1; omega, a6, c6, c.L, rfl, by rw [HKK.out.1]; exact hu⟩
  have HF := Lib.hid (And.intro (r7.row u.cs) (And.intro hb08 (And.intro hin hbh)))
  clear x6 x7 x7u k67 r7 k78 b35 hO8 hO6 hb06 hb08 hin hbh hu hb6 k46 k36
  refine linF_fin (w' := W7) rfl rfl (by rfl) (by go_simp; done) ?_
  (try simp only [Act.put, List.getElem_toArray, List.getElem_cons_zero, List.getElem_cons_succ, List.setIfInBounds_toArray, List.set_cons_zero, List.set_cons_succ])
  go_wp2_with fail
  refine bodyPost_ret (results_row_tmp rfl _ _ W2.heap.size _ _ rfl HF.out.1 Try.underlying36 rfl (s_vw _)) rfl ?_
  exact ⟨u, rfl, HF.out.2.2.2, HF.out.2.2.1, HF.out.2.1⟩
end Go.Proofs.Ytkoenconjldojaa
