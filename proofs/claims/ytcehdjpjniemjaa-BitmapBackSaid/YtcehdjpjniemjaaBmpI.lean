/-
  The walk of BitmapNodes. Nothing here is a statement of the document.
-/
import Derived.Test.YtcehdjpjniemjaaBmpH
import Derived.Test.YtcehdjpjniemjaaLinB
namespace Go.Proofs.Ytcehdjpjniemjaa
open Go.RowKit
set_option linter.unusedVariables false
attribute [local go_sem ↓] load_nd_rule store_nd_rule eq_nd_rule

theorem bel_tr {w a b : World} (h : Below w.heap.size w a) (k : Below a.heap.size a b) : Below w.heap.size w b := h.trans (k.mono h.size)
theorem bel_al {w a : World} (h : Below w.heap.size w a) (o : Obj) : Below w.heap.size w (a.alloc o) := h.alloc h.size o

set_option maxRecDepth 100000 in
set_option maxHeartbeats 4000000 in
theorem nodes_walk (n : Nd) (a : Option Addr) (len cap : Nat) (l : List Nat) (hl : l.length = len) (hlm : len ≤ 9223372036854775807) (w : World) (hR : R32 w a l) (hcap : a = none → cap = 0) :
    Calls Try.prog 3 #[.agg n.cs, .slice a len cap] w fun e w' => e = .returned (.bool true) ∧ Below w.heap.size w w' := by
  obtain ⟨W1, hW1⟩ : ∃ W1, w.alloc (.cells n.cs 24) = W1 := ⟨_, rfl⟩
  have hb1 : Below w.heap.size w W1 := by rw [← hW1]; exact below_alloc w _
  have b1 : Blk W1 w.heap.size 24 n.cs := by rw [← hW1]; exact Blk.new w _ _
  have LT : ∀ W, Below W1.heap.size W1 W → (loadSem 24 (.pointer (some ⟨w.heap.size, 0, none⟩))).run Try.prog W = .ok (.agg n.cs) W := fun W h => ld_nd ((h.block _ b1.lt).trans b1)
  have HRR : ∀ W, Below W1.heap.size W1 W → R32 W a l := fun W h => (hR.later hb1).later h
  have s1 : w.heap.size < W1.heap.size := b1.lt

  obtain ⟨m, e0, hd⟩ := decIs_any hR
  have HL := Lib.hid hl
  have HD := Lib.hid hd
  have HB1 := Lib.hid hb1
  have HS := Lib.hid s1
  have H1 := Lib.hid hR.1
  have HC := Lib.hid hcap
  clear hl hd hb1 b1 s1 hR hcap
  by_cases h100 : 100 < len
  · have d1 : decide ((100 : Int) < (len : Int)) = true := by simp; omega
    have d2 : decide (100 < len) = true := by simp; omega
    go_enter Try.func3, Try.ntmps3
    go_wp2_with (go_at_call 7; refine (wakes7_any _).mono ?_; rintro e w2 ⟨rfl, hb2⟩)
    go_ret
    exact ⟨rfl, bel_tr HB1.out hb2⟩
  · have d1 : decide ((100 : Int) < (len : Int)) = false := by simp; omega
    have d2 : decide (100 < len) = false := by simp; omega
    go_enter Try.func3, Try.ntmps3
    go_wp2_with (first | (go_at_call 7; refine (wakes7_any _).mono ?_; rintro e w2 ⟨rfl, hb2⟩) | (at_builtin; refine wpList_append_32 (w := World.alloc _ _) rfl _ _ rfl W1.heap.size _ _ _ rfl (World.ownsRow_made _ #[] 0 (Below.size (by assumption)) (Nat.zero_le _) rfl) a len cap l HL.out rfl (HRR _ (bel_al (by assumption) _)) HC.out (by omega) (Nat.le_trans (Below.size (by assumption)) (by simp)) ?_))
    intro v' w4 hown hgrow
    have hown : w4.ownsRow W1.heap.size 22 1 v' len (l.map w32) := by simpa using hown
    have hb4 : Below W1.heap.size W1 w4 := (bel_al (by assumption) _).grown hgrow (Nat.le_trans (Below.size (by assumption)) (by simp)) (by intro k hk; simp [Value.ownBlock] at hk; have := Below.size hb2; omega)
    obtain ⟨a', cap', rfl, _, hR4, _, _⟩ := own_32 hown H1.out
    clear hown hgrow
    go_wp2_with fail
    refine (ndec_all hR4 HD.out len cap' HL.out hlm).mono ?_
    rintro e w5 ⟨rfl, hb5⟩
    have hB5 := bel_tr hb4 hb5
    have s5 := st_new m w5
    obtain ⟨w6, hw6⟩ : ∃ w6, w5.alloc (.cells m.cs 24) = w6 := ⟨_, rfl⟩
    rw [hw6] at s5
    have b6 : Blk w6 w5.heap.size 24 m.cs := by rw [← hw6]; exact Blk.new w5 _ _
    have hB6 : Below W1.heap.size W1 w6 := by rw [← hw6]; exact bel_al hB5 _
    have l6 := HRR w6 hB6
    clear hb5 hb4 hR4
    go_wp2_with fail
    refine (rdec_all l6 HD.out len cap HL.out hlm).mono ?_
    rintro e w7 ⟨rfl, hb7⟩
    have hB7 := bel_tr hB6 hb7
    have s7 := st_new m w7
    obtain ⟨w8, hw8⟩ : ∃ w8, w7.alloc (.cells m.cs 24) = w8 := ⟨_, rfl⟩
    rw [hw8] at s7
    have hb8 : Below w6.heap.size w6 w8 := by rw [← hw8]; exact bel_al hb7 _
    have b8 : Blk w8 w7.heap.size 24 m.cs := by rw [← hw8]; exact Blk.new w7 _ _
    have b8' : Blk w8 w5.heap.size 24 m.cs := (hb8.block _ b6.lt).trans b6
    have hB8 := bel_tr hB6 hb8
    have lx := ld_nd b8'
    have ly := ld_nd b8
    have lt := LT w8 hB8
    have heq := eq_nd_self m w8
    have h9 := nenc_any n w8
    have hS8 := hB8.size
    clear hw6 b6 hb7 hb8 hw8 b8 b8' hB7 s5
    go_wp2_with fail
    refine h9.mono ?_
    rintro e w9 ⟨hy, hn, hb9⟩
    have hB9 := bel_tr hB8 hb9
    have lt9 := LT w9 hB9
    clear h9 lx ly lt
    have hrt := right_any n w9
    obtain ⟨w10, hw10⟩ : ∃ w10, w9.alloc (.cells n.cs 24) = w10 := ⟨_, rfl⟩
    rw [hw10] at hrt
    have hb10 : Below w9.heap.size w9 w10 := by rw [← hw10]; exact below_alloc w9 _
    have hB10 := bel_tr hB9 hb10
    have lt10 := LT w10 hB10
    have hck := ncheck_any n w10
    obtain ⟨w11, hw11⟩ : ∃ w11, w10.alloc (.cells n.cs 24) = w11 := ⟨_, rfl⟩
    by_cases hok : n.ok
    · obtain ⟨rfl, bws⟩ := hy hok
      have hdo : decide n.ok = true := by simp [hok]
      rw [hdo] at hrt
      have HO := Lib.hid hok
      clear hy hn hdo hok hck hw11
      go_wp2_with (go_at_call 11; refine hrt.mono ?_; rintro e w9' ⟨rfl, h9'⟩; have h9' := h9'.symm; subst h9')
      refine (words_any n HO.out w10).mono ?_
      rintro e w12 ⟨rfl, bws2, hb12⟩
      have hB12 := bel_tr hB10 hb12
      have hne : n.e = 0 := by simp [Nd.e, HO.out]
      have hck : ∀ W, Calls Try.prog 12 #[.agg n.cs] W fun e w' => e = .returned (.int .i64 0) ∧ w' = W.alloc (.cells n.cs 24) := fun W => by
        have := ncheck_any n W
        rwa [hne] at this
      have bws' : Blk w12 (w8.heap.size + 2) 22 n.ws := (hb12.block _ (Nat.lt_of_lt_of_le bws.lt hb10.size)).trans ((hb10.block _ bws.lt).trans bws)
      have g0 : ∀ W, Below w12.heap.size w12 W → W.cell? ⟨w8.heap.size + 2, 0, none⟩ = some (.int .u32 ((n.o * 65536 + n.i : Nat) : Int)) := fun W h => (Blk.cell ((h.block _ bws'.lt).trans bws') 0)
      have g1 : ∀ W, Below w12.heap.size w12 W → W.cell? ⟨w8.heap.size + 2, 1, none⟩ = some (.int .u32 n.r) := fun W h => (Blk.cell ((h.block _ bws'.lt).trans bws') 1)
      have g2 : ∀ W, Below w12.heap.size w12 W → W.cell? ⟨w8.heap.size + 2, 2, none⟩ = some (.int .u32 n.c) := fun W h => (Blk.cell ((h.block _ bws'.lt).trans bws') 2)
      have g3 : ∀ W, Below w12.heap.size w12 W → W.cell? ⟨w10.heap.size + 1, 0, none⟩ = some (.int .u32 ((n.o * 65536 + n.i : Nat) : Int)) := fun W h => (Blk.cell ((h.block _ bws2.lt).trans bws2) 0)
      have g4 : ∀ W, Below w12.heap.size w12 W → W.cell? ⟨w10.heap.size + 1, 1, none⟩ = some (.int .u32 n.r) := fun W h => (Blk.cell ((h.block _ bws2.lt).trans bws2) 1)
      have g5 : ∀ W, Below w12.heap.size w12 W → W.cell? ⟨w10.heap.size + 1, 2, none⟩ = some (.int .u32 n.c) := fun W h => (Blk.cell ((h.block _ bws2.lt).trans bws2) 2)
      have g6 : ∀ W, Below w12.heap.size w12 W → (loadSem 24 (.pointer (some ⟨w.heap.size, 0, none⟩))).run Try.prog W = .ok (.agg n.cs) W := fun W h => LT W (bel_tr hB12 h)
      clear bws bws2 bws' hne lt9 lt10
      generalize n.o * 65536 + n.i = q at *
      generalize n.r = r at *
      generalize n.c = c at *
      go_wp2
      have CK : ∀ W, Below w12.heap.size w12 W → Calls Try.prog 12 #[.agg n.cs] W fun e w' => e = .returned (.int .i64 0) ∧ Below w12.heap.size w12 w' := fun W hW => (hck W).mono fun e w' h => ⟨h.1, by rw [h.2]; exact bel_al hW _⟩
      refine wp_region_linB (fun w' => Below w12.heap.size w12 w') [] [0, 1, 2, 3, 4, 5, 6, 7, 8, 9, 10, 11, 12, 13, 14, 15, 16, 17, 18, 19, 20, 21, 22, 23, 24, 25, 26, 27, 28, 29, 30, 31, 32, 33, 34, 35, 36, 37, 38, 39] (by kernel_rfl) (by kernel_rfl) ((Below.refl _ _).drew) ?_
      (repeat (first | (refine linB_off rfl rfl (by rfl) ?_; (try simp only [Act.put, List.getElem_toArray, List.getElem_cons_zero, List.getElem_cons_succ, List.setIfInBounds_toArray, List.set_cons_zero, List.set_cons_succ])) | (refine linB_op (v := ?_) rfl rfl (by rfl) (fun w9 hS9 => ?_) ?_; rotate_left; (focus ((have k0 := g0 w9 hS9; have k1 := g1 w9 hS9; have k2 := g2 w9 hS9; have k3 := g3 w9 hS9; have k4 := g4 w9 hS9; have k5 := g5 w9 hS9; have k6 := g6 w9 hS9; (try dsimp only at hS9); go_simp; (try go_bits)) <;> with_reducible rfl)); (try simp only [Act.put, List.getElem_toArray, List.getElem_cons_zero, List.getElem_cons_succ, List.setIfInBounds_toArray, List.set_cons_zero, List.set_cons_succ])) | (refine linB_fn (f := 12) rfl rfl (by rfl) rfl rfl (enters_of Try.func12 (by kernel_rfl) rfl) (fun w9 hS9 => CK w9 hS9) ?_ ?_; (focus (simp [Act.eval]; done)); (try simp only [Act.put, List.getElem_toArray, List.getElem_cons_zero, List.getElem_cons_succ, List.setIfInBounds_toArray, List.set_cons_zero, List.set_cons_succ]))))
      refine linB_nil (fun w13 hS13 => ?_)
      go_wp2
      go_ret
      exact ⟨rfl, bel_tr HB1.out (bel_tr hB12 hS13)⟩
    · obtain rfl := hn hok
      have hdo : decide n.ok = false := by simp [hok]
      have hne : n.e = 170 := by simp [Nd.e, hok]
      rw [hdo] at hrt
      rw [hne, hw11] at hck
      have hB11 : Below W1.heap.size W1 w11 := by rw [← hw11]; exact bel_al hB10 _
      clear hy hn hdo hok hne
      go_wp2_with (first | (go_at_call 11; refine hrt.mono ?_; rintro e w9' ⟨rfl, h9'⟩; have h9' := h9'.symm; subst h9') | (go_at_call 12; refine hck.mono ?_; rintro e w9' ⟨rfl, h9'⟩; have h9' := h9'.symm; subst h9'))
      go_ret
      exact ⟨rfl, bel_tr HB1.out hB11⟩
end Go.Proofs.Ytcehdjpjniemjaa
