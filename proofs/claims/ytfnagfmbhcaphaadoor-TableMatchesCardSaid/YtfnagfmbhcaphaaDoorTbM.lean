/-
  The contract of the reference's Longest. Nothing here is a statement of the document.
-/
import Derived.Test.YtfnagfmbhcaphaaDoorTbL
namespace Go.Proofs.YtfnagfmbhcaphaaDoor
open Go.RowKit Go.Shelf
set_option linter.unusedVariables false
set_option maxRecDepth 100000
attribute [local go_sem ↓] load_b16_rule store_b16_rule load_ad_rule store_ad_rule load_px_rule store_px_rule eq_b16_rule eq_ad_rule eq_px_rule load_rt_rule store_rt_rule build_ad_rule build_px_rule build_b16_rule build_rt_rule load_tab_rule build_tab_rule store_tab_rule tbuild_rule tapp_rule tcopy_rule eq_rt_rule

theorem wrap_b {b : Int} (h1 : -1 ≤ b) (h2 : b ≤ 128) : wrap64 (b - 1) = b - 1 := by unfold wrap64; omega
theorem results_rt1 {fn : Func} {p u : Tmp} (h : fn.results = #[.cell p 43, .tmp u]) (tmps : Array Value) (w : World) (g : Nat) (r : Rt) (hp : tmps.getD p undef = .pointer (some ⟨g, 0, none⟩)) (hb : Blk w g 43 r.cs) :
    (results fn tmps).run Tryd.prog w = .ok (.tuple #[.agg r.cs, tmps.getD u undef]) w := results_blk h tmps w g r.cs _ hp hb Tryd.underlying43 rfl (s_rt _)
set_option maxHeartbeats 4000000 in
theorem rlong_any (a : Option Addr) (n c : Nat) (L : List Rt) (x : Ad) (w : World) (hn : L.length = n) (hm : n ≤ 9223372036854775807) (hR : RowsAt w a L) (hL : L.Pairwise ltR) :
    Calls Tryd.prog 22 #[.agg #[.slice a n c], .agg x.cs] w fun e w' => e = .returned (.tuple #[.agg (longR L x).cs, .bool (longB L x)]) ∧ Below w.heap.size w w' := by
  obtain ⟨W0, hW0⟩ : ∃ W0, (w.alloc (.cells #[.slice a n c] 24)).alloc (.cells x.cs 27) = W0 := ⟨_, rfl⟩
  obtain ⟨W1, hW1⟩ : ∃ W1, W0.alloc (.cells Rt.zero.cs 43) = W1 := ⟨_, rfl⟩
  have sz0 : W0.heap.size = w.heap.size + 2 := by rw [← hW0]; simp
  have hb0 : Below w.heap.size w W0 := by rw [← hW0]; exact (((Below.refl w.heap.size w).alloc (Nat.le_refl _) _).alloc (by simp) _)
  have hb01 : Below W0.heap.size W0 W1 := by rw [← hW1]; exact (Below.refl _ _).alloc (Nat.le_refl _) _
  have hb1 : Below w.heap.size w W1 := bel_trans hb0 hb01
  have b3 : Blk W1 W0.heap.size 43 Rt.zero.cs := by rw [← hW1]; exact Blk.new _ _ _
  have b1 : Blk W1 w.heap.size 24 #[.slice a n c] := by
    have h9 := (Blk.new w 24 #[.slice a n c]).alloc (.cells x.cs 27)
    rw [hW0] at h9
    exact h9.later hb01
  have b2 : Blk W1 (w.heap.size + 1) 27 x.cs := by
    have h9 := Blk.new (w.alloc (.cells #[.slice a n c] 24)) 27 x.cs
    rw [World.size_alloc, hW0] at h9
    exact h9.later hb01
  have LT := tab_t b1
  have CT := tab_c b1
  have LX := ad_a b2
  have HR : ∀ w', Below W1.heap.size W1 w' → RowsAt w' a L := fun w' h => (hR.later hb1).later h
  have h0 : Below W1.heap.size W1 W1 := Below.refl _ _
  have HB := Lib.hid (And.intro hb1 (And.intro b3 sz0))
  have B0 := build_rt0
  have ST := fun (q : Rt) w' (h : Below W1.heap.size W1 w') => st_rt (q := q) (b3.later h)
  have STZ := ST Rt.zero
  clear hR b1 b2 b3 hb0 hb01 sz0 hb1 LT
  go_enter Tryd.func22, Tryd.ntmps22
  go_wp2_with (with_reducible refine wpList_alloc_z rfl 43 rfl Rt.zero.cs 19 z_rt ?_)
  go_loopw [6] (fun i wr => ∃ b : Int, -1 ≤ b ∧ b ≤ 128 ∧ i = .int .i64 b ∧ (∀ y ∈ L, hasM y.p x → y.p.n ≤ b) ∧ Below W1.heap.size W1 wr) (fun i _ => (intOf i + 1).toNat)
  case atStart => exact ⟨128, by omega, by omega, rfl, fun y _ h => (okP_le h.1).2, h0⟩
  case round =>
    obtain ⟨b, hb1, hb2, rfl, hub, hkb⟩ := hrel
    by_cases hneg : 0 ≤ b
    · have db : decide (0 ≤ b) = true := decide_eq_true hneg
      have HU := Lib.hid hub
      clear hub
      have wb : wrap64 (b - 1) = b - 1 := wrap_b hb1 hb2
      have CTb := CT wr hkb
      go_wp2_with fail
      go_loopw [7] (fun i wr => ∃ k : Nat, k ≤ n ∧ i = .int .i64 k ∧ (∀ j, j < k → hasM (rt L j).p x → (rt L j).p.n ≠ b) ∧ Below W1.heap.size W1 wr) (fun i _ => n - (intOf i).toNat)
      case atStart => exact ⟨0, Nat.zero_le _, rfl, fun j hj => by omega, hkb⟩
      case round =>
        obtain ⟨k, hk, rfl, hno, hki⟩ := hrel
        have CTi := CT _ hki
        by_cases hlt : k < n
        · have hkl : k < L.length := by omega
          obtain ⟨g, o, rfl, hrow⟩ := (HR wr hki).spot hkl
          have h02 : Below wr.heap.size wr wr := Below.refl _ _
          have CT2 : ∀ w', Below wr.heap.size wr w' → w'.cell? ⟨w.heap.size, 0, none⟩ = some (.slice (some ⟨g, o, none⟩) n c) := fun w' h => CT w' (bel_trans hki h)
          have LR2 : ∀ w', Below wr.heap.size wr w' → (loadSem 43 (.pointer (some ⟨g, o + k * 19, none⟩))).run Tryd.prog w' = .ok (.agg (rt L k).cs) w' := fun w' h => (hrow.later h).load hkl
          have LP2 : ∀ w', Below wr.heap.size wr w' → (loadSem 29 (.pointer (some ⟨g, o + k * 19, none⟩))).run Tryd.prog w' = .ok (.agg (rt L k).p.cs) w' := fun w' h => (hrow.later h).loadp hkl
          have LN2 : ∀ w', Below wr.heap.size wr w' → w'.cell? ⟨g, o + k * 19 + 17, none⟩ = some (.int .i64 (rt L k).p.n) := fun w' h => ((hrow.later h).row k hkl 17 (by omega)).trans (((rt L k).cp 17 (by omega)).trans (rt L k).p.cn)
          have LX2 : ∀ w', Below wr.heap.size wr w' → (loadSem 27 (.pointer (some ⟨w.heap.size + 1, 0, none⟩))).run Tryd.prog w' = .ok (.agg x.cs) w' := fun w' h => LX w' (bel_trans hki h)
          have HH := refhas_any (rt L k).p x
          have HNO := Lib.hid (And.intro hno hki)
          by_cases hbe : (rt L k).p.n = b
          · have dbe : ((rt L k).p.n == b) = true := by simp [hbe]
            by_cases hh : hasM (rt L k).p x
            · rw [decide_eq_true hh] at HH
              have hl := Lib.hid (long_is hL ⟨rt_mem hkl, hh, fun y hy h => by rw [hbe]; exact HU.out y hy h⟩)
              have ST2 := fun w' (h : Below wr.heap.size wr w') => ST (rt L k) w' (bel_trans HNO.out.2 h)
              clear hno hki hbe hh CT LX ST STZ HR CTb CTi hrow
              go_wp2_with (first | (with_reducible refine wpList_alloc_z rfl 43 rfl Rt.zero.cs 19 z_rt ?_) | (go_at_call 51; refine (HH _).mono ?_; rintro e w2 ⟨rfl, hb2⟩; have hk2 : Below wr.heap.size wr w2 := (by first | exact bel_trans (by assumption) hb2 | (subst hb2; assumption)); clear hb2) | (refine wp_region_lin (fun w' => Below wr.heap.size wr w') (by kernel_rfl) (by kernel_rfl) (bel_drew (by assumption)) ?_; (repeat (first | (refine lin_off (by rfl) ?_; (try simp only [Act.put, List.setIfInBounds_toArray, List.set_cons_zero, List.set_cons_succ])) | (refine lin_op (v := ?_) (by rfl) (fun w9 hS9 => ?_) ?_; rotate_left; (focus (((try dsimp only at hS9); go_simp; (try go_bits)) <;> with_reducible rfl)); (try simp only [Act.put, List.setIfInBounds_toArray, List.set_cons_zero, List.set_cons_succ])) | (refine lin_fn (f := 51) (by rfl) rfl rfl (enters_of Tryd.func51 (by kernel_rfl) rfl) (fun w9 hS9 => (HH w9).mono (fun e w' h => ⟨h.1, (by first | exact bel_trans hS9 h.2 | (rw [← h.2]; exact hS9))⟩)) ?_ ?_; (focus (simp [Act.eval]; done)); (try simp only [Act.put, List.setIfInBounds_toArray, List.set_cons_zero, List.set_cons_succ])))); refine lin_nil (fun w8 hS8 => ?_)))
              all_goals refine bodyPost_ret (results_rt1 rfl _ _ W0.heap.size (rt L k) rfl ((HB.out.2.1.later (bel_trans HNO.out.2 (by assumption))).row _)) rfl ?_
              all_goals exact ⟨by rw [hl.out.1, hl.out.2]; rfl, below_setRow (bel_trans HB.out.1 (bel_trans HNO.out.2 (by assumption))) (by have := HB.out.2.2; omega) _⟩
            · rw [decide_eq_false hh] at HH
              have HQ := Lib.hid hh
              clear hno hki hbe hh CT LX ST STZ HR CTb CTi hrow
              go_wp2_with (first | (with_reducible refine wpList_alloc_z rfl 43 rfl Rt.zero.cs 19 z_rt ?_) | (go_at_call 51; refine (HH _).mono ?_; rintro e w2 ⟨rfl, hb2⟩; have hk2 : Below wr.heap.size wr w2 := (by first | exact bel_trans (by assumption) hb2 | (subst hb2; assumption)); clear hb2) | (refine wp_region_lin (fun w' => Below wr.heap.size wr w') (by kernel_rfl) (by kernel_rfl) (bel_drew (by assumption)) ?_; (repeat (first | (refine lin_off (by rfl) ?_; (try simp only [Act.put, List.setIfInBounds_toArray, List.set_cons_zero, List.set_cons_succ])) | (refine lin_op (v := ?_) (by rfl) (fun w9 hS9 => ?_) ?_; rotate_left; (focus (((try dsimp only at hS9); go_simp; (try go_bits)) <;> with_reducible rfl)); (try simp only [Act.put, List.setIfInBounds_toArray, List.set_cons_zero, List.set_cons_succ])) | (refine lin_fn (f := 51) (by rfl) rfl rfl (enters_of Tryd.func51 (by kernel_rfl) rfl) (fun w9 hS9 => (HH w9).mono (fun e w' h => ⟨h.1, (by first | exact bel_trans hS9 h.2 | (rw [← h.2]; exact hS9))⟩)) ?_ ?_; (focus (simp [Act.eval]; done)); (try simp only [Act.put, List.setIfInBounds_toArray, List.set_cons_zero, List.set_cons_succ])))); refine lin_nil (fun w8 hS8 => ?_)))
              go_roundw
              case rel => exact ⟨k + 1, by omega, by go_num, fun j hj hj2 => by
                by_cases e : j = k
                · rw [e] at hj2; exact absurd hj2 HQ.out
                · exact HNO.out.1 j (by omega) hj2, bel_trans HNO.out.2 (by assumption)⟩
              case measure => simp [intOf]; omega
          · have dbe : ((rt L k).p.n == b) = false := by simp [hbe]
            have HQ := Lib.hid hbe
            clear hno hki hbe CT LX ST STZ HR CTb CTi hrow HH
            go_wp2_with (first | (with_reducible refine wpList_alloc_z rfl 43 rfl Rt.zero.cs 19 z_rt ?_)  | (refine wp_region_lin (fun w' => Below wr.heap.size wr w') (by kernel_rfl) (by kernel_rfl) (bel_drew (by assumption)) ?_; (repeat (first | (refine lin_off (by rfl) ?_; (try simp only [Act.put, List.setIfInBounds_toArray, List.set_cons_zero, List.set_cons_succ])) | (refine lin_op (v := ?_) (by rfl) (fun w9 hS9 => ?_) ?_; rotate_left; (focus (((try dsimp only at hS9); go_simp; (try go_bits)) <;> with_reducible rfl)); (try simp only [Act.put, List.setIfInBounds_toArray, List.set_cons_zero, List.set_cons_succ])) )); refine lin_nil (fun w8 hS8 => ?_)))
            go_roundw
            case rel => exact ⟨k + 1, by omega, by go_num, fun j hj hj2 => by
              by_cases e : j = k
              · rw [e]; exact HQ.out
              · exact HNO.out.1 j (by omega) hj2, bel_trans HNO.out.2 (by assumption)⟩
            case measure => simp [intOf]; omega
        · obtain rfl : n = k := by omega
          have HNO := Lib.hid (And.intro hno hki)
          clear hno
          go_wp2
          go_roundw
          case rel => exact ⟨b - 1, by omega, by omega, by first | rfl | go_num, fun y hy hh => by
            obtain ⟨i, hi, rfl⟩ := mem_rt hy
            have h1 := HU.out _ (rt_mem hi) hh
            have h2 := HNO.out.1 i (by omega) hh
            omega, HNO.out.2⟩
          case measure => simp [intOf]; omega
    · have db : decide (0 ≤ b) = false := decide_eq_false hneg
      have hno : ∀ y ∈ L, ¬ hasM y.p x := fun y hy hh => by have := hub y hy hh; have := (okP_le hh.1).1; omega
      have HE := Lib.hid (long_none hL hno)
      clear hub hno
      go_wp2_with fail
      refine bodyPost_ret (results_rt1 rfl _ _ W0.heap.size Rt.zero rfl ((HB.out.2.1.later (by assumption)).row _)) rfl ?_
      exact ⟨by rw [HE.out.1, HE.out.2]; rfl, below_setRow (bel_trans HB.out.1 (by assumption)) (by have := HB.out.2.2; omega) _⟩
end Go.Proofs.YtfnagfmbhcaphaaDoor
