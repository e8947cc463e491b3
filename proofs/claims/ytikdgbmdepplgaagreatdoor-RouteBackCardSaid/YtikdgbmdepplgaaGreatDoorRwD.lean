/-
  The walk of RouteBack. Nothing here is a statement of the document.
-/
import Derived.Test.YtikdgbmdepplgaaGreatDoorRvU
import Derived.Test.YtikdgbmdepplgaaGreatDoorRvO
import Derived.Test.YtikdgbmdepplgaaGreatDoorRtV
import Derived.Test.YtikdgbmdepplgaaGreatDoorRtS
import Derived.Test.YtikdgbmdepplgaaGreatDoorRvG
import Derived.Test.YtikdgbmdepplgaaGreatDoorTdE
import Derived.Test.YtikdgbmdepplgaaGreatDoorDskB
namespace Go.Proofs.YtikdgbmdepplgaaGreatDoor
open Go.RowKit Go.Shelf
set_option linter.unusedVariables false
set_option maxRecDepth 100000
def max9Sem (ts : Array TypeId) (t : TypeId) (x y : Value) : Sem Value := Builtin.max_ ts t #[x, y]
theorem max9_rule (ts : Array TypeId) (t : TypeId) (x y : Value) : Builtin.max_ ts t #[x, y] = max9Sem ts t x y := rfl
/-- s[:k] of bytes. -/
def cutH9 (x hi : Value) : Sem Value := Instr.sliceAt 30 x none (some hi) none
theorem cutH9_rule (x hi : Value) : Instr.sliceAt 30 x none (some hi) none = cutH9 x hi := rfl
theorem elem_u88 : Tryz.prog.elem 30 = 5 := by simp [Program.elem, Tryz.underlying30]
theorem cutH9_run (a : Option Addr) (len cap k : Nat) (hk : k ≤ cap) (w2 : World) : (cutH9 (.slice a len cap) (.int .i64 (k : Int))).run Tryz.prog w2 = .ok (.slice a k cap) w2 := by
  unfold cutH9
  have hu : Tryz.prog.underlying 30 = some (.slice (Tryz.prog.elem 30)) := by rw [elem_u88]; exact Tryz.underlying30
  rw [run_sliceAt_slice w2 30 _ _ _ _ hu, run_slice_h w2 30 a len cap hu .i64 (k : Int) (by omega) (by omega)]
  rw [elem_u88]
  cases a <;> go_simp <;> simp [Addr.add]
theorem lies_take8 {w : World} {a : Option Addr} {l : List Nat} (h : Lies w a l) (k : Nat) : Lies w a (l.take k) := by
  rcases h with rfl | ⟨b, off, rfl, hb, hc⟩
  · exact .inl (by simp)
  · refine .inr ⟨b, off, rfl, hb, fun i hi => ?_⟩
    rw [List.length_take] at hi
    rw [hc i (by omega)]
    have : i < k := by omega
    simp [List.getElem?_take, this]
theorem cut_at9 (cut : Int) {b : Nat} (hb : 1 ≤ b) : ∃ (mx : Int) (k : Nat), k < b ∧ (∀ ts t w, (max9Sem ts t (.int .i64 cut) (.int .i64 0)).run Tryz.prog w = .ok (.int .i64 mx) w) ∧ mx.tmod (b : Int) = (k : Int) ∧ 0 ≤ mx := by
  refine ⟨if 0 > cut then 0 else cut, ((if 0 > cut then 0 else cut).tmod (b : Int)).toNat, ?_, fun ts t w => run_max_int2 _ _ _ _ _ _ _, ?_, ?_⟩
  · have h0 : 0 ≤ (if 0 > cut then (0 : Int) else cut) := by split <;> omega
    generalize (if 0 > cut then (0 : Int) else cut) = z at *
    have h1 := Int.tmod_nonneg (b : Int) h0
    have h2 := Int.tmod_lt_of_pos z (show (0 : Int) < (b : Int) by omega)
    omega
  · have h0 : 0 ≤ (if 0 > cut then (0 : Int) else cut) := by split <;> omega
    generalize (if 0 > cut then (0 : Int) else cut) = z at *
    have h1 := Int.tmod_nonneg (b : Int) h0
    omega
  · split <;> omega
theorem encP_bys8 {q : Px} (h : okP q) : Bys (encP q) := by
  have hv := wid_cases h.1.1
  have hn := okP_le h
  exact (bys_two (by omega) (by omega)).append2 (q.a.b.bys.take2 _)
theorem roB_bys {x : Ro} (h : okRo x) : Bys (roB x) := by
  obtain ⟨hp, hs, hf, hh⟩ := okRo_b h
  intro y hy
  rcases List.mem_append.1 hy with k | k
  · exact encP_bys8 hp y k
  · unfold roT at k; simp at k; omega
theorem upB_bys {x : Up} (h : okUp x) : Bys (upB x) := by
  obtain ⟨hp, hs, hf, hh⟩ := okUp_b h
  have hg : g01 x.g ≤ 1 := by cases x.g <;> decide
  intro y hy
  rcases List.mem_append.1 hy with k | k
  · exact encP_bys8 hp y k
  · unfold upT at k; simp at k; omega
theorem okRib_all {L : List Ro} (h : okRib L) : ∀ x ∈ L, okRo x := fun x hx => by
  obtain ⟨i, hi, he⟩ := List.getElem_of_mem hx
  have := h.1 i hi
  rwa [rog_get hi, he] at this
theorem okBat_all {L : List Up} (h : okBat L) : ∀ x ∈ L, okUp x := fun x hx => by
  obtain ⟨i, hi, he⟩ := List.getElem_of_mem hx
  have := h.2.1 i hi
  rwa [upg_get hi, he] at this
theorem ribB_bys {L : List Ro} (h : okRib L) : Bys (ribB L) := by
  intro y hy
  rcases List.mem_cons.1 hy with rfl | hy
  · have := okRib_len h; omega
  · obtain ⟨x, hx, hy⟩ := List.mem_flatMap.1 hy
    exact roB_bys (okRib_all h x hx) y hy
theorem batB_bys {L : List Up} (h : okBat L) : Bys (batB L) := by
  intro y hy
  rcases List.mem_cons.1 hy with rfl | hy
  · have := h.1; omega
  · obtain ⟨x, hx, hy⟩ := List.mem_flatMap.1 hy
    exact upB_bys (okBat_all h x hx) y hy
theorem roB_len {x : Ro} (h : okRo x) : (roB x).length ≤ 21 := by
  have := (encP_b (okRo_b h).1).2
  unfold roB roT; simp; omega
theorem upB_len {x : Up} (h : okUp x) : (upB x).length ≤ 22 := by
  have := (encP_b (okUp_b h).1).2
  unfold upB upT; simp; omega
theorem flat_len {T : Type} {f : T → List Nat} {m : Nat} : ∀ (L : List T), (∀ x ∈ L, (f x).length ≤ m) → (L.flatMap f).length ≤ L.length * m
  | [], _ => by simp
  | x :: L, h => by
    have h1 := flat_len L (fun y hy => h y (by simp [hy]))
    have h2 := h x (by simp)
    rw [List.flatMap_cons, List.length_append, List.length_cons, Nat.succ_mul]
    omega
theorem ribB_b {L : List Ro} (h : okRib L) : 1 ≤ (ribB L).length ∧ (ribB L).length ≤ 4000 := by
  have h1 := flat_len (f := roB) L (fun x hx => roB_len (okRib_all h x hx))
  have h2 := okRib_len h
  unfold ribB rosB
  rw [List.length_cons]
  omega
theorem batB_b {L : List Up} (h : okBat L) : 1 ≤ (batB L).length ∧ (batB L).length ≤ 4000 := by
  have h1 := flat_len (f := upB) L (fun x hx => upB_len (okBat_all h x hx))
  have h2 := h.1
  unfold batB upsB
  rw [List.length_cons]
  omega
theorem build_und (u : Up) (w : World) : (buildSem 48 #[(0, .agg u.p.cs), (1, .int .i64 u.s), (2, .bool true)]).run Tryz.prog w = .ok (.agg (und u).cs) w := by
  unfold und Up.cs
  show (buildSem 48 #[(0, .agg u.p.cs), (1, .int .i64 u.s), (2, .bool true)]).run Tryz.prog w = .ok (.agg (u.p.cs ++ #[.int .i64 u.s, .bool true, .int .i64 0, .int .i64 0])) w
  unfold Px.cs Ad.cs
  obtain ⟨a0, a1, a2, a3, a4, a5, a6, a7, a8, a9, a10, a11, a12, a13, a14, a15, hh⟩ := u.p.a.b.out
  rw [hh]
  kernel_rfl
theorem OwnB.lies9 {w : World} {B : Nat} {v : Value} {l : List Nat} (h : OwnB w B v l) : ∃ a c, v = .slice a l.length c ∧ l.length ≤ 9223372036854775807 ∧ Lies w a l := by
  obtain ⟨a, c, h1, h2, h3, h4, _⟩ := h.lies
  exact ⟨a, c, h1, by unfold maxLen at h3; omega, h4⟩
theorem app_none {L S : List Ro} {U : List Up} {e : Int} (h : AppR L U S e) (he : e ≠ 0) : S = [] := by
  cases h with
  | rib => rfl
  | bat => rfl
  | gone => rfl
  | full => rfl
  | good => exact absurd rfl he
theorem runU_len9 : ∀ (U : List Up) {M D : List Ro}, runU M U = some D → D.length ≤ M.length + U.length
  | [], M, D, h => by cases h; simp
  | u :: U, M, D, h => by
    rw [runU] at h
    split at h
    · cases h
    · have h1 := runU_len9 U h
      have h2 := stepL_len M u
      rw [List.length_cons]
      omega
theorem app_len {L S : List Ro} {U : List Up} {e : Int} (h : AppR L U S e) : S.length ≤ L.length + U.length := by
  cases h with
  | rib => simp
  | bat => simp
  | gone => simp
  | full => simp
  | good _ _ c d _ => rw [d.1.length_eq]; exact runU_len9 U c
attribute [local go_sem ↓] load_rib_rule9 store_rib_rule9 load_bat_rule9 store_bat_rule9 max9_rule cutH9_rule load_b16_rule store_b16_rule load_ad_rule store_ad_rule load_px_rule store_px_rule eq_b16_rule eq_ad_rule eq_px_rule load_ro_rule store_ro_rule load_up_rule store_up_rule build_upd_rule upbuild_rule upapp_rule
set_option maxHeartbeats 8000000 in
theorem rback_walk (a : Option Addr) (n c : Nat) (L : List Ro) (a2 : Option Addr) (n2 c2 : Nat) (U : List Up) (cut : Int) (w : World) (hW : Wid w) (hn : L.length = n) (hR : RoAt w a L) (hc : n ≤ c ∧ c ≤ maxLen ∧ (a = none → c = 0))
    (hn2 : U.length = n2) (hR2 : UpAt w a2 U) (hc2 : n2 ≤ c2 ∧ c2 ≤ maxLen ∧ (a2 = none → c2 = 0)) :
    Calls Tryz.prog 3 #[.agg #[.slice a n c], .agg #[.slice a2 n2 c2], .int .i64 cut] w fun e w' => e = .returned (.bool true) ∧ Below w.heap.size w w' := by
  obtain ⟨W1, hW1⟩ : ∃ W1, (w.alloc (.cells #[.slice a n c] 24)).alloc (.cells #[.slice a2 n2 c2] 27) = W1 := ⟨_, rfl⟩
  have hb1 : Below w.heap.size w W1 := by rw [← hW1]; exact ((Below.refl _ _).alloc (Nat.le_refl _) _).alloc (by simp) _
  have b1 : Blk W1 w.heap.size 24 #[.slice a n c] := by rw [← hW1]; exact (Blk.new _ _ _).alloc _
  have b2 : Blk W1 (w.heap.size + 1) 27 #[.slice a2 n2 c2] := by rw [← hW1]; exact blk_new2 _ _ _ _
  have LR := Lib.hid (rib_t b1)
  have LB := Lib.hid (bat_t b2)
  have HRC := Lib.hid (fun (w' : World) (h : Below W1.heap.size W1 w') => And.intro ((b1.later h).cell 0) ((b2.later h).cell 0))
  have HWK := wakes11_any W1 (hW.later hb1)
  have HB := Lib.hid (And.intro hb1 (And.intro hn hn2))
  have HR := Lib.hid (fun (w' : World) (h : Below W1.heap.size W1 w') => And.intro ((hW.later hb1).later h) (And.intro ((hR.later hb1).later h) ((hR2.later hb1).later h)))
  have HC := Lib.hid (And.intro hc hc2)
  clear hR hR2 b1 b2 hb1 hc hc2 hn hn2 hW
  go_enter Tryz.func3, Tryz.ntmps3
  go_wp2_with fail
  refine HWK.mono ?_
  rintro e w2 ⟨rfl, hb2⟩
  have LR2 := LR.out w2 hb2
  have LB2 := LB.out w2 hb2
  have HOV := over11_any a n c a2 n2 c2 w2 _ rfl
  clear HWK
  by_cases hov : 300 < n ∨ 100 < n2
  · rw [decide_eq_true hov] at HOV
    clear hov
    go_wp2_with fail
    refine HOV.mono ?_
    rintro e w3 ⟨rfl, hb3⟩
    go_wp2_with fail
    go_ret
    exact ⟨rfl, bel_trans HB.out.1 (bel_trans hb2 hb3)⟩
  rw [decide_eq_false hov] at HOV
  have hl1 : n ≤ 300 := by omega
  have hl2 : n2 ≤ 100 := by omega
  clear hov
  go_wp2_with fail
  refine HOV.mono ?_
  rintro e w3 ⟨rfl, hb3⟩
  have hb13 := bel_trans hb2 hb3
  have LR3 := LR.out w3 hb13
  have HEN := rencode_any a n c L w3 (HR.out w3 hb13).1 HB.out.2.1 (by omega) (HR.out w3 hb13).2.1 HC.out.1.2.2
  clear HOV LR2 LB2 hb2 hb3
  go_wp2_with fail
  refine HEN.mono ?_
  rintro e w4 ⟨x, rfl, hx1, hx2, hb4⟩
  have hb14 := bel_trans hb13 hb4
  clear HEN LR3 hb13 hb4
  by_cases h1 : okRib L
  · have e1 : ribE L = 0 := if_pos h1
    rw [e1]
    obtain ⟨xa, xc, rfl, hxc, hxm, hxL, _⟩ := (hx1 h1).lies
    obtain ⟨bn, hbn⟩ : ∃ bn, (ribB L).length = bn := ⟨_, rfl⟩
    have hbb := ribB_b h1
    have HD1 := rdecode_any (HR.out w4 hb14).1 hxL hxc hxm (ribB_bys h1) (by omega)
    rw [rib_back h1 (okRib_all h1), hbn] at HD1
    rw [hbn] at hxc hbb ⊢
    obtain ⟨mx, k, hkb, hmx, hmod, hmx0⟩ := cut_at9 cut hbb.1
    have hcu := rib_cut (okRib_all h1) k (by omega)
    have hz : ¬ ((bn : Int) = 0) := by omega
    have CH := cutH9_run xa bn xc k (by omega)
    have HG := Lib.hid (And.intro h1 (And.intro hbn (And.intro hbb (And.intro hxc (And.intro hxm (And.intro hkb (And.intro hcu hxL)))))))
    have H4 := Lib.hid hb14
    clear hx1 hx2 h1 e1 hbn hbb hxc hxm hxL hkb hcu
    go_wp2_with fail
    refine HD1.mono ?_
    rintro e w5 ⟨v5, rfl, ho5, hb5⟩
    have hb15 := bel_trans H4.out hb5
    obtain ⟨p5, q5, rfl, hcc5, hmm5, hat5, _⟩ := ho5.lies
    obtain ⟨n5, hn5⟩ : ∃ n, (L).length = n := ⟨_, rfl⟩
    rw [hn5]
    have hle5 : n5 ≤ 9223372036854775807 := by unfold maxLen at hmm5; omega
    have hbq5 := Blk.new w5 24 #[.slice none 0 0]
    have ST5 := st_rib (a2 := p5) (n2 := n5) (c2 := q5) hbq5
    obtain ⟨y5, hy5⟩ : ∃ y, (w5.alloc (.cells #[.slice none 0 0] 24)).setRow w5.heap.size #[.slice p5 n5 q5] = y := ⟨_, rfl⟩
    have bl5 : Blk y5 w5.heap.size 24 #[.slice p5 n5 q5] := by rw [← hy5]; exact Blk.row hbq5 _
    have KY5 : Below w5.heap.size w5 y5 := by rw [← hy5]; exact below_setRow ((Below.refl _ _).alloc (Nat.le_refl _) _) (Nat.le_refl _) _
    rw [hy5] at ST5
    have hby5 := bel_trans hb15 KY5
    have LT5 := Lib.hid (And.intro (rib_t bl5) (And.intro (hat5.later KY5) (And.intro hn5 hle5)))
    clear hbq5 hy5 bl5 hat5 hn5 hcc5 hmm5 hle5
    have k45 := bel_trans hb5 KY5
    have h15 := bel_trans H4.out k45
    have HD2 := rdecode_any (R := (ribB L).take k) (HR.out y5 h15).1 ((lies_take8 HG.out.2.2.2.2.2.2.2 k).kept k45) (by rw [List.length_take]; have := HG.out.2.2.2.1; have := HG.out.2.2.2.2.2.1; omega) HG.out.2.2.2.2.1 (fun x hx => ribB_bys HG.out.1 x (List.mem_of_mem_take hx)) (by rw [List.length_take]; have := HG.out.2.2.1.2; have := HG.out.2.2.2.2.2.1; omega)
    rw [show ((ribB L).take k).length = k by rw [List.length_take]; have := HG.out.2.1; have := HG.out.2.2.2.2.2.1; omega, HG.out.2.2.2.2.2.2.1] at HD2
    have K45 := Lib.hid k45
    clear hb15 ho5 hb5 KY5 HD1 k45
    go_wp2_with (first | (with_reducible refine wpList_alloc_z rfl 24 rfl #[.slice none 0 0] 1 z_rib ?_) | (with_reducible refine wpList_alloc_z rfl 27 rfl #[.slice none 0 0] 1 z_bat ?_))
    refine HD2.mono ?_
    rintro e w6 ⟨v6, rfl, ho6, hb6⟩
    have hb16 := bel_trans h15 hb6
    obtain ⟨p6, q6, rfl, hcc6, hmm6, hat6, _⟩ := ho6.lies
    obtain ⟨n6, hn6⟩ : ∃ n, ((decRo ((ribB L).take k)).2).length = n := ⟨_, rfl⟩
    rw [hn6]
    have hle6 : n6 ≤ 9223372036854775807 := by unfold maxLen at hmm6; omega
    have hbq6 := Blk.new w6 24 #[.slice none 0 0]
    have ST6 := st_rib (a2 := p6) (n2 := n6) (c2 := q6) hbq6
    obtain ⟨y6, hy6⟩ : ∃ y, (w6.alloc (.cells #[.slice none 0 0] 24)).setRow w6.heap.size #[.slice p6 n6 q6] = y := ⟨_, rfl⟩
    have bl6 : Blk y6 w6.heap.size 24 #[.slice p6 n6 q6] := by rw [← hy6]; exact Blk.row hbq6 _
    have KY6 : Below w6.heap.size w6 y6 := by rw [← hy6]; exact below_setRow ((Below.refl _ _).alloc (Nat.le_refl _) _) (Nat.le_refl _) _
    rw [hy6] at ST6
    have hby6 := bel_trans hb16 KY6
    have LT6 := Lib.hid (And.intro (rib_t bl6) (And.intro (hat6.later KY6) (And.intro hn6 hle6)))
    clear hbq6 hy6 bl6 hat6 hn6 hcc6 hmm6 hle6
    have k56 := bel_trans hb6 KY6
    have L5 := LT5.out.1 y6 k56
    have LRy := LR.out y6 hby6
    have HSM := rosame_any a p5 n c n5 q5 L L y6 HB.out.2.1 (by omega) (HR.out y6 hby6).2.1 LT5.out.2.2.1 LT5.out.2.2.2 (LT5.out.2.1.later k56)
    rw [decide_eq_true rfl] at HSM
    have K46 := Lib.hid (bel_trans K45.out k56)
    clear hb16 ho6 hb6 KY6 HD2 k56 h15 hby5
    go_wp2_with (first | (with_reducible refine wpList_alloc_z rfl 24 rfl #[.slice none 0 0] 1 z_rib ?_) | (with_reducible refine wpList_alloc_z rfl 27 rfl #[.slice none 0 0] 1 z_bat ?_))
    refine HSM.mono ?_
    rintro e w7 ⟨rfl, hb7⟩
    have h17 := bel_trans hby6 hb7
    clear HSM L5 LRy hby6
    have K47 := Lib.hid (bel_trans K46.out hb7)
    have LB7 := LB.out w7 h17
    have HEB := rencodeb_any a2 n2 c2 U w7 (HR.out w7 h17).1 HB.out.2.2 (by omega) (HR.out w7 h17).2.2 HC.out.2.1
    clear hb7
    go_wp2_with fail
    refine HEB.mono ?_
    rintro e w8 ⟨z, rfl, hz1, hz2, hb8⟩
    have h18 := bel_trans h17 hb8
    have K48 := Lib.hid (bel_trans K47.out hb8)
    clear HEB LB7 hb8 h17 hmx hmod hmx0 CH hz
    by_cases h2 : okBat U
    · have e2 : batE U = 0 := if_pos h2
      rw [e2]
      obtain ⟨za, zc, rfl, hzc, hzm, hzL, _⟩ := (hz1 h2).lies
      obtain ⟨zn, hzn⟩ : ∃ zn, (batB U).length = zn := ⟨_, rfl⟩
      have hzb := batB_b h2
      have HD3 := udecode_any (HR.out w8 h18).1 hzL hzc hzm (batB_bys h2) (by omega)
      rw [bat_back h2 (okBat_all h2), hzn] at HD3
      rw [hzn] at hzc hzb ⊢
      obtain ⟨mz, j, hjb, hmz, hmodz, hmz0⟩ := cut_at9 cut hzb.1
      have hcz := bat_cut (okBat_all h2) j (by omega)
      have hzz : ¬ ((zn : Int) = 0) := by omega
      have CHz := cutH9_run za zn zc j (by omega)
      have HG2 := Lib.hid (And.intro h2 (And.intro hzn (And.intro hzb (And.intro hzc (And.intro hzm (And.intro hjb (And.intro hcz hzL)))))))
      have H8 := Lib.hid h18
      clear hz1 hz2 h2 e2 hzn hzb hzc hzm hzL hjb hcz
      go_wp2_with fail
      refine HD3.mono ?_
      rintro e w9 ⟨v9, rfl, ho9, hb9⟩
      have hb19 := bel_trans H8.out hb9
      obtain ⟨p9, q9, rfl, hcc9, hmm9, hat9, _⟩ := ho9.lies
      obtain ⟨n9, hn9⟩ : ∃ n, (U).length = n := ⟨_, rfl⟩
      rw [hn9]
      have hle9 : n9 ≤ 9223372036854775807 := by unfold maxLen at hmm9; omega
      have hbq9 := Blk.new w9 27 #[.slice none 0 0]
      have ST9 := st_bat (a2 := p9) (n2 := n9) (c2 := q9) hbq9
      obtain ⟨y9, hy9⟩ : ∃ y, (w9.alloc (.cells #[.slice none 0 0] 27)).setRow w9.heap.size #[.slice p9 n9 q9] = y := ⟨_, rfl⟩
      have bl9 : Blk y9 w9.heap.size 27 #[.slice p9 n9 q9] := by rw [← hy9]; exact Blk.row hbq9 _
      have KY9 : Below w9.heap.size w9 y9 := by rw [← hy9]; exact below_setRow ((Below.refl _ _).alloc (Nat.le_refl _) _) (Nat.le_refl _) _
      rw [hy9] at ST9
      have hby9 := bel_trans hb19 KY9
      have LT9 := Lib.hid (And.intro (bat_t9 bl9) (And.intro (hat9.later KY9) (And.intro hn9 hle9)))
      clear hbq9 hy9 bl9 hat9 hn9 hcc9 hmm9 hle9
      have k89 := bel_trans hb9 KY9
      have h19 := bel_trans H8.out k89
      have HD4 := udecode_any (R := (batB U).take j) (HR.out y9 h19).1 ((lies_take8 HG2.out.2.2.2.2.2.2.2 j).kept k89) (by rw [List.length_take]; have := HG2.out.2.2.2.1; have := HG2.out.2.2.2.2.2.1; omega) HG2.out.2.2.2.2.1 (fun x hx => batB_bys HG2.out.1 x (List.mem_of_mem_take hx)) (by rw [List.length_take]; have := HG2.out.2.2.1.2; have := HG2.out.2.2.2.2.2.1; omega)
      rw [show ((batB U).take j).length = j by rw [List.length_take]; have := HG2.out.2.1; have := HG2.out.2.2.2.2.2.1; omega, HG2.out.2.2.2.2.2.2.1] at HD4
      have K49 := Lib.hid (bel_trans K48.out k89)
      clear hb19 ho9 hb9 KY9 HD3 k89 h18
      go_wp2_with (first | (with_reducible refine wpList_alloc_z rfl 24 rfl #[.slice none 0 0] 1 z_rib ?_) | (with_reducible refine wpList_alloc_z rfl 27 rfl #[.slice none 0 0] 1 z_bat ?_))
      refine HD4.mono ?_
      rintro e w10 ⟨v10, rfl, ho10, hb10⟩
      have h110 := bel_trans h19 hb10
      have L9 := LT9.out.1 w10 hb10
      have LBy := LB.out w10 h110
      have HSN := upsame_any a2 p9 n2 c2 n9 q9 U U w10 HB.out.2.2 (by omega) (HR.out w10 h110).2.2 LT9.out.2.2.1 LT9.out.2.2.2 (LT9.out.2.1.later hb10)
      rw [decide_eq_true rfl] at HSN
      have K410 := Lib.hid (bel_trans K49.out hb10)
      clear ho10 hb10 HD4 hby9 h19
      go_wp2_with fail
      refine HSN.mono ?_
      rintro e w11 ⟨rfl, hb11⟩
      have h111 := bel_trans h110 hb11
      have K411 := Lib.hid (bel_trans K410.out hb11)
      have LR11 := LR.out w11 h111
      have LB11 := LB.out w11 h111
      have HAP := rapply_any a n c L a2 n2 c2 U w11 (HR.out w11 h111).1 HB.out.2.1 (by omega) (HR.out w11 h111).2.1 HC.out.1.2.2 HB.out.2.2 (by omega) HC.out.2.1 (HR.out w11 h111).2.2
      clear HSN L9 LBy hb11 h110
      go_wp2_with fail
      refine HAP.mono ?_
      rintro e w12 ⟨a12, c12, S, er, rfl, hoS, hAP, hb12⟩
      have h112 := bel_trans h111 hb12
      have K412 := Lib.hid (bel_trans K411.out hb12)
      have LSn : S.length ≤ 1000 := by have := app_len hAP; have := HB.out.2.1; have := HB.out.2.2; omega
      obtain ⟨sn, hsn⟩ : ∃ sn, S.length = sn := ⟨_, rfl⟩
      rw [hsn] at hoS ⊢
      have hbq := Blk.new w12 24 #[.slice none 0 0]
      have STo := st_rib (a2 := a12) (n2 := sn) (c2 := c12) hbq
      obtain ⟨y12, hy12⟩ : ∃ y, (w12.alloc (.cells #[.slice none 0 0] 24)).setRow w12.heap.size #[.slice a12 sn c12] = y := ⟨_, rfl⟩
      have bl12 : Blk y12 w12.heap.size 24 #[.slice a12 sn c12] := by rw [← hy12]; exact Blk.row hbq _
      have KY12 : Below w12.heap.size w12 y12 := by rw [← hy12]; exact below_setRow ((Below.refl _ _).alloc (Nat.le_refl _) _) (Nat.le_refl _) _
      rw [hy12] at STo
      have hs12 := bel_trans h112 KY12
      have co := bl12.cell 0
      clear HAP LR11 LB11 hbq hy12 h111 h112
      by_cases her : er = 0
      · subst her
        have HS := Lib.hid (And.intro hAP (And.intro (hoS.later KY12) (And.intro bl12 (And.intro LSn (And.intro hsn (bel_trans K412.out KY12))))))
        clear hAP hoS bl12 LSn hsn hb12 KY12
        obtain ⟨W13, hW13⟩ : ∃ W13, y12.alloc (.cells #[.slice none 0 0] 27) = W13 := ⟨_, rfl⟩
        have bu : Blk W13 y12.heap.size 27 #[.slice none 0 0] := by rw [← hW13]; exact Blk.new _ _ _
        have k13 : Below y12.heap.size y12 W13 := by rw [← hW13]; exact (Below.refl _ _).alloc (Nat.le_refl _) _
        have s13 : W13.heap.size = y12.heap.size + 1 := by rw [← hW13]; simp
        have hcb := (HRC.out W13 (bel_trans hs12 k13)).2
        have HK := Lib.hid (And.intro bu (And.intro k13 (And.intro s13 hs12)))
        clear bu k13 s13 hs12 co hmz hmodz hmz0 CHz hzz
        go_wp2_with (first | (with_reducible refine wpList_alloc_z rfl 24 rfl #[.slice none 0 0] 1 z_rib ?_) | (with_reducible refine wpList_alloc_z rfl 27 rfl #[.slice none 0 0] 1 z_bat ?_))
        clear hW13
        go_loopw [119] (fun i X => ∃ (k : Nat) (v : Option Addr) (vc : Nat), i = .int .i64 (k : Int) ∧ k ≤ n2 ∧ Blk X y12.heap.size 27 #[.slice v k vc] ∧ OwnUp X (y12.heap.size + 1) (.slice v k vc) ((U.take k).map und) ∧ (∀ m, m < k → (upg U m).g = false ∧ ∀ x ∈ L, ¬ spk (upg U m) x) ∧ Below y12.heap.size y12 X ∧ y12.heap.size + 1 ≤ X.heap.size) (fun i _ => n2 - (intOf i).toNat)
        case atStart => exact ⟨0, none, 0, rfl, by omega, HK.out.1, ⟨rfl, .inl ⟨rfl, rfl⟩⟩, fun m hm => absurd hm (by omega), HK.out.2.1, by have := HK.out.2.2.1; omega⟩
        case round =>
          obtain ⟨k9, v, vc, rfl, hk9, hbu, hou, hall, hky, hsz⟩ := hrel
          obtain ⟨wo, hwo⟩ : ∃ wo, wo = wr := ⟨_, rfl⟩
          subst hwo
          have h1x := bel_trans HK.out.2.2.2 hky
          clear hcb
          by_cases hlt : k9 < n2
          · have hkl : k9 < U.length := by have := HB.out.2.2; omega
            obtain ⟨g2, o2, hao, hrow⟩ := (HR.out wo h1x).2.2.spot hkl
            have LK := hrow.load hkl
            obtain ⟨W5, hst, hblk, hb5⟩ := up_new (upg U k9) wo
            have LG := up_g hblk
            have LP := up_p hblk
            have LSS := up_s hblk
            have hca := (HRC.out W5 (bel_trans h1x hb5)).1
            subst hao
            have HX := Lib.hid (And.intro hbu (And.intro hou (And.intro hall (And.intro hky (And.intro hsz (And.intro hb5 (And.intro hkl (And.intro (bel_trans h1x hb5) (And.intro LG (And.intro LP LSS))))))))))
            clear hbu hou hall hky hsz hb5 hkl h1x LG LP LSS hrow hblk
            go_wp2_with (with_reducible refine wpList_alloc_z rfl 48 rfl Up.zero.cs 22 z_up ?_)
            go_loopw [126] (fun i X => ∃ j9 : Nat, i = .int .i64 (j9 : Int) ∧ j9 ≤ n ∧ (∀ m, m < j9 → (upg U k9).g = false ∧ ¬ spk (upg U k9) (rog L m)) ∧ Below W5.heap.size W5 X) (fun i _ => n - (intOf i).toNat)
            case atStart => exact ⟨0, rfl, by omega, fun m hm => absurd hm (by omega), Below.refl _ _⟩
            case round =>
              obtain ⟨j9, rfl, hj9, hno, hkX⟩ := hrel
              have h1r := bel_trans HX.out.2.2.2.2.2.2.2.1 hkX
              clear hca hst LK
              by_cases hlj : j9 < n
              · have hjl : j9 < L.length := by have := HB.out.2.1; omega
                obtain ⟨g3, o3, hao3, hrow3⟩ := (HR.out wr h1r).2.1.spot hjl
                have LJ := hrow3.load hjl
                obtain ⟨W6, hst6, hblk6, hb6⟩ := ro_new (rog L j9) wr
                have hk6 := bel_trans hkX hb6
                have LGx := HX.out.2.2.2.2.2.2.2.2.1 W6 hk6
                have LPx := HX.out.2.2.2.2.2.2.2.2.2.1 W6 hk6
                have LSx := HX.out.2.2.2.2.2.2.2.2.2.2 W6 hk6
                have LRp := ro_p hblk6 W6 (Below.refl _ _)
                have LRs := ro_s hblk6 W6 (Below.refl _ _)
                have EQ := eqP (rog L j9).p (upg U k9).p
                have h16 := bel_trans h1r hb6
                have HZ := Lib.hid (And.intro hk6 (And.intro hno h16))
                subst hao3
                clear hrow3 hblk6 hb6 hk6 hno h16 hkX h1r
                cases hg : (upg U k9).g
                · rw [hg] at LGx
                  by_cases hp : (rog L j9).p = (upg U k9).p
                  · rw [decide_eq_true hp] at EQ
                    by_cases hs : (rog L j9).s = (upg U k9).s
                    · have dS : ((rog L j9).s == (upg U k9).s) = true := by simp [hs]
                      clear hp hs
                      go_wp2_with (with_reducible refine wpList_alloc_z rfl 50 rfl Ro.zero.cs 21 z_ro ?_)
                      go_ret
                      exact ⟨rfl, bel_trans HB.out.1 HZ.out.2.2⟩
                    · have dS : ((rog L j9).s == (upg U k9).s) = false := by simp [hs]
                      have HN := Lib.hid (show ¬ spk (upg U k9) (rog L j9) from fun h => hs h.2.symm)
                      clear hp hs
                      go_wp2_with (with_reducible refine wpList_alloc_z rfl 50 rfl Ro.zero.cs 21 z_ro ?_)
                      go_roundw
                      case rel => exact ⟨j9 + 1, by go_num, by omega, fun m hm => (by rcases (show m < j9 ∨ m = j9 by omega) with h | rfl; exact ⟨by first | trivial | exact (HZ.out.2.1 m h).1, (HZ.out.2.1 m h).2⟩; exact ⟨by first | trivial | exact hg, HN.out⟩), HZ.out.1⟩
                      case measure => simp [intOf]; omega
                  · rw [decide_eq_false hp] at EQ
                    have HN := Lib.hid (show ¬ spk (upg U k9) (rog L j9) from fun h => hp h.1.symm)
                    clear hp
                    go_wp2_with (with_reducible refine wpList_alloc_z rfl 50 rfl Ro.zero.cs 21 z_ro ?_)
                    go_roundw
                    case rel => exact ⟨j9 + 1, by go_num, by omega, fun m hm => (by rcases (show m < j9 ∨ m = j9 by omega) with h | rfl; exact ⟨by first | trivial | exact (HZ.out.2.1 m h).1, (HZ.out.2.1 m h).2⟩; exact ⟨by first | trivial | exact hg, HN.out⟩), HZ.out.1⟩
                    case measure => simp [intOf]; omega
                · rw [hg] at LGx
                  go_wp2_with (with_reducible refine wpList_alloc_z rfl 50 rfl Ro.zero.cs 21 z_ro ?_)
                  go_ret
                  exact ⟨rfl, bel_trans HB.out.1 HZ.out.2.2⟩
              · obtain rfl : j9 = n := by omega
                have LGr := HX.out.2.2.2.2.2.2.2.2.1 wr hkX
                cases hg : (upg U k9).g
                · rw [hg] at LGr
                  have LPr := HX.out.2.2.2.2.2.2.2.2.2.1 wr hkX
                  have LSr := HX.out.2.2.2.2.2.2.2.2.2.2 wr hkX
                  have k5r : Below wo.heap.size wo wr := bel_trans HX.out.2.2.2.2.2.1 hkX
                  have bur := HX.out.1.later k5r
                  have our := HX.out.2.1.later k5r
                  have BU := build_und (upg U k9)
                  have hml : ((U.take k9).map und).length ≤ 1000 := by simp; omega
                  have hszr : y12.heap.size + 1 ≤ wr.heap.size := by have := HX.out.2.2.2.2.1; have := k5r.size; omega
                  obtain ⟨v8, c8, X4, r7, o4, k4, kb⟩ := upappB_one our hml hszr (und (upg U k9))
                  have r7' : ∀ ty : TypeId, (upappSem ty #[.slice v k9 vc, .slice (some ⟨wr.heap.size, 0, none⟩) 1 1]).run Tryz.prog (wr.alloc (.cells (und (upg U k9)).cs 48)) = .ok (.slice v8 (k9 + 1) c8) X4 := r7
                  have r6 := upone_run (und (upg U k9)) wr
                  have b4 := kb _ _ _ bur (by decide)
                  have cbu : wr.cell? ⟨y12.heap.size, 0, none⟩ = some (.slice v k9 vc) := bur.cell 0
                  have cz : X4.cell? ⟨y12.heap.size, 0, none⟩ = some (.slice v k9 vc) := b4.cell 0
                  have fz := b4.free 0
                  have kx5 : Kept [y12.heap.size] X4 (X4.setCell ⟨y12.heap.size, 0, none⟩ (.slice v8 (k9 + 1) c8)) := (Kept.refl _ X4).setCell (p := ⟨y12.heap.size, 0, none⟩) (.inl (by simp)) _
                  have ky4 : Below y12.heap.size y12 X4 := (HX.out.2.2.2.1.trans (k5r.mono HX.out.2.2.2.1.size)).trans (k4.mono (by omega))
                  have b5 : Blk (X4.setCell ⟨y12.heap.size, 0, none⟩ (.slice v8 (k9 + 1) c8)) y12.heap.size 27 #[.slice v8 (k9 + 1) c8] := by
                    have := b4.set 0 (.slice v8 (k9 + 1) c8)
                    simpa using this
                  have o5 := o4.kept9 kx5 (by intro g9 h9; have := (upown_above o4 g9 h9).1; simp; omega)
                  have etk : (U.take (k9 + 1)).map und = (U.take k9).map und ++ [und (upg U k9)] := by
                    have hkk := HX.out.2.2.2.2.2.2.1
                    rw [List.take_succ_eq_append_getElem hkk, List.map_append, ← upg_get hkk]; rfl
                  have hfree : ∀ x ∈ L, ¬ spk (upg U k9) x := fun x hx => by
                    obtain ⟨i, hi, he⟩ := List.getElem_of_mem hx
                    have := (hno i (by have := HB.out.2.1; omega)).2
                    rw [rog_get hi, he] at this
                    exact this
                  have HQ := Lib.hid (And.intro b5 (And.intro (show OwnUp _ _ _ ((U.take (k9 + 1)).map und) by rw [etk]; exact o5) (And.intro (ky4.trans (kx5.below (by simp) ky4.size)) (And.intro (show y12.heap.size + 1 ≤ (X4.setCell ⟨y12.heap.size, 0, none⟩ (.slice v8 (k9 + 1) c8)).heap.size by have := kx5.size; have := k4.size; omega) (And.intro hfree hg)))))
                  clear k5r bur our hml hszr o4 k4 kb r7 b4 kx5 ky4 b5 o5 etk hfree hno hkX h1r
                  go_wp2_with fail
                  go_roundw
                  case rel =>
                    exact ⟨k9 + 1, v8, c8, by go_num, by omega, HQ.out.1, HQ.out.2.1, fun m hm => by
                      rcases (show m < k9 ∨ m = k9 by omega) with h | rfl
                      · exact HX.out.2.2.1 m h
                      · exact ⟨HQ.out.2.2.2.2.2, HQ.out.2.2.2.2.1⟩, HQ.out.2.2.1, HQ.out.2.2.2.1⟩
                  case measure => simp [intOf]; omega
                · rw [hg] at LGr
                  clear hno hlj
                  go_wp2_with fail
                  go_ret
                  exact ⟨rfl, bel_trans HB.out.1 h1r⟩
          · obtain rfl : k9 = n2 := by omega
            have LS := rib_t (HS.out.2.2.1.later hky) wo (Below.refl _ _)
            have LU := bat_t hbu wo (Below.refl _ _)
            obtain ⟨vu, cu, eu, hcu1, hcu2, hau, _⟩ := hou.lies
            have hmu : ((U.take k9).map und).length = k9 := by simp; have := HB.out.2.2; omega
            rw [hmu] at eu hcu1
            injection eu with eu1 eu2 eu3
            subst eu1 eu3
            obtain ⟨ao, co9, eo, _, _, hao9, _⟩ := HS.out.2.1.lies
            have eo1 : a12 = ao := by injection eo
            subst eo1
            have hno : a12 = none → c12 = 0 := fun h => by
              rcases HS.out.2.1.2 with ⟨h9, _⟩ | ⟨g9, cap, cur, h9, _⟩
              · injection h9
              · rw [h] at h9; injection h9 with h9; cases h9
            have hUk : (U.take k9).map und = U.map und := by rw [List.take_of_length_le (by have := HB.out.2.2; omega)]
            rw [hUk] at hau hmu
            have HAQ := rapply_any a12 sn c12 S v k9 vc (U.map und) wo (HR.out wo h1x).1 HS.out.2.2.2.2.1 (by have := HS.out.2.2.2.2.1; have := app_len HS.out.1; have := HB.out.2.1; have := HB.out.2.2; omega) (hao9.later hky) hno hmu (by omega) hcu1 hau
            have HY := Lib.hid (And.intro hall hky)
            clear hbu hou hall hsz hao9 hau hno
            go_wp2_with (first | (with_reducible refine wpList_alloc_z rfl 24 rfl #[.slice none 0 0] 1 z_rib ?_) | (with_reducible refine wpList_alloc_z rfl 27 rfl #[.slice none 0 0] 1 z_bat ?_))
            refine HAQ.mono ?_
            rintro e w14 ⟨a14, c14, M, f, rfl, hoM, hAQ, hb14x⟩
            have hall := HY.out.1
            obtain ⟨rfl, rfl⟩ := rib_undo HS.out.1 (fun u hu => by
              obtain ⟨i, hi, he⟩ := List.getElem_of_mem hu
              have := (hall i (by have := HB.out.2.2; omega)).1
              rwa [upg_get hi, he] at this) (fun u hu x hx => by
              obtain ⟨i, hi, he⟩ := List.getElem_of_mem hu
              have := (hall i (by have := HB.out.2.2; omega)).2 x hx
              rwa [upg_get hi, he] at this) hAQ
            have h14 := bel_trans (bel_trans HK.out.2.2.2 HY.out.2) hb14x
            have K14 := bel_trans (bel_trans HS.out.2.2.2.2.2 HY.out.2) hb14x
            clear hall hAQ HAQ
            obtain ⟨nl, hnl⟩ : ∃ nl, M.length = nl := ⟨_, rfl⟩
            rw [hnl] at hoM ⊢
            have hno4 : a14 = none → c14 = 0 := fun h => by
              rcases hoM.2 with ⟨h9, _⟩ | ⟨g9, cap, cur, h9, _⟩
              · injection h9
              · rw [h] at h9; injection h9 with h9; cases h9
            obtain ⟨ab4, cb4, eb4, _, _, hab4, _⟩ := hoM.lies
            have eb5 : a14 = ab4 := by injection eb4
            subst eb5
            have hbq := Blk.new w14 24 #[.slice none 0 0]
            have ST14 := st_rib (a2 := a14) (n2 := nl) (c2 := c14) hbq
            obtain ⟨y14, hy14⟩ : ∃ y, (w14.alloc (.cells #[.slice none 0 0] 24)).setRow w14.heap.size #[.slice a14 nl c14] = y := ⟨_, rfl⟩
            have bl14 : Blk y14 w14.heap.size 24 #[.slice a14 nl c14] := by rw [← hy14]; exact Blk.row hbq _
            have KY14 : Below w14.heap.size w14 y14 := by rw [← hy14]; exact below_setRow ((Below.refl _ _).alloc (Nat.le_refl _) _) (Nat.le_refl _) _
            rw [hy14] at ST14
            have L14 := rib_t bl14 y14 (Below.refl _ _)
            have HEN2 := rencode_any a14 nl c14 M y14 (HR.out y14 (bel_trans h14 KY14)).1 hnl (by have := HB.out.2.1; omega) (hab4.later KY14) hno4
            have e1 : ribE M = 0 := if_pos HG.out.1
            rw [e1] at HEN2
            have HW := Lib.hid (And.intro (bel_trans h14 KY14) (bel_trans K14 KY14))
            clear h14 K14 hoM hab4 hbq hy14 bl14 KY14 hno4 e1 hb14x
            go_wp2_with (first | (with_reducible refine wpList_alloc_z rfl 24 rfl #[.slice none 0 0] 1 z_rib ?_) | (with_reducible refine wpList_alloc_z rfl 27 rfl #[.slice none 0 0] 1 z_bat ?_))
            refine HEN2.mono ?_
            rintro e w15 ⟨x15, rfl, hx5, _, hb15x⟩
            obtain ⟨xb, xcb, rfl, hxl5, hxL5⟩ := (hx5 HG.out.1).lies9
            have hbn5 := HG.out.2.1
            rw [hbn5] at hxl5 ⊢
            have HSB := equal_any xa xb bn xc bn xcb (ribB M) (ribB M) w15 hbn5 hbn5 (ribB_bys HG.out.1) (ribB_bys HG.out.1) (HG.out.2.2.2.2.2.2.2.kept (bel_trans HW.out.2 hb15x)) hxL5
            have h115 := bel_trans HW.out.1 hb15x
            clear hx5 hxL5 hxl5 HEN2 hb15x L14
            go_wp2_with fail
            refine HSB.mono ?_
            rintro e w16 ⟨rfl, rfl⟩
            go_wp2_with fail
            go_ret
            exact ⟨by simp, bel_trans HB.out.1 h115⟩
      · obtain rfl : S = [] := app_none hAP her
        have hs0 : sn = 0 := by rw [← hsn]; rfl
        subst hs0
        have der : (er != 0) = true := by simpa using her
        clear hAP hoS bl12 LSn hsn hb12 KY12
        go_wp2_with (first | (with_reducible refine wpList_alloc_z rfl 24 rfl #[.slice none 0 0] 1 z_rib ?_) | (with_reducible refine wpList_alloc_z rfl 27 rfl #[.slice none 0 0] 1 z_bat ?_))
        go_ret
        exact ⟨rfl, bel_trans HB.out.1 hs12⟩
    · have e2 : batE U = 210 := if_neg h2
      rw [e2]
      obtain rfl := hz2 h2
      clear hz1 hz2 h2 e2
      go_wp2_with fail
      go_ret
      exact ⟨rfl, bel_trans HB.out.1 h18⟩
  · have e1 : ribE L = 211 := if_neg h1
    rw [e1]
    obtain rfl := hx2 h1
    clear hx1 hx2 h1 e1
    go_wp2_with fail
    go_ret
    exact ⟨rfl, bel_trans HB.out.1 hb14⟩
end Go.Proofs.YtikdgbmdepplgaaGreatDoor
