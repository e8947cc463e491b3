/-
  The walk of the law of what is put. Nothing here is a statement of the document.
-/
import Derived.Test.YtkoenconjldojaaShPb
import Derived.Test.YtkoenconjldojaaShY
import Derived.Test.YtkoenconjldojaaShWb
namespace Go.Proofs.Ytkoenconjldojaa
open Go.RowKit Go.Shelf
set_option linter.unusedVariables false
set_option linter.unusedSimpArgs false
set_option maxRecDepth 100000
attribute [local go_sem 10000] gtU_rule leU_rule ltU_rule geU_rule adU_rule sbU_rule mxU_rule mnU_rule mnI_rule
attribute [local go_sem ↓] load_at_rule store_at_rule load_la_rule store_la_rule load_bs_rule store_bs_rule load_vw_rule store_vw_rule load_jo_rule store_jo_rule load_ms_rule store_ms_rule load_ch_rule store_ch_rule load_hd_rule store_hd_rule load_rb_rule store_rb_rule load_en_rule store_en_rule
attribute [local go_sem ↓] build_hd_rule build_rb_rule build_en_rule build_at_rule build_jo_rule upbuild_rule upapp_rule robuild_rule roapp_rule enbuild_rule enapp_rule build_vw_rule eq_at_rule eq_la_rule build_ch_rule build_ms_rule
theorem fresh_alloc {P : Program} {ty : TypeId} {zs : Array Value} {k : Nat} (hz : (P.info? ty).map (fun i => (i.zero, i.size)) = some (some (.agg zs), k)) {o : Oper} (ho : o.op = .alloc ty) (ev : Operand → Value) (w : World) : (execOp ev o).run P w = .ok (.value (.pointer (some ⟨w.heap.size, 0, none⟩))) (w.alloc (.cells zs ty)) := by
  have hrun := (zero_of_info hz).1 w
  simp [execOp, ho, hrun, newVar, newRow, newObj, Value.cells, Result.andThen, go_sem]
  rfl
theorem Vw.Of.turnM {v x : Vw} {y : Ms} {X Y : World} {B g : Nat} (h : v.Of x X B) (hb : Blk X g 47 y.cs) (k : Kept [g] X Y) : v.Of x Y B := by
  have hE : ∀ q t cs, t = 92 ∨ t = 106 → Blk X q t cs → Blk Y q t cs := fun q t cs ht h9 => h9.kept k (fun hm => by
    obtain rfl : q = g := by simpa using hm
    refine (Blk.ne h9 hb ?_) rfl
    rcases ht with rfl | rfl <;> decide)
  exact ⟨h.v, ⟨h.b.i, h.b.e, h.b.l, h.b.R, h.b.n, h.b.at'.turn2 hb (no_byte_ms y) k⟩, h.n, h.L, h.at'.turn2 hE⟩
theorem Ms.Of.turnV {v x : Ms} {y : Vw} {X Y : World} {B g : Nat} (h : v.Of x X B) (hb : Blk X g 36 y.cs) (k : Kept [g] X Y) : v.Of x Y B := by
  have hE : ∀ q t cs, t = 92 ∨ t = 106 → Blk X q t cs → Blk Y q t cs := fun q t cs ht h9 => h9.kept k (fun hm => by
    obtain rfl : q = g := by simpa using hm
    refine (Blk.ne h9 hb ?_) rfl
    rcases ht with rfl | rfl <;> decide)
  exact ⟨h.f, h.ub, ⟨h.b.i, h.b.e, h.b.l, h.b.R, h.b.n, h.b.at'.turn2 hb (no_byte_vw y) k⟩, h.n, h.L, h.at'.turn2 hE⟩
theorem two_vm {x : Vw} {y : Ms} {w : World} {B g4 g5 : Nat} {v : Vw} {m : Ms} (h4 : Blk w g4 36 Vw.zero.cs) (h5 : Blk w g5 47 Ms.zero.cs) (hv : v.Of x w B) (hm : m.Of y w B) :
    ∃ W1 W2, (storeSem 36 (.pointer (some ⟨g4, 0, none⟩)) (.agg v.cs)).run Try.prog w = .ok () W1 ∧ (storeSem 47 (.pointer (some ⟨g5, 0, none⟩)) (.agg m.cs)).run Try.prog W1 = .ok () W2 ∧ Blk W2 g4 36 v.cs ∧ v.Of x W2 B ∧ Blk W2 g5 47 m.cs ∧ m.Of y W2 B ∧ Kept [g4, g5] w W2 := by
  have hne : g4 ≠ g5 := Blk.ne h4 h5 (by decide)
  have s1 := st_vw (b2 := v) h4
  have k1 : Kept [g4] w (w.setRow g4 v.cs) := (Kept.refl _ _).setRow (.inl (by simp)) _
  have c4 := h4.row v.cs
  have hb := h5.kept k1 (by simp; exact fun e => hne e.symm)
  have s2 := st_ms (b2 := m) hb
  have k2 : Kept [g5] (w.setRow g4 v.cs) ((w.setRow g4 v.cs).setRow g5 m.cs) := (Kept.refl _ _).setRow (.inl (by simp)) _
  exact ⟨_, _, s1, s2, c4.kept k2 (by simpa using hne), (hv.turn h4 k1).turnM hb k2, hb.row m.cs, (hm.turnV h4 k1).turn hb k2, ((Kept.refl _ _).setRow (.inl (by simp)) _).setRow (.inl (by simp)) _⟩
def twB (x : Vw) (y : Ms) (B : Nat) (i : Nat) (u : Value) (w : World) : Prop :=
  (i = 1 → ∃ v : Vw, u = .agg v.cs ∧ v.Of x w B) ∧ (i = 3 → ∃ v : Ms, u = .agg v.cs ∧ v.Of y w B) ∧ (i = 4 → ∃ g, u = .pointer (some ⟨g, 0, none⟩) ∧ B ≤ g ∧ Blk w g 36 Vw.zero.cs) ∧ (i = 5 → ∃ g, u = .pointer (some ⟨g, 0, none⟩) ∧ B ≤ g ∧ Blk w g 47 Ms.zero.cs)
theorem twB.later {x : Vw} {y : Ms} {B i : Nat} {u : Value} {w w' : World} (h : twB x y B i u w) (k : Below w.heap.size w w') : twB x y B i u w' :=
  ⟨fun e => by obtain ⟨v, h1, h2⟩ := h.1 e; exact ⟨v, h1, h2.later k⟩, fun e => by obtain ⟨v, h1, h2⟩ := h.2.1 e; exact ⟨v, h1, h2.later k⟩, fun e => by obtain ⟨g, h1, h2, h3⟩ := h.2.2.1 e; exact ⟨g, h1, h2, h3.later k⟩, fun e => by obtain ⟨g, h1, h2, h3⟩ := h.2.2.2 e; exact ⟨g, h1, h2, h3.later k⟩⟩
/-- What accepting comes to, as the law looks at it. -/
theorem acc_two {v : Vw} {m : Ms} {c : Ch} {er : Int} (h : AcceptR v m c er) (hl : c.L.length = c.n) : (c.n = 0 ∧ c.ix = 0 ∧ (er ≠ 0 ∨ er = 0 ∧ c.ok = false)) ∨ (er = 0 ∧ c.ok = true ∧ v.ok = true ∧ m.off = true ∧ ¬ v.z < m.pi ∧ ¬ ((placeR v m.pi).2.2 = true ∧ (placeR v m.pi).2.1 ≠ m.pe) ∧ FitR v m c) := by
  rcases h with ⟨_, rfl, rfl⟩ | ⟨_, _, rfl, rfl⟩ | ⟨h1, h2, rfl, h3⟩
  · exact .inl ⟨rfl, rfl, .inl (by decide)⟩
  · exact .inl ⟨rfl, rfl, .inl (by decide)⟩
  · rcases h3 with ⟨_, rfl⟩ | ⟨_, _, rfl⟩ | ⟨k1, k2, k3⟩
    · exact .inl ⟨rfl, rfl, .inr ⟨rfl, rfl⟩⟩
    · exact .inl ⟨rfl, rfl, .inr ⟨rfl, rfl⟩⟩
    · exact .inr ⟨rfl, k3.1, h1, h2, k1, k2, k3⟩
theorem put_any (v : Vw) (m : Ms) (c : Ch) (w : World) (hL : EnIn w 0 v.a v.n v.c v.L) (hm : m.L.length = m.n) (hC : EnIn w 0 c.a c.n c.c c.L) (hv : v.ok = true) (hmn : m.n ≤ 8) (h1 : ¬ v.z < m.pi) (hc : FitR v m c) :
    Calls Try.prog 29 #[.agg v.cs, .agg c.cs] w fun e w' => ∃ u : Vw, e = .returned (.tuple #[.agg u.cs, .bool true]) ∧ Behind v c u ∧ EnIn w' 0 u.a u.n u.c u.L ∧ Below w.heap.size w w' := by
  unfold Vw.ok at hv
  simp only [Bool.and_eq_true, decide_eq_true_eq] at hv
  by_cases h0 : c.ix = 0
  · have hn : c.n = 0 := by
      rcases hc.2.2 with ⟨_, p2, _⟩ | ⟨k, _, _, _, p4, _⟩
      · exact p2
      · omega
    exact put_none v c w hL hC hv.1 hv.2 (by omega) h0 hn
  · obtain ⟨q, h2, h3, h4, h5, h6, h7, _⟩ := fit_at h1 hc h0
    exact put_some v c w hL hC hv.1 hv.2 (by omega) (by omega) (by omega) (by omega)
set_option maxHeartbeats 16000000 in
theorem shipputs_walk (x : Vw) (y : Ms) (w : World) (hx : x.In w 0) (hy : y.In w 0) : Calls Try.prog 7 #[.agg x.cs, .agg y.cs] w fun e w' => e = .returned (.bool true) ∧ Below w.heap.size w w' := by
  obtain ⟨W1, hW1⟩ : ∃ W1, w.alloc (.cells x.cs 36) = W1 := ⟨_, rfl⟩
  have hb1 : Below w.heap.size w W1 := by rw [← hW1]; exact below_alloc w _
  have b1 : Blk W1 w.heap.size 36 x.cs := by rw [← hW1]; exact Blk.new w _ _
  obtain ⟨W2, hW2⟩ : ∃ W2, W1.alloc (.cells y.cs 47) = W2 := ⟨_, rfl⟩
  have hb12 : Below W1.heap.size W1 W2 := by rw [← hW2]; exact below_alloc W1 _
  have b2 : Blk W2 W1.heap.size 47 y.cs := by rw [← hW2]; exact Blk.new W1 _ _
  have hb02 := bel_trans hb1 hb12
  have HI := Lib.hid (And.intro hb02 (And.intro (b1.later hb12) (And.intro b2 (And.intro hx hy))))
  clear hb1 b1 hb12 b2 hb02 hx hy
  go_enter Try.func7, Try.ntmps7
  go_wp2_with fail
  refine (wakes_any W2).mono ?_
  rintro e W3 ⟨rfl, hb3⟩
  have HS2 := Lib.hid (And.intro (HI.out.2.1.later hb3) (And.intro (HI.out.2.2.1.later hb3) (And.intro (HI.out.2.2.2.1.later (bel_trans HI.out.1 hb3)) (HI.out.2.2.2.2.later (bel_trans HI.out.1 hb3)))))
  have H2 := Lib.hid (bel_trans HI.out.1 hb3)
  clear hb3
  have LD1 : ∀ w', Below W3.heap.size W3 w' → (loadSem 36 (.pointer (some ⟨w.heap.size, 0, none⟩))).run Try.prog w' = .ok (.agg x.cs) w' := fun w' k => ld_vw (HS2.out.1.later k)
  have LD2 : ∀ w', Below W3.heap.size W3 w' → (loadSem 47 (.pointer (some ⟨W1.heap.size, 0, none⟩))).run Try.prog w' = .ok (.agg y.cs) w' := fun w' k => ld_ms (HS2.out.2.1.later k)
  have h00 : Below W3.heap.size W3 W3.drew := bel_drew (Below.refl _ _)
  have do1 : ∀ w', Below W3.heap.size W3 w' → Calls Try.prog 9 #[.agg x.cs] w' fun e w2 => ∃ v, e = .returned v ∧ Below W3.heap.size W3 w2 ∧ (∀ d u, d ≠ 1 → twB x y W3.heap.size d u w' → twB x y W3.heap.size d u w2) ∧ twB x y W3.heap.size 1 v w2 := fun w' k => by
    refine (view_any x w' (HS2.out.2.2.1.later k)).mono ?_
    rintro e W4 ⟨v, rfl, hO, hb4⟩
    exact ⟨_, rfl, bel_trans k hb4, fun d u _ q => q.later hb4, fun _ => ⟨v, rfl, hO.less k.size⟩, fun e => by omega, fun e => by omega, fun e => by omega⟩
  have do3 : ∀ w', Below W3.heap.size W3 w' → Calls Try.prog 19 #[.agg y.cs] w' fun e w2 => ∃ v, e = .returned v ∧ Below W3.heap.size W3 w2 ∧ (∀ d u, d ≠ 3 → twB x y W3.heap.size d u w' → twB x y W3.heap.size d u w2) ∧ twB x y W3.heap.size 3 v w2 := fun w' k => by
    refine (msg_any y w' (HS2.out.2.2.2.later k)).mono ?_
    rintro e W4 ⟨v, rfl, hO, hb4⟩
    exact ⟨_, rfl, bel_trans k hb4, fun d u _ q => q.later hb4, fun e => by omega, fun _ => ⟨v, rfl, hO.less k.size⟩, fun e => by omega, fun e => by omega⟩
  have hne : ∀ i, [1, 3, 4, 5].contains i = true → ∃ v w, twB x y W3.heap.size i v w := by
    intro i hi
    have hi2 : i = 1 ∨ i = 3 ∨ i = 4 ∨ i = 5 := by simpa using hi
    rcases hi2 with rfl | rfl | rfl | rfl
    · obtain ⟨e, w', fr, ⟨v, _, _, _, h5⟩, _⟩ := do1 W3.drew h00 []; exact ⟨v, w', h5⟩
    · obtain ⟨e, w', fr, ⟨v, _, _, _, h5⟩, _⟩ := do3 W3.drew h00 []; exact ⟨v, w', h5⟩
    · exact ⟨.pointer (some ⟨W3.heap.size, 0, none⟩), W3.alloc (.cells Vw.zero.cs 36), ⟨fun e => by omega, fun e => by omega, fun _ => ⟨W3.heap.size, rfl, Nat.le_refl _, Blk.new W3 _ _⟩, fun e => by omega⟩⟩
    · exact ⟨.pointer (some ⟨W3.heap.size, 0, none⟩), W3.alloc (.cells Ms.zero.cs 47), ⟨fun e => by omega, fun e => by omega, fun e => by omega, fun _ => ⟨W3.heap.size, rfl, Nat.le_refl _, Blk.new W3 _ _⟩⟩⟩
  go_upto_region 3 with fail
  refine wp_region_linU (fun w' => Below W3.heap.size W3 w') (fun _ _ => True) (twB x y W3.heap.size) [1, 3, 4, 5] [6, 7] [] [0, 2, 1, 3, 4, 5] [6, 7] (by kernel_rfl) (by kernel_rfl) hne h00 (fun _ => trivial) ?_
  (repeat (first | (refine linU_off rfl rfl (by rfl) ?_; (try simp only [Act.put, List.getElem_toArray, List.getElem_cons_zero, List.getElem_cons_succ, List.setIfInBounds_toArray, List.set_cons_zero, List.set_cons_succ])) | (refine linU_op (v := ?_) rfl rfl rfl (by rfl) (fun w9 hS9 => ?_) ?_; rotate_left; (focus (((try dsimp only at hS9); have z1 := LD1 w9 hS9; have z2 := LD2 w9 hS9; go_simp; (try go_bits)) <;> with_reducible rfl)); (try simp only [Act.put, List.getElem_toArray, List.getElem_cons_zero, List.getElem_cons_succ, List.setIfInBounds_toArray, List.set_cons_zero, List.set_cons_succ]))))
  refine linU_call (f := 9) (args := #[.agg x.cs]) rfl rfl (by rfl) rfl rfl (enters_of Try.func9 (by kernel_rfl) rfl) (by simp [Act.eval]) (fun w9 hS9 _ _ => (do1 w9 hS9).mono (fun e w' ⟨v, q1, q2, q3, q4⟩ => ⟨v, q1, q2, fun _ _ _ => trivial, q3, q4⟩)) (fun u1 hu1 => ?_)
  (try simp only [Act.put, List.getElem_toArray, List.getElem_cons_zero, List.getElem_cons_succ, List.setIfInBounds_toArray, List.set_cons_zero, List.set_cons_succ])
  refine linU_call (f := 19) (args := #[.agg y.cs]) rfl rfl (by rfl) rfl rfl (enters_of Try.func19 (by kernel_rfl) rfl) (by simp [Act.eval]) (fun w9 hS9 _ _ => (do3 w9 hS9).mono (fun e w' ⟨v, q1, q2, q3, q4⟩ => ⟨v, q1, q2, fun _ _ _ => trivial, q3, q4⟩)) (fun u3 hu3 => ?_)
  (try simp only [Act.put, List.getElem_toArray, List.getElem_cons_zero, List.getElem_cons_succ, List.setIfInBounds_toArray, List.set_cons_zero, List.set_cons_succ])
  refine linU_do rfl rfl (by rfl) (fun w9 hS9 _ _ => ⟨.pointer (some ⟨w9.heap.size, 0, none⟩), w9.alloc (.cells Vw.zero.cs 36), fresh_alloc z_vw rfl _ _, bel_trans hS9 (below_alloc w9 _), fun _ _ _ => trivial, fun d u _ q => q.later (below_alloc w9 _), fun e => (by omega), fun e => (by omega), fun _ => ⟨w9.heap.size, rfl, hS9.size, Blk.new w9 _ _⟩, fun e => (by omega)⟩) (fun u4 hu4 => ?_)
  (try simp only [Act.put, List.getElem_toArray, List.getElem_cons_zero, List.getElem_cons_succ, List.setIfInBounds_toArray, List.set_cons_zero, List.set_cons_succ])
  refine linU_do rfl rfl (by rfl) (fun w9 hS9 _ _ => ⟨.pointer (some ⟨w9.heap.size, 0, none⟩), w9.alloc (.cells Ms.zero.cs 47), fresh_alloc z_ms rfl _ _, bel_trans hS9 (below_alloc w9 _), fun _ _ _ => trivial, fun d u _ q => q.later (below_alloc w9 _), fun e => (by omega), fun e => (by omega), fun e => (by omega), fun _ => ⟨w9.heap.size, rfl, hS9.size, Blk.new w9 _ _⟩⟩) (fun u5 hu5 => ?_)
  (try simp only [Act.put, List.getElem_toArray, List.getElem_cons_zero, List.getElem_cons_succ, List.setIfInBounds_toArray, List.set_cons_zero, List.set_cons_succ])
  refine linU_nil (fun w9 hS9 hF9 => ?_)
  obtain ⟨v, rfl, hOv⟩ := (hF9 (1, u1) (by simp)).1 rfl
  obtain ⟨m, rfl, hOm⟩ := (hF9 (3, u3) (by simp)).2.1 rfl
  obtain ⟨g4, rfl, hB4, c4⟩ := (hF9 (4, u4) (by simp)).2.2.1 rfl
  obtain ⟨g5, rfl, hB5, c5⟩ := (hF9 (5, u5) (by simp)).2.2.2 rfl
  obtain ⟨Wa, W4, s1, s2, d4, O4, d5, O5, kk⟩ := two_vm c4 c5 hOv hOm
  have hbb : Below W3.heap.size W3 W4 := hS9.trans (kk.below (fun i hi => by simp at hi; omega) hS9.size)
  clear hF9 hOv hOm c4 c5 kk hu1 hu3 hu4 hu5 hne do1 do3 h00
  refine linX_store (w' := Wa) rfl rfl (by rfl) (by go_simp; done) trivial ?_
  (try simp only [Act.put, List.getElem_toArray, List.getElem_cons_zero, List.getElem_cons_succ, List.setIfInBounds_toArray, List.set_cons_zero, List.set_cons_succ])
  refine linX_store (w' := W4) rfl rfl (by rfl) (by go_simp; done) trivial ?_
  (try simp only [Act.put, List.getElem_toArray, List.getElem_cons_zero, List.getElem_cons_succ, List.setIfInBounds_toArray, List.set_cons_zero, List.set_cons_succ])
  refine linX_nil ?_
  clear s1 s2 LD1 LD2 hS9
  have H4 := Lib.hid (And.intro (bel_trans H2.out hbb) (And.intro d4 (And.intro d5 (And.intro O4 O5))))
  have l1 := ld_vw d4
  have l2 := ld_ms d5
  have HA1 := accept_any v m W4 O4.lies.2 O5.lies.1 O5.lim
  clear d4 O4 d5 O5 hbb
  go_wp2_with fail
  refine HA1.mono ?_
  rintro e WA ⟨c, er, rfl, hA, hO, hbA⟩
  have SCH := st_ch (b2 := c) (Blk.new WA 67 Ch.zero.cs)
  rw [World.setRow_alloc_new] at SCH
  obtain ⟨WC, hWC⟩ : ∃ WC, WA.alloc (.cells c.cs 67) = WC := ⟨_, rfl⟩
  rw [hWC] at SCH
  have hbAC : Below WA.heap.size WA WC := by rw [← hWC]; exact below_alloc WA _
  have cC : Blk WC WA.heap.size 67 c.cs := by rw [← hWC]; exact Blk.new WA _ _
  have hbC := bel_trans hbA hbAC
  have hcin := (hO.upon hbAC).into.less (Nat.zero_le _)
  have e0 : WC.cell? ⟨WA.heap.size, 0, none⟩ = some (.bool c.ok) := cC.cell 0
  have e1 : WC.cell? ⟨WA.heap.size, 1, none⟩ = some (.int .u64 (c.ix : Int)) := cC.cell 1
  have e2 : WC.cell? ⟨WA.heap.size, 2, none⟩ = some (.slice c.a c.n c.c) := cC.cell 2
  have HC := Lib.hid (And.intro hbC (And.intro cC hcin))
  have hacc := acc_two hA hcin.1
  clear hO hbA hbAC cC hbC hcin hA hWC
  rcases hacc with ⟨hn0, hix0, her⟩ | ⟨rfl, hok, hvok, hoff, h1, h2, hfit⟩
  · rw [hn0] at e2
    rw [hix0] at e1
    have HE := Lib.hid (bel_trans H4.out.1 HC.out.1)
    clear hn0 hix0
    rcases her with her | ⟨rfl, hok⟩
    · have d1 : (er != 0) = true := by simp [her]
      have d2 : ¬ er = 0 := her
      clear her
      go_wp2_with (with_reducible refine wpList_alloc_z rfl 67 rfl Ch.zero.cs 4 z_ch ?_)
      go_ret
      exact ⟨rfl, HE.out⟩
    · rw [hok] at e0
      clear hok
      go_wp2_with (with_reducible refine wpList_alloc_z rfl 67 rfl Ch.zero.cs 4 z_ch ?_)
      go_ret
      exact ⟨rfl, HE.out⟩
  · have LVC := ld_vw (H4.out.2.1.later HC.out.1)
    have LCC := ld_ch HC.out.2.1
    have hof := hoff
    unfold Ms.off at hof
    simp only [Bool.and_eq_true, decide_eq_true_eq] at hof
    have HPP := put_any v m c WC (H4.out.2.2.2.1.lies.2.later HC.out.1) H4.out.2.2.2.2.lies.1.1 HC.out.2.2 hvok hof.2.1 h1 hfit
    have HFIT := Lib.hid (And.intro hvok (And.intro hoff (And.intro h1 (And.intro h2 hfit))))
    have HOF := Lib.hid hof
    rw [hok] at e0
    clear hok hvok hoff h1 h2 hfit hof
    go_wp2_with (with_reducible refine wpList_alloc_z rfl 67 rfl Ch.zero.cs 4 z_ch ?_)
    refine HPP.mono ?_
    rintro e WP ⟨u, rfl, hbeh, huin, hbP⟩
    have hvl : v.L.length = v.n := H4.out.2.2.2.1.lies.2.1
    have hml : m.L.length = m.n := H4.out.2.2.2.2.lies.1.1
    obtain ⟨hub, hul, huz⟩ := behind_z hvl hml HFIT.out.2.2.1 HFIT.out.2.2.2.2 hbeh
    have hth := behind_there hvl hml HFIT.out.2.2.1 HFIT.out.2.2.2.2 hbeh
    have hah := behind_ahead hvl HFIT.out.2.2.1 HFIT.out.2.2.2.2 hbeh
    have hag := fun d => behind_again (d := d) hvl hml HFIT.out.2.2.1 HFIT.out.2.2.2.1 HFIT.out.2.2.2.2 hbeh
    have hvb : v.b.i ≤ 4611686018427387904 ∧ v.n ≤ 40 := by
      have h9 := HFIT.out.1
      unfold Vw.ok at h9
      simpa using h9
    have hbi : u.b.i = v.b.i := by rw [hub]
    have hz1 : m.pi ≤ v.z := by have := HFIT.out.2.2.1; omega
    have huzz : m.pi ≤ u.z ∧ u.z ≤ 5000000000000000000 := by
      rcases huz with rfl | h9
      · exact ⟨hz1, by unfold Vw.z; omega⟩
      · have := HOF.out.2; omega
    have HU := Lib.hid (And.intro hbi (And.intro hul (And.intro huzz (And.intro hth (And.intro hah (And.intro hag (And.intro hvb (And.intro hml (And.intro hvl hz1)))))))))
    have SVU := st_vw (b2 := u) (Blk.new WP 36 Vw.zero.cs)
    rw [World.setRow_alloc_new] at SVU
    obtain ⟨WQ, hWQ⟩ : ∃ WQ, WP.alloc (.cells u.cs 36) = WQ := ⟨_, rfl⟩
    rw [hWQ] at SVU
    have hbPQ : Below WP.heap.size WP WQ := by rw [← hWQ]; exact below_alloc WP _
    have uQ : Blk WQ WP.heap.size 36 u.cs := by rw [← hWQ]; exact Blk.new WP _ _
    have hbCQ := bel_trans hbP hbPQ
    have HF := Lib.hid (show ∀ w', Below WQ.heap.size WQ w' → Below w.heap.size w w' ∧ Blk w' g4 36 v.cs ∧ Blk w' g5 47 m.cs ∧ Blk w' WA.heap.size 67 c.cs ∧ Blk w' WP.heap.size 36 u.cs ∧ EnIn w' 0 v.a v.n v.c v.L ∧ EnIn w' 0 m.a m.n m.c m.L ∧ EnIn w' 0 u.a u.n u.c u.L from fun w' k =>
      have kC := bel_trans hbCQ k
      have k4 := bel_trans HC.out.1 kC
      ⟨bel_trans H4.out.1 k4, H4.out.2.1.later k4, H4.out.2.2.1.later k4, HC.out.2.1.later kC, uQ.later k, H4.out.2.2.2.1.lies.2.later k4, H4.out.2.2.2.2.lies.1.later k4, (huin.later hbPQ).later k⟩)
    have HLM := Lib.hid H4.out.2.2.2.2.lim
    clear hvl hml hub hul huz hth hah hag hvb hbi hz1 huzz hbPQ uQ hbCQ huin hbP hbeh hWQ
    obtain ⟨hh, hhv⟩ : ∃ hh, c.hv = hh := ⟨_, rfl⟩
    have f0 : adU (m.pi : Int) (m.n : Int) = (hh : Int) := by rw [← hhv, HFIT.out.2.2.2.2.2.1]; exact adU_nat (by have := HOF.out; omega)
    have f1 : IntKind.u64.wrap (m.n : Int) = (m.n : Int) := by rw [IntKind.wrap_u64]; have := HOF.out; omega
    have e3 : WQ.cell? ⟨WA.heap.size, 3, none⟩ = some (.int .u64 (hh : Int)) := by rw [← hhv]; exact (HF.out WQ (Below.refl _ _)).2.2.2.1.cell 3
    have k4 : WQ.cell? ⟨g5, 4, none⟩ = some (.int .u64 (m.pi : Int)) := (HF.out WQ (Below.refl _ _)).2.2.1.cell 4
    have k6 : WQ.cell? ⟨g5, 6, none⟩ = some (.slice m.a m.n m.c) := (HF.out WQ (Below.refl _ _)).2.2.1.cell 6
    have HHV := Lib.hid hhv
    have dhh : (hh != hh) = false := by simp
    have hmn8 : m.n ≤ 8 := HOF.out.2.1
    have hpi : m.pi ≤ 4611686018427387904 := HOF.out.2.2
    clear hhv
    go_wp2_with (with_reducible refine wpList_alloc_z rfl 36 rfl Vw.zero.cs 11 z_vw ?_)
    go_loopw [68] (fun i wr => ∃ q : Nat, q ≤ m.n ∧ i = .int .i64 (q : Int) ∧ Below WQ.heap.size WQ wr) (fun i _ => m.n - (intOf i).toNat)
    case atStart => exact ⟨0, Nat.zero_le _, rfl, Below.refl _ _⟩
    case round =>
      obtain ⟨q, hq, rfl, hbr⟩ := hrel
      by_cases hlt : q < m.n
      · have hql : q < m.L.length := by have := HU.out.2.2.2.2.2.2.2.1; omega
        have hMi := (HF.out wr hbr).2.2.2.2.2.2.1
        obtain ⟨g, o, ha, hrow⟩ := hMi.2.1.spot hql
        rw [ha]
        have LE : (loadSem 92 (.pointer (some ⟨g, o + q * 4, none⟩))).run Try.prog wr = .ok (.agg (eng m.L q).cs) wr := hrow.load hql
        have LE2 : (loadSem 92 (.pointer (some ⟨g, o + q * 4, none⟩))).run Try.prog (wr.alloc (.cells En.zero.cs 92)) = .ok (.agg (eng m.L q).cs) (wr.alloc (.cells En.zero.cs 92)) := (hrow.later (below_alloc wr (.cells En.zero.cs 92))).load hql
        have hUx : UpIn wr 0 (eng m.L q).a (eng m.L q).n (eng m.L q).c (eng m.L q).U := hMi.2.2.2.2.2.2 _ (eng_mem hql)
        have hthq := HU.out.2.2.2.1 q hlt
        unfold there at hthq
        obtain ⟨x9, hx⟩ : ∃ x9, eng m.L q = x9 := ⟨_, rfl⟩
        rw [hx] at LE LE2 hUx hthq
        have SE := st_en (q := x9) (Blk.new wr 92 En.zero.cs)
        rw [World.setRow_alloc_new] at SE
        obtain ⟨Wx, hWx⟩ : ∃ Wx, wr.alloc (.cells x9.cs 92) = Wx := ⟨_, rfl⟩
        rw [hWx] at SE
        have hbx : Below wr.heap.size wr Wx := by rw [← hWx]; exact below_alloc wr _
        have bx : Blk Wx wr.heap.size 92 x9.cs := by rw [← hWx]; exact Blk.new wr _ _
        obtain ⟨s, hs⟩ : ∃ s, m.pi + q = s := ⟨_, rfl⟩
        rw [hs] at hthq
        have d0 : adU (m.pi : Int) (q : Int) = (s : Int) := by rw [← hs]; exact adU_nat (by omega)
        have d2 : IntKind.u64.wrap (q : Int) = (q : Int) := by rw [IntKind.wrap_u64]; omega
        have d3 := geU_nat s u.b.i
        have HX := Lib.hid (And.intro (bel_trans hbr hbx) (And.intro bx (hUx.later hbx)))
        have kx4 : Wx.cell? ⟨g5, 4, none⟩ = some (.int .u64 (m.pi : Int)) := (HF.out Wx HX.out.1).2.2.1.cell 4
        have hS0 : Below Wx.heap.size Wx Wx.drew := bel_drew (Below.refl _ _)
        have hTf : ∀ w', Below Wx.heap.size Wx w' → (loadSem 92 (.pointer (some ⟨wr.heap.size, 0, none⟩))).run Try.prog w' = .ok (.agg x9.cs) w' ∧ w'.cell? ⟨WP.heap.size, 10, none⟩ = some (.slice u.a u.n u.c) ∧ w'.cell? ⟨WP.heap.size, 1, none⟩ = some (.int .u64 (u.b.i : Int)) ∧ (loadSem 36 (.pointer (some ⟨WP.heap.size, 0, none⟩))).run Try.prog w' = .ok (.agg u.cs) w' := fun w' k =>
          have h9 := (HF.out w' (bel_trans HX.out.1 k)).2.2.2.2.1
          ⟨en_r (HX.out.2.1.later k) w' (Below.refl _ _), h9.cell 10, h9.cell 1, ld_vw h9⟩
        clear hbr hrow hUx hx hbx bx ha hs hMi
        by_cases hb : u.b.i ≤ s
        · rw [decide_eq_true hb] at d3
          obtain ⟨t1, t2⟩ := of_decide_eq_true (hthq hb)
          obtain ⟨kk, hkk⟩ : ∃ kk, s - u.b.i = kk := ⟨_, rfl⟩
          rw [hkk] at t2
          have d4 := geU_nat s u.z
          rw [decide_eq_false (show ¬ u.z ≤ s by omega)] at d4
          have d5 : sbU (s : Int) (u.b.i : Int) = (kk : Int) := by rw [← hkk]; exact sbU_nat hb (by have := HU.out.2.2.1.2; omega)
          have hzu : u.z = u.b.i + u.n := rfl
          have hkn : kk < u.n := by omega
          have hkl : kk < u.L.length := by rw [HU.out.2.1]; exact hkn
          have hui := (HF.out Wx HX.out.1).2.2.2.2.2.2.2
          obtain ⟨g2, o2, ha2, hrow2⟩ := hui.2.1.spot hkl
          have hUk := hui.2.2.2.2.2.2 _ (eng_mem hkl)
          have L4 : ∀ w', Below Wx.heap.size Wx w' → (loadSem 92 (.pointer (some ⟨g2, o2 + kk * 4, none⟩))).run Try.prog w' = .ok (.agg (eng u.L kk).cs) w' := fun w' k => (hrow2.later k).load hkl
          rw [ha2] at hTf
          obtain ⟨y9, hy9⟩ : ∃ y9, eng u.L kk = y9 := ⟨_, rfl⟩
          rw [hy9] at L4 t2 hUk
          have HLA := llast_any u Wx.drew (by have := HU.out.2.2.1.2; omega)
          have HSM : ∀ w', Below Wx.heap.size Wx w' → Calls Try.prog 31 #[.agg y9.cs, .agg x9.cs] w' fun e w2 => e = .returned (.bool true) ∧ Below w'.heap.size w' w2 := fun w' k => by
            have h9 := lsame_any y9 x9 w' (hUk.later k) (HX.out.2.2.later k)
            rw [decide_eq_true t2] at h9
            exact h9
          clear hui hrow2 hUk ha2 hkk hzu t1 t2 hb hy9 hkl hthq
          go_upto_region 14 with (with_reducible refine wpList_alloc_z rfl 92 rfl En.zero.cs 4 z_en ?_)
          refine wp_region_linY (fun w' => Below Wx.heap.size Wx w') [9, 23] [0, 1, 2, 3, 4, 5, 6, 7, 8, 9, 10, 11, 12, 13, 14, 15, 16, 17, 18, 19, 20, 21, 22, 23, 24, 25, 26] (by kernel_rfl) (by kernel_rfl) hS0 ?_
          (repeat (first | (refine linX_off rfl rfl (by rfl) ?_; (try simp only [Act.put, List.getElem_toArray, List.getElem_cons_zero, List.getElem_cons_succ, List.setIfInBounds_toArray, List.set_cons_zero, List.set_cons_succ])) | (refine linX_op (v := ?_) rfl rfl (by rfl) (fun w9 hS9 => ?_) ?_; rotate_left; (focus (((try dsimp only at hS9); obtain ⟨z1, z2, z3, z4⟩ := hTf w9 hS9; have z5 := L4 w9 hS9; go_simp; (try go_bits)) <;> with_reducible rfl)); (try simp only [Act.put, List.getElem_toArray, List.getElem_cons_zero, List.getElem_cons_succ, List.setIfInBounds_toArray, List.set_cons_zero, List.set_cons_succ]))))
          refine linX_call (f := 30) (args := #[.agg u.cs]) rfl rfl (by rfl) rfl rfl (enters_of Try.func30 (by kernel_rfl) rfl) (by simp [Act.eval]) ?_
          refine HLA.mono ?_
          rintro e We ⟨rfl, hbe⟩
          have ke := bel_trans hS0 hbe
          refine ⟨_, rfl, ke, ?_⟩
          (try simp only [Act.put, List.getElem_toArray, List.getElem_cons_zero, List.getElem_cons_succ, List.setIfInBounds_toArray, List.set_cons_zero, List.set_cons_succ])
          (repeat (first | (refine linX_off rfl rfl (by rfl) ?_; (try simp only [Act.put, List.getElem_toArray, List.getElem_cons_zero, List.getElem_cons_succ, List.setIfInBounds_toArray, List.set_cons_zero, List.set_cons_succ])) | (refine linX_op (v := ?_) rfl rfl (by rfl) (fun w9 hS9 => ?_) ?_; rotate_left; (focus (((try dsimp only at hS9); obtain ⟨z1, z2, z3, z4⟩ := hTf w9 hS9; have z5 := L4 w9 hS9; go_simp; (try go_bits)) <;> with_reducible rfl)); (try simp only [Act.put, List.getElem_toArray, List.getElem_cons_zero, List.getElem_cons_succ, List.setIfInBounds_toArray, List.set_cons_zero, List.set_cons_succ]))))
          refine linX_call (f := 31) (args := #[.agg y9.cs, .agg x9.cs]) rfl rfl (by rfl) rfl rfl (enters_of Try.func31 (by kernel_rfl) rfl) (by simp [Act.eval]) ?_
          refine (HSM We ke).mono ?_
          rintro e Wf ⟨rfl, hbf⟩
          have kf := bel_trans ke hbf
          refine ⟨_, rfl, kf, ?_⟩
          (try simp only [Act.put, List.getElem_toArray, List.getElem_cons_zero, List.getElem_cons_succ, List.setIfInBounds_toArray, List.set_cons_zero, List.set_cons_succ])
          (repeat (first | (refine linX_off rfl rfl (by rfl) ?_; (try simp only [Act.put, List.getElem_toArray, List.getElem_cons_zero, List.getElem_cons_succ, List.setIfInBounds_toArray, List.set_cons_zero, List.set_cons_succ])) | (refine linX_op (v := ?_) rfl rfl (by rfl) (fun w9 hS9 => ?_) ?_; rotate_left; (focus (((try dsimp only at hS9); obtain ⟨z1, z2, z3, z4⟩ := hTf w9 hS9; have z5 := L4 w9 hS9; go_simp; (try go_bits)) <;> with_reducible rfl)); (try simp only [Act.put, List.getElem_toArray, List.getElem_cons_zero, List.getElem_cons_succ, List.setIfInBounds_toArray, List.set_cons_zero, List.set_cons_succ]))))
          refine linX_nil ?_
          have HR := Lib.hid (bel_trans HX.out.1 kf)
          clear ke kf hbe hbf hS0 HSM
          go_wp2_with fail
          go_roundw
          case rel => exact ⟨q + 1, by omega, by go_num, HR.out⟩
          case measure => (simp [intOf]; try omega)
        · rw [decide_eq_false hb] at d3
          clear hthq hb
          go_upto_region 14 with (with_reducible refine wpList_alloc_z rfl 92 rfl En.zero.cs 4 z_en ?_)
          refine wp_region_linY (fun w' => Below Wx.heap.size Wx w') [] [0, 1, 2, 3, 4, 5, 6, 7, 8, 9, 10, 11, 12, 13, 14, 15, 16, 17, 18, 19, 20, 21, 22, 23, 24, 25, 26] (by kernel_rfl) (by kernel_rfl) hS0 ?_
          (repeat (first | (refine linX_off rfl rfl (by rfl) ?_; (try simp only [Act.put, List.getElem_toArray, List.getElem_cons_zero, List.getElem_cons_succ, List.setIfInBounds_toArray, List.set_cons_zero, List.set_cons_succ])) | (refine linX_op (v := ?_) rfl rfl (by rfl) (fun w9 hS9 => ?_) ?_; rotate_left; (focus (((try dsimp only at hS9); obtain ⟨z1, z2, z3, z4⟩ := hTf w9 hS9; go_simp; (try go_bits)) <;> with_reducible rfl)); (try simp only [Act.put, List.getElem_toArray, List.getElem_cons_zero, List.getElem_cons_succ, List.setIfInBounds_toArray, List.set_cons_zero, List.set_cons_succ]))))
          refine linX_nil ?_
          have HR := Lib.hid (bel_trans HX.out.1 hS0)
          clear hS0
          go_wp2_with fail
          go_roundw
          case rel => exact ⟨q + 1, by omega, by go_num, HR.out⟩
          case measure => (simp [intOf]; try omega)
      · obtain rfl : q = m.n := by omega
        have HR := Lib.hid hbr
        have ku : wr.cell? ⟨WP.heap.size, 1, none⟩ = some (.int .u64 (u.b.i : Int)) := (HF.out wr hbr).2.2.2.2.1.cell 1
        clear hbr
        go_wp2_with fail
        go_loopw [14] (fun i w9 => ∃ q : Nat, u.b.i ≤ q ∧ q ≤ max u.b.i m.pi ∧ i = .int .u64 (q : Int) ∧ Below WQ.heap.size WQ w9) (fun i _ => m.pi - (intOf i).toNat)
        case atStart => exact ⟨u.b.i, Nat.le_refl _, Nat.le_max_left _ _, rfl, HR.out⟩
        case round =>
          obtain ⟨q, hq1, hq2, rfl, hbs⟩ := hrel
          have km : wr.cell? ⟨g5, 4, none⟩ = some (.int .u64 (m.pi : Int)) := (HF.out wr hbs).2.2.1.cell 4
          have d3 := ltU_nat q m.pi
          by_cases hlt : q < m.pi
          · rw [decide_eq_true hlt] at d3
            have hbi := HU.out.1
            obtain ⟨kk, hkk⟩ : ∃ kk, q - u.b.i = kk := ⟨_, rfl⟩
            have d5 : sbU (q : Int) (u.b.i : Int) = (kk : Int) := by rw [← hkk]; exact sbU_nat hq1 (by omega)
            have hzu : u.z = u.b.i + u.n := rfl
            have hzv : v.z = v.b.i + v.n := rfl
            have hkn : kk < u.n := by have := HU.out.2.2.1.1; omega
            have hkv : kk < v.n := by have := HU.out.2.2.2.2.2.2.2.2.2; omega
            have hkl : kk < u.L.length := by rw [HU.out.2.1]; exact hkn
            have hkl2 : kk < v.L.length := by rw [HU.out.2.2.2.2.2.2.2.2.1]; exact hkv
            have hsame : eng u.L kk = eng v.L kk := by
              have := HU.out.2.2.2.2.1 q (by omega) hlt
              rwa [show q - v.b.i = kk by omega] at this
            have hfw := HF.out wr hbs
            obtain ⟨g2, o2, ha2, hrow2⟩ := hfw.2.2.2.2.2.2.2.2.1.spot hkl
            obtain ⟨g3, o3, ha3, hrow3⟩ := hfw.2.2.2.2.2.1.2.1.spot hkl2
            have hUk := hfw.2.2.2.2.2.2.2.2.2.2.2.2.2 _ (eng_mem hkl)
            have hUk3 := hfw.2.2.2.2.2.1.2.2.2.2.2.2 _ (eng_mem hkl2)
            have L4 : ∀ w', Below wr.heap.size wr w' → (loadSem 92 (.pointer (some ⟨g2, o2 + kk * 4, none⟩))).run Try.prog w' = .ok (.agg (eng u.L kk).cs) w' := fun w' k => (hrow2.later k).load hkl
            have L5 : ∀ w', Below wr.heap.size wr w' → (loadSem 92 (.pointer (some ⟨g3, o3 + kk * 4, none⟩))).run Try.prog w' = .ok (.agg (eng v.L kk).cs) w' := fun w' k => (hrow3.later k).load hkl2
            have hTf : ∀ w', Below wr.heap.size wr w' → w'.cell? ⟨WP.heap.size, 10, none⟩ = some (.slice u.a u.n u.c) ∧ w'.cell? ⟨WP.heap.size, 1, none⟩ = some (.int .u64 (u.b.i : Int)) ∧ w'.cell? ⟨g4, 10, none⟩ = some (.slice v.a v.n v.c) := fun w' k =>
              have h9 := (HF.out w' (bel_trans hbs k))
              ⟨h9.2.2.2.2.1.cell 10, h9.2.2.2.2.1.cell 1, h9.2.1.cell 10⟩
            rw [ha2, ha3] at hTf
            obtain ⟨y9, hy9⟩ : ∃ y9, eng u.L kk = y9 := ⟨_, rfl⟩
            rw [← hsame] at L5 hUk3
            rw [hy9] at L4 L5 hUk hUk3
            have hS0 : Below wr.heap.size wr wr.drew := bel_drew (Below.refl _ _)
            have HSM : Calls Try.prog 31 #[.agg y9.cs, .agg y9.cs] wr.drew fun e w2 => e = .returned (.bool true) ∧ Below wr.drew.heap.size wr.drew w2 := by
              have h9 := lsame_any y9 y9 wr.drew (hUk.later hS0) (hUk3.later hS0)
              rw [decide_eq_true rfl] at h9
              exact h9
            have d6 : adU (q : Int) 1 = ((q + 1 : Nat) : Int) := adU_nat (a := q) (b := 1) (by omega)
            obtain ⟨q9, hq9⟩ : ∃ q9, q + 1 = q9 := ⟨_, rfl⟩
            rw [hq9] at d6
            have HBS := Lib.hid hbs
            have HQ := Lib.hid (show u.b.i ≤ q9 ∧ q9 ≤ max u.b.i m.pi ∧ m.pi - q9 < m.pi - q by omega)
            clear hfw hrow2 hrow3 ha2 ha3 hUk hUk3 hy9 hsame hkl hkl2 hzu hzv hkk hbs hq1 hq2 hbi hq9
            go_upto_region 20 with fail
            refine wp_region_linY (fun w' => Below wr.heap.size wr w') [20] [0, 1, 2, 3, 4, 5, 6, 7, 8, 9, 10, 11, 12, 13, 14, 15, 16, 17, 18, 19, 20, 21] (by kernel_rfl) (by kernel_rfl) hS0 ?_
            (repeat (first | (refine linX_off rfl rfl (by rfl) ?_; (try simp only [Act.put, List.getElem_toArray, List.getElem_cons_zero, List.getElem_cons_succ, List.setIfInBounds_toArray, List.set_cons_zero, List.set_cons_succ])) | (refine linX_op (v := ?_) rfl rfl (by rfl) (fun w8 hS8 => ?_) ?_; rotate_left; (focus (((try dsimp only at hS8); obtain ⟨z2, z3, z6⟩ := hTf w8 hS8; have z4 := L4 w8 hS8; have z5 := L5 w8 hS8; go_simp; (try go_bits)) <;> with_reducible rfl)); (try simp only [Act.put, List.getElem_toArray, List.getElem_cons_zero, List.getElem_cons_succ, List.setIfInBounds_toArray, List.set_cons_zero, List.set_cons_succ]))))
            refine linX_call (f := 31) (args := #[.agg y9.cs, .agg y9.cs]) rfl rfl (by rfl) rfl rfl (enters_of Try.func31 (by kernel_rfl) rfl) (by simp [Act.eval]) ?_
            refine HSM.mono ?_
            rintro e Wf ⟨rfl, hbf⟩
            have kf := bel_trans hS0 hbf
            refine ⟨_, rfl, kf, ?_⟩
            (try simp only [Act.put, List.getElem_toArray, List.getElem_cons_zero, List.getElem_cons_succ, List.setIfInBounds_toArray, List.set_cons_zero, List.set_cons_succ])
            (repeat (first | (refine linX_off rfl rfl (by rfl) ?_; (try simp only [Act.put, List.getElem_toArray, List.getElem_cons_zero, List.getElem_cons_succ, List.setIfInBounds_toArray, List.set_cons_zero, List.set_cons_succ])) | (refine linX_op (v := ?_) rfl rfl (by rfl) (fun w8 hS8 => ?_) ?_; rotate_left; (focus (((try dsimp only at hS8); obtain ⟨z2, z3, z6⟩ := hTf w8 hS8; have z4 := L4 w8 hS8; have z5 := L5 w8 hS8; go_simp; (try go_bits)) <;> with_reducible rfl)); (try simp only [Act.put, List.getElem_toArray, List.getElem_cons_zero, List.getElem_cons_succ, List.setIfInBounds_toArray, List.set_cons_zero, List.set_cons_succ]))))
            refine linX_nil ?_
            have HR2 := Lib.hid (bel_trans HBS.out kf)
            clear kf hbf hS0 HSM
            go_wp2_with fail
            go_roundw
            case rel => exact ⟨q9, HQ.out.1, HQ.out.2.1, rfl, HR2.out⟩
            case measure => (have h9 := HQ.out.2.2; simp [intOf]; try omega)
          · rw [decide_eq_false hlt] at d3
            have hfw := HF.out wr hbs
            have lu := ld_vw hfw.2.2.2.2.1
            have lm := ld_ms hfw.2.2.1
            have HA2 := accept_any u m wr hfw.2.2.2.2.2.2.2 hfw.2.2.2.2.2.2.1 HLM.out
            have HBS := Lib.hid hbs
            clear hfw hbs hq1 hq2 hlt
            go_wp2_with fail
            refine HA2.mono ?_
            rintro e WR ⟨d, er2, rfl, hD, hDo, hbR⟩
            have SCD := st_ch (b2 := d) (Blk.new WR 67 Ch.zero.cs)
            rw [World.setRow_alloc_new] at SCD
            obtain ⟨WT, hWT⟩ : ∃ WT, WR.alloc (.cells d.cs 67) = WT := ⟨_, rfl⟩
            rw [hWT] at SCD
            have hbRT : Below WR.heap.size WR WT := by rw [← hWT]; exact below_alloc WR _
            have dT : Blk WT WR.heap.size 67 d.cs := by rw [← hWT]; exact Blk.new WR _ _
            have hbT := bel_trans HBS.out (bel_trans hbR hbRT)
            have hfT := HF.out WT hbT
            have t0 : WT.cell? ⟨WR.heap.size, 0, none⟩ = some (.bool d.ok) := dT.cell 0
            have t1 : WT.cell? ⟨WR.heap.size, 1, none⟩ = some (.int .u64 (d.ix : Int)) := dT.cell 1
            have t3 : WT.cell? ⟨WR.heap.size, 3, none⟩ = some (.int .u64 (d.hv : Int)) := dT.cell 3
            have c3 : WT.cell? ⟨WA.heap.size, 3, none⟩ = some (.int .u64 (hh : Int)) := by rw [← HHV.out]; exact hfT.2.2.2.1.cell 3
            have u10 : WT.cell? ⟨WP.heap.size, 10, none⟩ = some (.slice u.a u.n u.c) := hfT.2.2.2.2.1.cell 10
            have HE := Lib.hid hfT.1
            have hcase : (er2 ≠ 0 ∧ 40 < u.n) ∨ (er2 = 0 ∧ d.ok = true ∧ d.ix = 0 ∧ d.hv = hh) := by
              rcases hD with ⟨k1, _, k3⟩ | ⟨_, k2, _⟩ | ⟨_, _, k3, k4⟩
              · refine .inl ⟨by rw [k3]; decide, ?_⟩
                have hbv := HU.out.2.2.2.2.2.2.1
                have hbi := HU.out.1
                unfold Vw.ok at k1
                rw [decide_eq_true (show u.b.i ≤ 4611686018427387904 by omega), Bool.true_and] at k1
                have := of_decide_eq_false k1
                omega
              · rw [HFIT.out.2.1] at k2; cases k2
              · obtain ⟨j1, j2, j3⟩ := HU.out.2.2.2.2.2.1 d k4
                exact .inr ⟨k3, j1, j2, j3.trans HHV.out⟩
            clear hD hDo hbR hbRT dT hbT hfT hWT
            rcases hcase with ⟨j1, j2⟩ | ⟨rfl, j1, j2, j3⟩
            · have b1 : (er2 != 0) = true := by simp [j1]
              have b2 : (40 : Int) < (u.n : Int) := by omega
              have b3 : decide ((u.n : Int) > 40) = true := by simp; omega
              clear j1
              go_wp2_with (with_reducible refine wpList_alloc_z rfl 67 rfl Ch.zero.cs 4 z_ch ?_)
              go_ret
              exact ⟨rfl, HE.out⟩
            · rw [j1] at t0
              rw [j2] at t1
              rw [j3] at t3
              clear j1 j2 j3
              go_wp2_with (with_reducible refine wpList_alloc_z rfl 67 rfl Ch.zero.cs 4 z_ch ?_)
              go_ret
              exact ⟨rfl, HE.out⟩
end Go.Proofs.Ytkoenconjldojaa
