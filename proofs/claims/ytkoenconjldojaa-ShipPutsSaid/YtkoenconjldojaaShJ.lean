/-
  The contracts of the law's view and msg: views and messages in memory of their own. Nothing here is a statement of the document.
-/
import Derived.Test.YtkoenconjldojaaShI
import Derived.Test.YtkoenconjldojaaLinV
namespace Go.Proofs.Ytkoenconjldojaa
open Go.RowKit Go.Shelf
set_option linter.unusedVariables false
set_option linter.unusedSimpArgs false
set_option maxRecDepth 100000
attribute [local go_sem 10000] gtU_rule leU_rule ltU_rule geU_rule adU_rule sbU_rule mxU_rule mnU_rule mnI_rule
attribute [local go_sem ↓] load_at_rule store_at_rule load_la_rule store_la_rule load_bs_rule store_bs_rule load_vw_rule store_vw_rule load_jo_rule store_jo_rule load_ms_rule store_ms_rule load_ch_rule store_ch_rule load_hd_rule store_hd_rule load_rb_rule store_rb_rule load_en_rule store_en_rule
attribute [local go_sem ↓] build_hd_rule build_rb_rule build_en_rule build_at_rule build_jo_rule upbuild_rule upapp_rule robuild_rule roapp_rule enbuild_rule enapp_rule
/-- What a base is another one's, cut to its length. -/
structure Bs.Of (y x : Bs) (w : World) (B : Nat) : Prop where
  i : y.i = x.i
  e : y.e = x.e
  l : y.l = x.l
  R : y.R = x.R.take 20
  n : y.n = min x.n 20
  at' : RoIn w B y.a y.n y.c y.R
/-- A view is another one's, cut to its lengths, in memory from B on. -/
structure Vw.Of (y x : Vw) (w : World) (B : Nat) : Prop where
  v : y.v = x.v
  b : y.b.Of x.b w B
  n : y.n = min x.n 41
  L : y.L.map con = (x.L.map cut9).take 41
  at' : EnOwn w B (.slice y.a y.n y.c) y.L
/-- A message is another one's, cut to its lengths, in memory from B on. -/
structure Ms.Of (m x : Ms) (w : World) (B : Nat) : Prop where
  f : m.kd = x.kd ∧ m.fr = x.fr ∧ m.to = x.to ∧ m.ep = x.ep ∧ m.pi = x.pi ∧ m.pe = x.pe ∧ m.dn = x.dn ∧ m.ok = x.ok ∧ m.ix = x.ix ∧ m.st = x.st ∧ m.sq = x.sq ∧ m.er = x.er
  ub : m.ua = none ∧ m.un = 0 ∧ m.uc = 0
  b : m.b.Of x.b w B
  n : m.n = min x.n 9
  L : m.L.map con = (x.L.map cut9).take 9
  at' : EnOwn w B (.slice m.a m.n m.c) m.L
theorem Bs.Of.later {b x : Bs} {w w' : World} {B : Nat} (h : b.Of x w B) (k : Below w.heap.size w w') : b.Of x w' B := ⟨h.i, h.e, h.l, h.R, h.n, h.at'.later k⟩
theorem Vw.Of.later {b x : Vw} {w w' : World} {B : Nat} (h : b.Of x w B) (k : Below w.heap.size w w') : b.Of x w' B := ⟨h.v, h.b.later k, h.n, h.L, h.at'.upon k⟩
theorem Ms.Of.later {b x : Ms} {w w' : World} {B : Nat} (h : b.Of x w B) (k : Below w.heap.size w w') : b.Of x w' B := ⟨h.f, h.ub, h.b.later k, h.n, h.L, h.at'.upon k⟩
theorem EnOwn.less {w : World} {B B' : Nat} {v : Value} {L : List En} (h : EnOwn w B v L) (k : B' ≤ B) : EnOwn w B' v L := by
  refine ⟨⟨h.1.1, ?_⟩, fun x hx => ⟨(h.2 x hx).1, ?_⟩⟩
  · rcases h.1.2 with h | ⟨g, cap, cur, h1, h2, h3⟩
    · exact .inl h
    · exact .inr ⟨g, cap, cur, h1, Nat.le_trans k h2, h3⟩
  · rcases (h.2 x hx).2 with h | ⟨g, cap, cur, h1, h2, h3⟩
    · exact .inl h
    · exact .inr ⟨g, cap, cur, h1, Nat.le_trans k h2, h3⟩
theorem EnOwn.kept {w w' : World} {B : Nat} {v : Value} {L : List En} {S : List Nat} (h : EnOwn w B v L) (k : Kept S w w') (hS : ∀ g ∈ S, g < B) : EnOwn w' B v L := by
  refine ⟨h.1.kept k (fun g hg hm => ?_), fun x hx => (h.2 x hx).kept k (fun g hg hm => ?_)⟩
  · have := (h.1.lt g hg).1; have := hS g hm; omega
  · have := ((h.2 x hx).lt g hg).1; have := hS g hm; omega
theorem RoIn.kept {w w' : World} {B : Nat} {a : Option Addr} {n c : Nat} {R : List Ro} {S : List Nat} (h : RoIn w B a n c R) (k : Kept S w w') (hS : ∀ g ∈ S, g < B) : RoIn w' B a n c R := by
  obtain ⟨h1, h2, h3⟩ := h
  refine ⟨h1, ?_, h3⟩
  rcases h2 with rfl | ⟨g, o, e, hr⟩
  · exact .inl rfl
  · by_cases h0 : R = []
    · exact .inl h0
    · have hg := h3.2.2.2 h0 _ e
      refine .inr ⟨g, o, e, Nat.lt_of_lt_of_le hr.lt k.size, fun i hi j hj => ?_⟩
      rw [← hr.row i hi j hj]
      have hb := k.block g hr.lt (fun hm => by have := hS g hm; have : B ≤ g := hg; omega)
      simp only [World.cell?, hb]
theorem build_vw_rule (ps : Array (Nat × Value)) : Instr.build 36 ps = buildSem 36 ps := rfl
theorem build_vw (v : Vw) (w : World) : (buildSem 36 #[(0, .int .u64 v.v), (1, .agg v.b.cs), (2, .slice v.a v.n v.c)]).run Try.prog w = .ok (.agg v.cs) w := by kernel_rfl
attribute [local go_sem ↓] build_vw_rule
set_option maxRecDepth 100000 in
set_option maxHeartbeats 1600000 in
theorem view_any (x : Vw) (w : World) (h : x.In w 0) : Calls Try.prog 9 #[.agg x.cs] w fun e w' => ∃ v : Vw, e = .returned (.agg v.cs) ∧ v.Of x w' w.heap.size ∧ Below w.heap.size w w' := by
  obtain ⟨W1, hW1⟩ : ∃ W1, w.alloc (.cells x.cs 36) = W1 := ⟨_, rfl⟩
  have hb1 : Below w.heap.size w W1 := by rw [← hW1]; exact below_alloc w _
  have b1 : Blk W1 w.heap.size 36 x.cs := by rw [← hW1]; exact Blk.new w _ _
  obtain ⟨W2, hW2⟩ : ∃ W2, W1.alloc (.cells Vw.zero.cs 36) = W2 := ⟨_, rfl⟩
  have hb12 : Below W1.heap.size W1 W2 := by rw [← hW2]; exact below_alloc W1 _
  have b2 : Blk W2 W1.heap.size 36 Vw.zero.cs := by rw [← hW2]; exact Blk.new W1 _ _
  have hle : w.heap.size ≤ W1.heap.size := hb1.size
  have hlt2 : W1.heap.size < W2.heap.size := by rw [← hW2]; simp
  have hb02 := bel_trans hb1 hb12
  have CV : ∀ w', Below W2.heap.size W2 w' → Blk w' w.heap.size 36 x.cs := fun w' k => (b1.later hb12).later k
  have h00 : Below W2.heap.size W2 W2.drew := bel_drew (Below.refl _ _)
  have HX := Lib.hid (And.intro h (And.intro hb02 (And.intro b2 (And.intro hle hlt2))))
  clear h hb1 b1 hb12 b2 hle hlt2 hb02
  go_enter Try.func9, Try.ntmps9
  go_upto_region 1 with (with_reducible refine wpList_alloc_z rfl 36 rfl Vw.zero.cs 11 z_vw ?_)
  rw [hW2]
  refine wp_region_linF (fun w' => Below W2.heap.size W2 w') 9 [4, 7, 9] [0, 1, 2, 3, 5, 6, 4, 7, 8, 9] (by kernel_rfl) (by kernel_rfl) h00 ?_
  (repeat (first | (refine linF_off rfl rfl (by rfl) ?_; (try simp only [Act.put, List.getElem_toArray, List.getElem_cons_zero, List.getElem_cons_succ, List.setIfInBounds_toArray, List.set_cons_zero, List.set_cons_succ])) | (refine linF_op (v := ?_) rfl rfl (by rfl) (fun w9 hS9 => ?_) ?_; rotate_left; (focus (((try dsimp only at hS9); have k9 := CV w9 hS9; have k0 := k9.cell 0; have k1 := k9.cell 10; have k3 := vw_bs k9; simp only [show x.cs[0]? = some (.int .u64 x.v) from rfl, show x.cs[10]? = some (.slice x.a x.n x.c) from rfl] at k0 k1; go_simp; (try go_bits)) <;> with_reducible rfl)); (try simp only [Act.put, List.getElem_toArray, List.getElem_cons_zero, List.getElem_cons_succ, List.setIfInBounds_toArray, List.set_cons_zero, List.set_cons_succ]))))
  refine linF_call (f := 33) (args := #[.agg x.b.cs]) rfl rfl (by rfl) rfl rfl (enters_of Try.func33 (by kernel_rfl) rfl) (by simp [Act.eval]) ?_
  refine (lbase_any x.b W2.drew (HX.out.1.1.later (bel_trans HX.out.2.1 h00))).mono ?_
  rintro e W3 ⟨b3, rfl, p1, p2, p3, p4, p5, p6, hb3⟩
  have hb23 : Below W2.heap.size W2 W3 := bel_trans h00 hb3
  refine ⟨_, rfl, hb23, ?_⟩
  (try simp only [Act.put, List.getElem_toArray, List.getElem_cons_zero, List.getElem_cons_succ, List.setIfInBounds_toArray, List.set_cons_zero, List.set_cons_succ])
  (repeat (first | (refine linF_off rfl rfl (by rfl) ?_; (try simp only [Act.put, List.getElem_toArray, List.getElem_cons_zero, List.getElem_cons_succ, List.setIfInBounds_toArray, List.set_cons_zero, List.set_cons_succ])) | (refine linF_op (v := ?_) rfl rfl (by rfl) (fun w9 hS9 => ?_) ?_; rotate_left; (focus (((try dsimp only at hS9); have k9 := CV w9 hS9; have k0 := k9.cell 0; have k1 := k9.cell 10; have k3 := vw_bs k9; simp only [show x.cs[0]? = some (.int .u64 x.v) from rfl, show x.cs[10]? = some (.slice x.a x.n x.c) from rfl] at k0 k1; go_simp; (try go_bits)) <;> with_reducible rfl)); (try simp only [Act.put, List.getElem_toArray, List.getElem_cons_zero, List.getElem_cons_succ, List.setIfInBounds_toArray, List.set_cons_zero, List.set_cons_succ]))))
  refine linF_call (f := 34) (args := #[.slice x.a x.n x.c, .int .i64 41]) rfl rfl (by rfl) rfl rfl (enters_of Try.func34 (by kernel_rfl) rfl) (by simp [Act.eval]) ?_
  refine (lentries_any x.a x.n x.c 41 x.L W3 (HX.out.1.2.later (bel_trans HX.out.2.1 hb23)) (by omega)).mono ?_
  rintro e W4 ⟨a4, c4, rfl, M, hO4, hM4, hb4⟩
  have hb24 : Below W2.heap.size W2 W4 := bel_trans hb23 hb4
  refine ⟨_, rfl, hb24, ?_⟩
  (try simp only [Act.put, List.getElem_toArray, List.getElem_cons_zero, List.getElem_cons_succ, List.setIfInBounds_toArray, List.set_cons_zero, List.set_cons_succ])
  obtain ⟨v, hv⟩ : ∃ v : Vw, v = ⟨x.v, b3, a4, min x.n 41, c4, M⟩ := ⟨_, rfl⟩
  have BV := build_vw v
  rw [show v.v = x.v by rw [hv], show v.b = b3 by rw [hv], show v.a = a4 by rw [hv], show v.n = min x.n 41 by rw [hv], show v.c = c4 by rw [hv]] at BV
  have HV := Lib.hid hv
  clear hv
  (repeat (first | (refine linF_off rfl rfl (by rfl) ?_; (try simp only [Act.put, List.getElem_toArray, List.getElem_cons_zero, List.getElem_cons_succ, List.setIfInBounds_toArray, List.set_cons_zero, List.set_cons_succ])) | (refine linF_op (v := ?_) rfl rfl (by rfl) (fun w9 hS9 => ?_) ?_; rotate_left; (focus (((try dsimp only at hS9); go_simp; (try go_bits)) <;> with_reducible rfl)); (try simp only [Act.put, List.getElem_toArray, List.getElem_cons_zero, List.getElem_cons_succ, List.setIfInBounds_toArray, List.set_cons_zero, List.set_cons_succ]))))
  have b4 := HX.out.2.2.1.later hb24
  have ST := st_vw (b2 := v) b4
  have k5 : Kept [W1.heap.size] W4 (W4.setRow W1.heap.size v.cs) := (Kept.refl _ _).setRow (.inl (by simp)) _
  have hOf : v.Of x (W4.setRow W1.heap.size v.cs) w.heap.size := by
    have hz : w.heap.size ≤ W2.heap.size := Nat.le_trans HX.out.2.2.2.1 (Nat.le_of_lt HX.out.2.2.2.2)
    have e1 : RoIn (W4.setRow W1.heap.size v.cs) W2.heap.size b3.a b3.n b3.c b3.R := RoIn.kept (p6.later hb4) k5 (fun g hg => by have := HX.out.2.2.2.2; simp at hg; omega)
    have e2 : EnOwn (W4.setRow W1.heap.size v.cs) W2.heap.size (.slice a4 (min x.n 41) c4) M := EnOwn.kept (hO4.less hb23.size) k5 (fun g hg => by have := HX.out.2.2.2.2; simp at hg; omega)
    have hv := HV.out
    subst hv
    exact ⟨rfl, ⟨p1, p2, p3, p4, p5, e1.less hz⟩, rfl, hM4, e2.less hz⟩
  have HF := Lib.hid (And.intro (b4.row v.cs) (And.intro hOf (below_setRow (bel_trans HX.out.2.1 hb24) HX.out.2.2.2.1 v.cs)))
  clear hOf k5 hO4 hM4 hb4 hb24 b4 p1 p2 p3 p4 p5 p6 hb3 hb23 BV
  refine linF_fin (w' := W4.setRow W1.heap.size v.cs) rfl rfl (by rfl) (by go_simp; done) ?_
  (try simp only [Act.put, List.getElem_toArray, List.getElem_cons_zero, List.getElem_cons_succ, List.setIfInBounds_toArray, List.set_cons_zero, List.set_cons_succ])
  go_wp2_with fail
  refine bodyPost_ret (results_cell_row rfl _ _ W1.heap.size 36 _ (0, 0) _ rfl HF.out.1 Try.underlying36 rfl (s_vw _)) rfl ?_
  exact ⟨v, rfl, HF.out.2⟩

/-- What the two makers of a message give. -/
def msF (x : Ms) (B : Nat) (i : Nat) (v : Value) (w : World) : Prop :=
  (i = 2 → ∃ a c M, v = .slice a (min x.n 9) c ∧ EnOwn w B v M ∧ M.map con = (x.L.map cut9).take 9) ∧ (i = 5 → ∃ b : Bs, v = .agg b.cs ∧ b.Of x.b w B)
theorem msF.later {x : Ms} {B i : Nat} {v : Value} {w w' : World} (h : msF x B i v w) (k : Below w.heap.size w w') : msF x B i v w' :=
  ⟨fun e => by obtain ⟨a, c, M, h1, h2, h3⟩ := h.1 e; exact ⟨a, c, M, h1, h2.upon k, h3⟩, fun e => by obtain ⟨b, h1, h2⟩ := h.2 e; exact ⟨b, h1, h2.later k⟩⟩
theorem build_hd0 (w : World) : (buildSem 45 #[]).run Try.prog w = .ok (.agg #[.slice none 0 0]) w := by kernel_rfl
set_option maxRecDepth 100000 in
set_option maxHeartbeats 1600000 in
theorem msg_any (x : Ms) (w : World) (h : x.In w 0) : Calls Try.prog 19 #[.agg x.cs] w fun e w' => ∃ m : Ms, e = .returned (.agg m.cs) ∧ m.Of x w' w.heap.size ∧ Below w.heap.size w w' := by
  obtain ⟨W1, hW1⟩ : ∃ W1, w.alloc (.cells x.cs 47) = W1 := ⟨_, rfl⟩
  have hb1 : Below w.heap.size w W1 := by rw [← hW1]; exact below_alloc w _
  have b1 : Blk W1 w.heap.size 47 x.cs := by rw [← hW1]; exact Blk.new w _ _
  obtain ⟨W2, hW2⟩ : ∃ W2, W1.alloc (.cells Ms.zero.cs 47) = W2 := ⟨_, rfl⟩
  have hb12 : Below W1.heap.size W1 W2 := by rw [← hW2]; exact below_alloc W1 _
  have b2 : Blk W2 W1.heap.size 47 Ms.zero.cs := by rw [← hW2]; exact Blk.new W1 _ _
  have hle : w.heap.size ≤ W1.heap.size := hb1.size
  have hlt : w.heap.size < W1.heap.size := by rw [← hW1]; simp
  have hlt2 : W1.heap.size < W2.heap.size := by rw [← hW2]; simp
  have hb02 := bel_trans hb1 hb12
  have CV : ∀ w', Below W2.heap.size W2 w' → Blk w' w.heap.size 47 x.cs := fun w' k => (b1.later hb12).later k
  have h00 : Below W2.heap.size W2 W2.drew := bel_drew (Below.refl _ _)
  have do2 : ∀ w', Below W2.heap.size W2 w' → Calls Try.prog 34 #[.slice x.a x.n x.c, .int .i64 9] w' fun e w2 => ∃ v, e = .returned v ∧ Below W2.heap.size W2 w2 ∧ (∀ d u, d ≠ 2 → msF x W2.heap.size d u w' → msF x W2.heap.size d u w2) ∧ msF x W2.heap.size 2 v w2 := fun w' k => by
    refine (lentries_any x.a x.n x.c 9 x.L w' (h.1.later (bel_trans hb02 k)) (by omega)).mono ?_
    rintro e W4 ⟨a4, c4, rfl, M, hO4, hM4, hb4⟩
    exact ⟨_, rfl, bel_trans k hb4, fun d u _ q => q.later hb4, fun _ => ⟨a4, c4, M, rfl, hO4.less k.size, hM4⟩, fun e => by cases e⟩
  have do5 : ∀ w', Below W2.heap.size W2 w' → Calls Try.prog 33 #[.agg x.b.cs] w' fun e w2 => ∃ v, e = .returned v ∧ Below W2.heap.size W2 w2 ∧ (∀ d u, d ≠ 5 → msF x W2.heap.size d u w' → msF x W2.heap.size d u w2) ∧ msF x W2.heap.size 5 v w2 := fun w' k => by
    refine (lbase_any x.b w' (h.2.later (bel_trans hb02 k))).mono ?_
    rintro e W3 ⟨b3, rfl, p1, p2, p3, p4, p5, p6, hb3⟩
    exact ⟨_, rfl, bel_trans k hb3, fun d u _ q => q.later hb3, fun e => (by cases e), fun _ => ⟨b3, rfl, ⟨p1, p2, p3, p4, p5, p6.less k.size⟩⟩⟩
  have hne : ∀ i, [2, 5].contains i = true → ∃ v w, msF x W2.heap.size i v w := by
    intro i hi
    have hi2 : i = 2 ∨ i = 5 := by simpa using hi
    rcases hi2 with rfl | rfl
    · obtain ⟨e, w', fr, ⟨v, _, _, _, h5⟩, _⟩ := do2 W2.drew h00 []; exact ⟨v, w', h5⟩
    · obtain ⟨e, w', fr, ⟨v, _, _, _, h5⟩, _⟩ := do5 W2.drew h00 []; exact ⟨v, w', h5⟩
  have HX := Lib.hid (And.intro h (And.intro hb02 (And.intro b2 (And.intro hle (And.intro hlt hlt2)))))
  clear h hb1 b1 hb12 b2 hle hlt hlt2 hb02
  go_enter Try.func19, Try.ntmps19
  go_upto_region 1 with (with_reducible refine wpList_alloc_z rfl 47 rfl Ms.zero.cs 23 z_ms ?_)
  rw [hW2]
  refine wp_region_linV (fun w' => Below W2.heap.size W2 w') (fun _ _ => True) (msF x W2.heap.size) [2, 5] [7, 9] [0, 1, 3, 4, 2, 6, 5] [7, 8, 9] (by kernel_rfl) (by kernel_rfl) hne h00 (fun _ => trivial) ?_
  (repeat (first | (refine linV_off rfl rfl (by rfl) ?_; (try simp only [Act.put, List.getElem_toArray, List.getElem_cons_zero, List.getElem_cons_succ, List.setIfInBounds_toArray, List.set_cons_zero, List.set_cons_succ])) | (refine linV_op (v := ?_) rfl rfl (by rfl) (fun w9 hS9 => ?_) ?_; rotate_left; (focus (((try dsimp only at hS9); have k9 := CV w9 hS9; have k0 := k9.cell 6; have k3 := ms_bs k9; simp only [show x.cs[6]? = some (.slice x.a x.n x.c) from rfl] at k0; go_simp; (try go_bits)) <;> with_reducible rfl)); (try simp only [Act.put, List.getElem_toArray, List.getElem_cons_zero, List.getElem_cons_succ, List.setIfInBounds_toArray, List.set_cons_zero, List.set_cons_succ]))))
  refine linV_call (f := 34) (args := #[.slice x.a x.n x.c, .int .i64 9]) rfl rfl (by rfl) rfl rfl (enters_of Try.func34 (by kernel_rfl) rfl) (by simp [Act.eval]) (fun w9 hS9 _ _ => (do2 w9 hS9).mono (fun e w' ⟨v, q1, q2, q3, q4⟩ => ⟨v, q1, q2, fun _ _ _ => trivial, q3, q4⟩)) (fun v2 hv2 => ?_)
  obtain ⟨a2, c2, rfl⟩ : ∃ a2 c2, v2 = .slice a2 (min x.n 9) c2 := by
    obtain ⟨_, h⟩ := hv2
    obtain ⟨a, c, _, h1, _⟩ := h.1 rfl
    exact ⟨a, c, h1⟩
  (try simp only [Act.put, List.getElem_toArray, List.getElem_cons_zero, List.getElem_cons_succ, List.setIfInBounds_toArray, List.set_cons_zero, List.set_cons_succ])
  (repeat (first | (refine linV_off rfl rfl (by rfl) ?_; (try simp only [Act.put, List.getElem_toArray, List.getElem_cons_zero, List.getElem_cons_succ, List.setIfInBounds_toArray, List.set_cons_zero, List.set_cons_succ])) | (refine linV_op (v := ?_) rfl rfl (by rfl) (fun w9 hS9 => ?_) ?_; rotate_left; (focus (((try dsimp only at hS9); have k9 := CV w9 hS9; have k0 := k9.cell 6; have k3 := ms_bs k9; simp only [show x.cs[6]? = some (.slice x.a x.n x.c) from rfl] at k0; go_simp; (try go_bits)) <;> with_reducible rfl)); (try simp only [Act.put, List.getElem_toArray, List.getElem_cons_zero, List.getElem_cons_succ, List.setIfInBounds_toArray, List.set_cons_zero, List.set_cons_succ]))))
  refine linV_call (f := 33) (args := #[.agg x.b.cs]) rfl rfl (by rfl) rfl rfl (enters_of Try.func33 (by kernel_rfl) rfl) (by simp [Act.eval]) (fun w9 hS9 _ _ => (do5 w9 hS9).mono (fun e w' ⟨v, q1, q2, q3, q4⟩ => ⟨v, q1, q2, fun _ _ _ => trivial, q3, q4⟩)) (fun v5 hv5 => ?_)
  obtain ⟨b5, rfl⟩ : ∃ b5 : Bs, v5 = .agg b5.cs := by
    obtain ⟨_, h⟩ := hv5
    obtain ⟨b, h1, _⟩ := h.2 rfl
    exact ⟨b, h1⟩
  (try simp only [Act.put, List.getElem_toArray, List.getElem_cons_zero, List.getElem_cons_succ, List.setIfInBounds_toArray, List.set_cons_zero, List.set_cons_succ])
  refine linV_nil (fun w9 hS9 hF9 => ?_)
  have f2 := hF9 (2, .slice a2 (min x.n 9) c2) (by simp)
  have f5 := hF9 (5, .agg b5.cs) (by simp)
  obtain ⟨a2', c2', M, e2, hO9, hM9⟩ := f2.1 rfl
  injection e2 with e2a _ e2c
  subst e2a e2c
  obtain ⟨b5', e5, hB9⟩ := f5.2 rfl
  injection e5 with e5
  have x9 := CV w9 hS9
  obtain ⟨q1, q2⟩ := (show w9.cell? ⟨w.heap.size, 6, none⟩ = some (.slice x.a x.n x.c) ∧ w9.frozen? ⟨w.heap.size, 6, none⟩ = false from ⟨x9.cell 6, x9.free 6⟩)
  obtain ⟨W5, hW5⟩ : ∃ W5, w9.setCell ⟨w.heap.size, 6, none⟩ (.slice a2 (min x.n 9) c2) = W5 := ⟨_, rfl⟩
  have x5 : Blk W5 w.heap.size 47 (({ x with a := a2, n := min x.n 9, c := c2, L := M } : Ms).cs) := by rw [← hW5]; exact x9.set 6 _
  have k5 : Kept [w.heap.size] w9 W5 := by rw [← hW5]; exact Kept.setCell (p := ⟨w.heap.size, 6, none⟩) (Kept.refl _ _) (.inl (by simp)) _
  have ST5 := st_msbs (x := b5') x5
  obtain ⟨W6, hW6⟩ : ∃ W6, W5.setRow w.heap.size ({ ({ x with a := a2, n := min x.n 9, c := c2, L := M } : Ms) with b := b5' } : Ms).cs = W6 := ⟨_, rfl⟩
  have x6 : Blk W6 w.heap.size 47 (({ ({ x with a := a2, n := min x.n 9, c := c2, L := M } : Ms) with b := b5' } : Ms).cs) := by rw [← hW6]; exact x5.row _
  rw [hW6] at ST5
  rw [← e5] at ST5
  have k6 : Kept [w.heap.size] W5 W6 := by rw [← hW6]; exact (Kept.refl _ _).setRow (.inl (by simp)) _
  have B0 := build_hd0
  have ST6 := st_msba (a2 := none) (n2 := 0) (c2 := 0) x6
  obtain ⟨m, hm⟩ : ∃ m : Ms, m = { ({ ({ x with a := a2, n := min x.n 9, c := c2, L := M } : Ms) with b := b5' } : Ms) with ua := none, un := 0, uc := 0 } := ⟨_, rfl⟩
  rw [← hm] at ST6
  obtain ⟨W7, hW7⟩ : ∃ W7, W6.setRow w.heap.size m.cs = W7 := ⟨_, rfl⟩
  rw [hW7] at ST6
  have x7 : Blk W7 w.heap.size 47 m.cs := by rw [← hW7]; exact x6.row _
  have k7 : Kept [w.heap.size] W6 W7 := by rw [← hW7]; exact (Kept.refl _ _).setRow (.inl (by simp)) _
  have LM := ld_ms x7
  have k97 : Kept [w.heap.size] w9 W7 := (k5.trans k6).trans k7
  have hlt := HX.out.2.2.2.2.1
  have hlt2 := HX.out.2.2.2.2.2
  have r7 : Blk W7 W1.heap.size 47 Ms.zero.cs := (HX.out.2.2.1.later hS9).kept k97 (by simp; omega)
  have ST8 := st_ms (b2 := m) r7
  have k8 : Kept [W1.heap.size] W7 (W7.setRow W1.heap.size m.cs) := (Kept.refl _ _).setRow (.inl (by simp)) _
  have hb09 : Below w.heap.size w w9 := bel_trans HX.out.2.1 hS9
  have hb07 : Below w.heap.size w W7 := hb09.trans (k97.below (fun i hi => by simp at hi; omega) hb09.size)
  have hOf : m.Of x (W7.setRow W1.heap.size m.cs) w.heap.size := by
    have e1 : RoIn (W7.setRow W1.heap.size m.cs) W2.heap.size b5'.a b5'.n b5'.c b5'.R := RoIn.kept (RoIn.kept hB9.at' k97 (fun g hg => by simp at hg; omega)) k8 (fun g hg => by simp at hg; omega)
    have e2 : EnOwn (W7.setRow W1.heap.size m.cs) W2.heap.size (.slice a2 (min x.n 9) c2) M := EnOwn.kept (EnOwn.kept hO9 k97 (fun g hg => by simp at hg; omega)) k8 (fun g hg => by simp at hg; omega)
    subst hm
    exact ⟨⟨rfl, rfl, rfl, rfl, rfl, rfl, rfl, rfl, rfl, rfl, rfl, rfl⟩, ⟨rfl, rfl, rfl⟩, ⟨hB9.i, hB9.e, hB9.l, hB9.R, hB9.n, e1.less (by omega)⟩, rfl, hM9, e2.less (by omega)⟩
  have HF := Lib.hid (And.intro (r7.row m.cs) (And.intro hOf (below_setRow hb07 HX.out.2.2.2.1 m.cs)))
  clear hOf k8 hb09 hb07 hlt hlt2 r7 k97 x7 k7 k6 k5 x6 x5 x9 hO9 hM9 hB9 f2 f5 hF9 hm do2 do5 hne e5
  refine linX_store (w' := W5) rfl rfl (by rfl) ?_ trivial ?_; (focus (go_simp; done))
  (try simp only [Act.put, List.getElem_toArray, List.getElem_cons_zero, List.getElem_cons_succ, List.setIfInBounds_toArray, List.set_cons_zero, List.set_cons_succ])
  refine linX_op (v := ?_) rfl rfl (by rfl) (fun w8 hS8 => ?_) ?_; rotate_left; (focus ((go_simp; (try go_bits)) <;> with_reducible rfl)); (try simp only [Act.put, List.getElem_toArray, List.getElem_cons_zero, List.getElem_cons_succ, List.setIfInBounds_toArray, List.set_cons_zero, List.set_cons_succ])
  refine linX_store (w' := W6) rfl rfl (by rfl) ?_ trivial ?_; (focus (go_simp; done))
  (try simp only [Act.put, List.getElem_toArray, List.getElem_cons_zero, List.getElem_cons_succ, List.setIfInBounds_toArray, List.set_cons_zero, List.set_cons_succ])
  refine linX_nil ?_
  go_wp2_with fail
  refine bodyPost_ret (results_cell_row rfl _ _ W1.heap.size 47 _ (0, 0) _ rfl HF.out.1 Try.underlying47 rfl (s_ms _)) rfl ?_
  exact ⟨m, rfl, HF.out.2⟩

end Go.Proofs.Ytkoenconjldojaa
