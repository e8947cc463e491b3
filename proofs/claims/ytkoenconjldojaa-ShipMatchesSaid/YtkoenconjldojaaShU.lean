/-
  The walk of the law of matches. Nothing here is a statement of the document.
-/
import Derived.Test.YtkoenconjldojaaShT
import Derived.Test.YtkoenconjldojaaShW
namespace Go.Proofs.Ytkoenconjldojaa
open Go.RowKit Go.Shelf
set_option linter.unusedVariables false
set_option linter.unusedSimpArgs false
set_option maxRecDepth 100000
attribute [local go_sem 10000] gtU_rule leU_rule ltU_rule geU_rule adU_rule sbU_rule mxU_rule mnU_rule mnI_rule
attribute [local go_sem ↓] load_at_rule store_at_rule load_la_rule store_la_rule load_bs_rule store_bs_rule load_vw_rule store_vw_rule load_jo_rule store_jo_rule load_ms_rule store_ms_rule load_ch_rule store_ch_rule load_hd_rule store_hd_rule load_rb_rule store_rb_rule load_en_rule store_en_rule
attribute [local go_sem ↓] build_hd_rule build_rb_rule build_en_rule build_at_rule build_jo_rule upbuild_rule upapp_rule robuild_rule roapp_rule enbuild_rule enapp_rule build_vw_rule eq_at_rule eq_la_rule build_ch_rule build_ms_rule
theorem load_ask_rule (v : Value) : Instr.loadAt 79 v = loadSem 79 v := rfl
theorem store_ask_rule (v x : Value) : Instr.storeAt 79 v x = storeSem 79 v x := rfl
attribute [local go_sem ↓] load_ask_rule store_ask_rule
theorem Ask.size (q : Ask) : q.cs.size = 25 := rfl
theorem Ask.one (q : Ask) : q.cs.all (·.oneCell') = true := by simp [Ask.cs, Ms.cs, Value.oneCell']
theorem z_ask : (Try.prog.info? 79).map (fun i => (i.zero, i.size)) = some (some (.agg Ask.zero.cs), 25) := by kernel_rfl
theorem s_ask (q : Ask) : (Try.prog.info? 79).map (·.size) = some q.cs.size := by rw [q.size]; exact (zero_of_info z_ask).2
theorem Asks.later {w w' : World} {g o : Nat} {L : List Ask} (h : Asks w g o L) (k : Below w.heap.size w w') : Asks w' g o L :=
  ⟨Nat.lt_of_lt_of_le h.lt k.size, fun i hi j hj => (k.cell (p := ⟨g, o + i * 25 + j, none⟩) h.lt).trans (h.row i hi j hj)⟩
theorem AskIn.later {w w' : World} {a : Option Addr} {n : Nat} {L : List Ask} (h : AskIn w a n L) (k : Below w.heap.size w w') : AskIn w' a n L := by
  obtain ⟨h1, h2, h3⟩ := h
  refine ⟨h1, ?_, fun i hi => (h3 i hi).later k⟩
  rcases h2 with h | ⟨g, o, e, hr⟩
  · exact .inl h
  · exact .inr ⟨g, o, e, hr.later k⟩
theorem AskIn.spot {w : World} {a : Option Addr} {n : Nat} {L : List Ask} (h : AskIn w a n L) {i : Nat} (hi : i < L.length) : ∃ g o, a = some ⟨g, o, none⟩ ∧ Asks w g o L := by
  rcases h.2.1 with rfl | h
  · simp at hi
  · exact h
theorem Asks.load {w : World} {g o : Nat} {L : List Ask} (h : Asks w g o L) {i : Nat} (hi : i < L.length) : (loadSem 79 (.pointer (some ⟨g, o + i * 25, none⟩))).run Try.prog w = .ok (.agg (askg L i).cs) w :=
  run_loadAt_mid (P := Try.prog) w g (o + i * 25) 79 (askg L i).cs.toList _ (fun j v hj => by
    have hl : j < 25 := by rw [← (askg L i).size]; simpa using (List.getElem?_eq_some_iff.1 hj).1
    rw [h.row i hi j hl]; simpa using hj) Try.underlying79 rfl (by simpa using s_ask (askg L i))
theorem st_ask {w : World} {g : Nat} {p q : Ask} (h : Blk w g 79 p.cs) : (storeSem 79 (.pointer (some ⟨g, 0, none⟩)) (.agg q.cs)).run Try.prog w = .ok () (w.setRow g q.cs) := by
  have := storeRes_of (P := Try.prog) (ty := 79) (o := 0) (vs := q.cs) h (by rw [Ask.size, Ask.size]; omega) (s_ask q) q.one
  rwa [over_all (by rw [Ask.size, Ask.size])] at this
theorem ask_ms {w : World} {g : Nat} {q : Ask} (h : Blk w g 79 q.cs) : (loadSem 47 (.pointer (some ⟨g, 2, none⟩))).run Try.prog w = .ok (.agg q.m.cs) w :=
  loadRes_of (w := w) (o := 2) h (fun j hj => q.cm j hj) _ Try.underlying47 rfl (s_ms _)
theorem match_of {m x : Ms} {w : World} {B : Nat} (h : m.Of x w B) (a l : Nat) : matchV a l m = matchV a l x := by
  obtain ⟨h1, _, _, _, _, _, _, h8, h9, _⟩ := h.f
  unfold matchV
  rw [h1, h8, h9]
set_option maxHeartbeats 4000000 in
theorem shipmatches_walk (a : Option Addr) (n c : Nat) (L : List Ask) (w : World) (hA : AskIn w a n L) : Calls Try.prog 5 #[.slice a n c] w fun e w' => e = .returned (.bool true) ∧ Below w.heap.size w w' := by
  have hn := hA.1
  have HA := Lib.hid hA
  clear hA
  go_enter Try.func5, Try.ntmps5
  go_wp2_with fail
  refine (wakes_any w).mono ?_
  rintro e W1 ⟨rfl, hb1⟩
  have H1 := Lib.hid hb1
  clear hb1
  go_wp2_with fail
  go_loopw [9] (fun i wr => ∃ q : Nat, q ≤ n ∧ q ≤ 20 ∧ i = .int .i64 (q : Int) ∧ Below w.heap.size w wr) (fun i _ => n - (intOf i).toNat)
  case atStart => exact ⟨0, Nat.zero_le _, Nat.zero_le _, rfl, H1.out⟩
  case round =>
    obtain ⟨q, hq, hq20, rfl, hbr⟩ := hrel
    by_cases hlt : q < n
    · have hql : q < L.length := by omega
      obtain ⟨g, o, ha, hrow⟩ := (HA.out.later hbr).spot hql
      rw [ha]
      have LE : (loadSem 79 (.pointer (some ⟨g, o + q * 25, none⟩))).run Try.prog wr = .ok (.agg (askg L q).cs) wr := hrow.load hql
      have LE2 : (loadSem 79 (.pointer (some ⟨g, o + q * 25, none⟩))).run Try.prog (wr.alloc (.cells Ask.zero.cs 79)) = .ok (.agg (askg L q).cs) (wr.alloc (.cells Ask.zero.cs 79)) := (hrow.later (below_alloc wr (.cells Ask.zero.cs 79))).load hql
      have hIn : (askg L q).m.In wr 0 := (HA.out.later hbr).2.2 q hql
      obtain ⟨x, hx⟩ : ∃ x, askg L q = x := ⟨_, rfl⟩
      rw [hx] at LE LE2 hIn
      have SE := st_ask (q := x) (Blk.new wr 79 Ask.zero.cs)
      rw [World.setRow_alloc_new] at SE
      obtain ⟨Wx, hWx⟩ : ∃ Wx, wr.alloc (.cells x.cs 79) = Wx := ⟨_, rfl⟩
      rw [hWx] at SE
      have hbx : Below wr.heap.size wr Wx := by rw [← hWx]; exact below_alloc wr _
      have bx : Blk Wx wr.heap.size 79 x.cs := by rw [← hWx]; exact Blk.new wr _ _
      have hb0x := bel_trans hbr hbx
      have HX := Lib.hid (And.intro hb0x (And.intro bx (hIn.later hbx)))
      have hTf : ∀ w', Below Wx.heap.size Wx w' → w'.cell? ⟨wr.heap.size, 0, none⟩ = some (.int .u64 (x.x : Int)) ∧ w'.cell? ⟨wr.heap.size, 1, none⟩ = some (.int .u64 (x.l : Int)) ∧ (loadSem 47 (.pointer (some ⟨wr.heap.size, 2, none⟩))).run Try.prog w' = .ok (.agg x.m.cs) w' := fun w' k => ⟨(HX.out.2.1.later k).cell 0, (HX.out.2.1.later k).cell 1, ask_ms (HX.out.2.1.later k)⟩
      clear hbr hrow hIn hx hbx bx hb0x ha
      by_cases h20 : q = 20
      · subst h20
        go_wp2_with (with_reducible refine wpList_alloc_z rfl 79 rfl Ask.zero.cs 25 z_ask ?_)
        go_ret
        exact ⟨rfl, HX.out.1⟩
      · have hq19 : q ≤ 19 := by omega
        have d20 : (q : Int) ≠ 20 := by omega
        have d21 : decide ((q : Int) = 20) = false := by simp; omega
        have h00 : Below Wx.heap.size Wx Wx.drew := bel_drew (Below.refl _ _)
        go_upto_region 7 with (with_reducible refine wpList_alloc_z rfl 79 rfl Ask.zero.cs 25 z_ask ?_)
        refine wp_region_linY (fun w' => Below Wx.heap.size Wx w') [6, 7, 14, 15] [0, 1, 2, 3, 4, 5, 8, 9, 10, 11, 12, 13, 6, 7, 14, 15, 16] (by kernel_rfl) (by kernel_rfl) h00 ?_
        (repeat (first | (refine linX_off rfl rfl (by rfl) ?_; (try simp only [Act.put, List.getElem_toArray, List.getElem_cons_zero, List.getElem_cons_succ, List.setIfInBounds_toArray, List.set_cons_zero, List.set_cons_succ])) | (refine linX_op (v := ?_) rfl rfl (by rfl) (fun w9 hS9 => ?_) ?_; rotate_left; (focus (((try dsimp only at hS9); obtain ⟨z0, z1, z2⟩ := hTf w9 hS9; go_simp; (try go_bits)) <;> with_reducible rfl)); (try simp only [Act.put, List.getElem_toArray, List.getElem_cons_zero, List.getElem_cons_succ, List.setIfInBounds_toArray, List.set_cons_zero, List.set_cons_succ]))))
        refine linX_call (f := 19) (args := #[.agg x.m.cs]) rfl rfl (by rfl) rfl rfl (enters_of Try.func19 (by kernel_rfl) rfl) (by simp [Act.eval]) ?_
        refine (msg_any x.m Wx.drew (HX.out.2.2.later h00)).mono ?_
        rintro e W3 ⟨m1, rfl, hO1, hb3⟩
        have k3 := bel_trans h00 hb3
        refine ⟨_, rfl, k3, ?_⟩
        (try simp only [Act.put, List.getElem_toArray, List.getElem_cons_zero, List.getElem_cons_succ, List.setIfInBounds_toArray, List.set_cons_zero, List.set_cons_succ])
        refine linX_call (f := 26) (args := #[.int .u64 (x.x : Int), .int .u64 (x.l : Int), .agg m1.cs]) rfl rfl (by rfl) rfl rfl (enters_of Try.func26 (by kernel_rfl) rfl) (by simp [Act.eval]) ?_
        refine (match_any x.x x.l m1 W3).mono ?_
        rintro e W4 ⟨rfl, hb4⟩
        rw [match_of hO1]
        have k4 := bel_trans k3 hb4
        refine ⟨_, rfl, k4, ?_⟩
        (try simp only [Act.put, List.getElem_toArray, List.getElem_cons_zero, List.getElem_cons_succ, List.setIfInBounds_toArray, List.set_cons_zero, List.set_cons_succ])
        refine linX_call (f := 19) (args := #[.agg x.m.cs]) rfl rfl (by rfl) rfl rfl (enters_of Try.func19 (by kernel_rfl) rfl) (by simp [Act.eval]) ?_
        refine (msg_any x.m W4 (HX.out.2.2.later k4)).mono ?_
        rintro e W5 ⟨m2, rfl, hO2, hb5⟩
        have k5 := bel_trans k4 hb5
        refine ⟨_, rfl, k5, ?_⟩
        (try simp only [Act.put, List.getElem_toArray, List.getElem_cons_zero, List.getElem_cons_succ, List.setIfInBounds_toArray, List.set_cons_zero, List.set_cons_succ])
        refine linX_call (f := 27) (args := #[.int .u64 (x.x : Int), .int .u64 (x.l : Int), .agg m2.cs]) rfl rfl (by rfl) rfl rfl (enters_of Try.func27 (by kernel_rfl) rfl) (by simp [Act.eval]) ?_
        refine (rmatch_any x.x x.l m2 W5).mono ?_
        rintro e W6 ⟨rfl, hb6⟩
        rw [match_of hO2]
        have k6 := bel_trans k5 hb6
        refine ⟨_, rfl, k6, ?_⟩
        (try simp only [Act.put, List.getElem_toArray, List.getElem_cons_zero, List.getElem_cons_succ, List.setIfInBounds_toArray, List.set_cons_zero, List.set_cons_succ])
        (repeat (first | (refine linX_off rfl rfl (by rfl) ?_; (try simp only [Act.put, List.getElem_toArray, List.getElem_cons_zero, List.getElem_cons_succ, List.setIfInBounds_toArray, List.set_cons_zero, List.set_cons_succ])) | (refine linX_op (v := ?_) rfl rfl (by rfl) (fun w9 hS9 => ?_) ?_; rotate_left; (focus (((try dsimp only at hS9); obtain ⟨z0, z1, z2⟩ := hTf w9 hS9; go_simp; (try go_bits)) <;> with_reducible rfl)); (try simp only [Act.put, List.getElem_toArray, List.getElem_cons_zero, List.getElem_cons_succ, List.setIfInBounds_toArray, List.set_cons_zero, List.set_cons_succ]))))
        refine linX_nil ?_
        have HE := Lib.hid (bel_trans HX.out.1 k6)
        clear hO1 hO2 hb3 hb4 hb5 hb6 k3 k4 k5 k6 h00
        go_wp2_with fail
        go_roundw
        case rel => exact ⟨q + 1, by omega, by omega, by go_num, HE.out⟩
        case measure => (simp [intOf]; try omega)
    · obtain rfl : q = n := by omega
      have HE := Lib.hid hbr
      clear hbr
      go_wp2_with fail
      go_ret
      exact ⟨rfl, HE.out⟩
end Go.Proofs.Ytkoenconjldojaa
