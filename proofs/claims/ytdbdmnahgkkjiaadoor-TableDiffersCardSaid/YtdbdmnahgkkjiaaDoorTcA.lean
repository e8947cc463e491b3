/-
  What table.both tells. Nothing here is a statement of the document.
-/
import Derived.Test.YtdbdmnahgkkjiaaDoorTbZ
namespace Go.Proofs.YtdbdmnahgkkjiaaDoor
open Go.RowKit Go.Shelf
set_option linter.unusedVariables false
set_option maxRecDepth 100000
attribute [local go_sem] Oper.semAt_some
theorem elem_rt9 : Tryd.prog.elem 22 = 48 := by simp [Program.elem, Tryd.underlying22]
/-- l[k:] of rows. -/
def cutT (x lo : Value) : Sem Value := Instr.sliceAt 22 x (some lo) none none
theorem cutT_rule (x lo : Value) : Instr.sliceAt 22 x (some lo) none none = cutT x lo := rfl
/-- Rows that lie lower than l, and in none of these blocks. -/
def LoR (l : Nat) (S : List Nat) (w : World) (x : Option Addr) (L : List Rt) : Prop := L = [] ∨ ∃ g o, x = some ⟨g, o, none⟩ ∧ Rws w g o L ∧ g < l ∧ g ∉ S
theorem LoR.at9 {l : Nat} {S : List Nat} {w : World} {x : Option Addr} {L : List Rt} (h : LoR l S w x L) : RowsAt w x L := by
  rcases h with h | ⟨g, o, h1, h2, _⟩
  · exact .inl h
  · exact .inr ⟨g, o, h1, h2⟩
theorem LoR.later {l : Nat} {S : List Nat} {w w' : World} {x : Option Addr} {L : List Rt} (h : LoR l S w x L) (k : Below w.heap.size w w') : LoR l S w' x L := by
  rcases h with h | ⟨g, o, h1, h2, h3⟩
  · exact .inl h
  · exact .inr ⟨g, o, h1, h2.later k, h3⟩
theorem LoR.turn {B l : Nat} {S T : List Nat} {w w' : World} {x : Option Addr} {L : List Rt} (h : LoR l S w x L) (k : KL B T w w') (hB : l ≤ B) (hT : ∀ i ∈ T, i ∈ S ∨ l ≤ i) : LoR l S w' x L := by
  rcases h with h | ⟨g, o, h1, h2, h3, h4⟩
  · exact .inl h
  · exact .inr ⟨g, o, h1, h2.low k (fun hm => by rcases hT g hm with h | h; exact h4 h; omega) (by omega), h3, h4⟩
theorem turn_ok9 (lo : Nat) (S : List Nat) : ∀ i ∈ lo :: S, i ∈ S ∨ lo ≤ i := fun i hi => by
  rcases List.mem_cons.1 hi with rfl | h
  · exact .inr (Nat.le_refl _)
  · exact .inl h
theorem LoR.via {l : Nat} {S : List Nat} {w w3 w5 : World} {x : Option Addr} {L : List Rt} (h : LoR l S w3 x L) (k3 : Below w.heap.size w w3) (k5 : Below w.heap.size w w5) (hl : l ≤ w.heap.size) : LoR l S w5 x L := by
  rcases h with h | ⟨g, o, h1, h2, h3, h4⟩
  · exact .inl h
  · refine .inr ⟨g, o, h1, ⟨by have := k5.size; omega, fun i hi j hj => ?_⟩, h3, h4⟩
    exact (World.cell?_of_block (w := w3) ((k5.block g (by omega)).trans (k3.block g (by omega)).symm)).trans (h2.row i hi j hj)
theorem Rws.rest9 {w : World} {g o : Nat} {L : List Rt} (h : Rws w g o L) : Rws w g (o + 19) (L.drop 1) :=
  ⟨h.lt, fun i hi j hj => by
    have hi2 : i + 1 < L.length := by simp at hi; omega
    have := h.row (i + 1) hi2 j hj
    rw [show o + 19 + i * 19 + j = o + (i + 1) * 19 + j by omega, this]
    congr 1
    simp [rt, Nat.add_comm]⟩
theorem cutT_run {l : Nat} {S : List Nat} {w : World} {x : Option Addr} {c : Nat} {L : List Rt} (hL : LoR l S w x L) (hc : L.length ≤ c) (h1 : 1 ≤ L.length) :
    ∃ x', (∀ w2, (cutT (.slice x L.length c) (.int .i64 1)).run Tryd.prog w2 = .ok (.slice x' (L.length - 1) (c - 1)) w2) ∧ LoR l S w x' (L.drop 1) := by
  refine ⟨if c = 1 then x else x.map (·.add 19), fun w2 => ?_, ?_⟩
  · unfold cutT
    have hu : Tryd.prog.underlying 22 = some (.slice (Tryd.prog.elem 22)) := by rw [elem_rt9]; exact Tryd.underlying22
    rw [run_sliceAt_slice w2 22 _ _ _ _ hu, run_slice_l w2 22 x L.length c hu .i64 (1 : Int) (by omega) (by omega)]
    rw [elem_rt9]
    go_simp
  · by_cases e : c = 1
    · left; rw [List.drop_eq_nil_iff]; omega
    · rw [if_neg e]
      rcases hL with rfl | ⟨g, o, rfl, hr, h3⟩
      · simp at h1
      · exact .inr ⟨g, o + 19, rfl, hr.rest9, h3⟩
noncomputable def encB (A B : List Rt) (k : Nat) : Array Value := #[.agg ((mg A B).getD k (Rt.zero, Rt.zero)).1.cs, .agg ((mg A B).getD k (Rt.zero, Rt.zero)).2.cs]
theorem wrap_sum9 {a b : Nat} (h : a ≤ 1000) (h2 : b ≤ 1000) : wrap64 ((a : Int) + (b : Int)) = (a : Int) + (b : Int) := by unfold wrap64; omega
theorem sum_pos9 {A B : List Rt} (h : A ≠ [] ∨ B ≠ []) : decide (0 < (A.length : Int) + (B.length : Int)) = true := decide_eq_true (by
  rcases h with h | h
  · have := List.length_pos_iff.2 h; omega
  · have := List.length_pos_iff.2 h; omega)
def slLen : Value → Nat
  | .slice _ n _ => n
  | _ => 0
theorem mg_next {A B la lb : List Rt} {k : Nat} (h : mg la lb = (mg A B).drop k) (hne : la ≠ [] ∨ lb ≠ []) : k < (mg A B).length ∧
    (mg A B).getD k (Rt.zero, Rt.zero) = (if nrM la lb ≤ 0 then rt la 0 else Rt.zero, if 0 ≤ nrM la lb then rt lb 0 else Rt.zero) ∧
    mg (if nrM la lb ≤ 0 then la.drop 1 else la) (if 0 ≤ nrM la lb then lb.drop 1 else lb) = (mg A B).drop (k + 1) := by
  rw [mg_step hne] at h
  have hk : k < (mg A B).length := by
    rcases Nat.lt_or_ge k (mg A B).length with h9 | h9
    · exact h9
    · rw [List.drop_eq_nil_of_le h9] at h; cases h
  rw [List.drop_eq_getElem_cons hk] at h
  obtain ⟨h1, h2⟩ := List.cons.inj h
  exact ⟨hk, by rw [List.getD_eq_getElem?_getD, List.getElem?_eq_getElem hk, Option.getD_some]; exact h1.symm, h2⟩
attribute [local go_sem ↓] load_b16_rule store_b16_rule load_ad_rule store_ad_rule load_px_rule store_px_rule eq_b16_rule eq_ad_rule eq_px_rule load_rt_rule store_rt_rule build_ad_rule build_px_rule build_b16_rule build_rt_rule load_tab_rule build_tab_rule store_tab_rule tbuild_rule tapp_rule tcopy_rule eq_rt_rule cutT_rule
set_option maxHeartbeats 4000000 in
theorem both_low {w : World} {a a2 : Option Addr} {n c n2 c2 box box2 : Nat} {A B : List Rt} {S : List Nat} (hn : A.length = n) (hm : n ≤ 1000) (hc : n ≤ c) (hn2 : B.length = n2) (hm2 : n2 ≤ 1000) (hc2 : n2 ≤ c2)
    (hR : LoR w.heap.size S w a A) (hR2 : LoR w.heap.size S w a2 B) (hb : Blk w box 24 #[.slice a n c]) (hbS : box ∉ S) (hb2 : Blk w box2 24 #[.slice a2 n2 c2]) (hbS2 : box2 ∉ S) :
    TellsL 50 #[.pointer (some ⟨box, 0, none⟩), .pointer (some ⟨box2, 0, none⟩)] S (mg A B).length (encB A B) w := by
  intro lo J Jx W hWk hlw hlo hJ hJx hY h0
  have n4 : box < lo := by have := hb.lt; omega
  have n5 : box2 < lo := by have := hb2.lt; omega
  have up : ∀ {x : Option Addr} {L : List Rt}, LoR w.heap.size S w x L → LoR lo S W x L := fun {x L} h => by
    rcases h with h | ⟨g, o, h1, h2, h3, h4⟩
    · exact .inl h
    · exact .inr ⟨g, o, h1, h2.low hWk h4 h3, by omega, h4⟩
  have hA := up hR
  have hB := up hR2
  replace hb := hWk.blk hb hbS hb.lt
  replace hb2 := hWk.blk hb2 hbS2 hb2.lt
  have cb : ∀ w', Below W.heap.size W w' → w'.cell? ⟨box, 0, none⟩ = some (.slice a n c) := tab_c hb
  have cb2 : ∀ w', Below W.heap.size W w' → w'.cell? ⟨box2, 0, none⟩ = some (.slice a2 n2 c2) := tab_c hb2
  have q0 := cb W (Below.refl _ _)
  have q1 := cb2 W (Below.refl _ _)
  have q2 := cb W.drew (Below.refl _ _).drew
  have q3 := cb2 W.drew (Below.refl _ _).drew
  subst hn hn2
  have H := Lib.hid (And.intro hY (And.intro hA (And.intro hB (And.intro hJ hJx))))
  have HM := Lib.hid (And.intro hm (And.intro hm2 (And.intro hc hc2)))
  clear hlw hWk hb hb2 hR hR2 hY hA hB up hJ hJx cb cb2 hm hm2 hc hc2
  refine callsIn_of_wp Tryd.func50 rfl trivial ?_ rfl
  simp only [Tryd.ntmps50, List.size_toArray, List.length_cons, List.length_nil, Nat.reduceAdd, Nat.reduceSub, Array.replicate_succ, Array.replicate_zero, List.push_toArray, List.append_toArray, List.nil_append, List.cons_append]
  gi_wp2_with fail
  gi_region
  gi_wp2_with fail
  gi_loopw [4, 5] (fun l r wr => ∃ (k : Nat) (la lb : List Rt) (x y : Option Addr) (cx cy : Nat), l = .slice x la.length cx ∧ r = .slice y lb.length cy ∧ la.length ≤ cx ∧ lb.length ≤ cy ∧ la.length ≤ 1000 ∧ lb.length ≤ 1000 ∧ mg la lb = (mg A B).drop k ∧ J k wr ∧ LoR lo S wr x la ∧ LoR lo S wr y lb ∧ W.heap.size ≤ wr.heap.size ∧ k ≤ (mg A B).length) (fun l r _ => slLen l + slLen r)
  case atStart => exact ⟨0, A, B, a, a2, c, c2, rfl, rfl, HM.out.2.2.1, HM.out.2.2.2, HM.out.1, HM.out.2.1, rfl, OwnFrom.low9 H.out.2.2.2.1 h0 (Below.refl _ _).drew, H.out.2.1.later (Below.refl _ _).drew, H.out.2.2.1.later (Below.refl _ _).drew, Nat.le_refl _, Nat.zero_le _⟩
  case round =>
    obtain ⟨k, la, lb, x, y, cx, cy, rfl, rfl, hcx, hcy, hlx, hly, hmg, hJs, hla, hlb, hsz, hkN⟩ := hrel
    have wl := wrap_sum9 hlx hly
    by_cases hne : la ≠ [] ∨ lb ≠ []
    · obtain ⟨hk, hq, hnext⟩ := mg_next hmg hne
      have dgt : decide (0 < (la.length : Int) + (lb.length : Int)) = true := sum_pos9 hne
      obtain ⟨W2, hW2⟩ : ∃ W2, (wr.alloc (.cells Rt.zero.cs 48)).alloc (.cells Rt.zero.cs 48) = W2 := ⟨_, rfl⟩
      have k2 : Below wr.heap.size wr W2 := by rw [← hW2]; exact ((Below.refl _ _).alloc (Nat.le_refl _) _).alloc (by simp) _
      have bx : Blk W2 wr.heap.size 48 Rt.zero.cs := by rw [← hW2]; exact (Blk.new wr _ _).alloc _
      have by9 : Blk W2 (wr.heap.size + 1) 48 Rt.zero.cs := by
        have h9 := Blk.new (wr.alloc (.cells Rt.zero.cs 48)) 48 Rt.zero.cs
        rw [World.size_alloc, hW2] at h9
        exact h9
      have HN := nearer_any x y la.length cx lb.length cy la lb W2 rfl (hla.at9.later k2) rfl (hlb.at9.later k2)
      obtain ⟨q, hqq⟩ : ∃ q, nrM la lb = q := ⟨_, rfl⟩
      rw [hqq] at HN hq hnext
      have HQ := Lib.hid (And.intro hq (And.intro hnext (And.intro hqq (And.intro hne (And.intro hk (And.intro k2 (And.intro bx (And.intro by9 (And.intro hJs (And.intro hla hlb))))))))))
      have HZ := Lib.hid (And.intro hcx (And.intro hcy (And.intro hlx (And.intro hly (And.intro hsz (And.intro hkN hlo))))))
      clear hq hnext hqq hne hk k2 bx by9 hJs hla hlb hmg hcx hcy hlx hly hsz hkN n4 n5 hbS hbS2 q0 q1 q2 q3 hlo h0
      gi_wp2_with (first | (with_reducible refine wpListIn_alloc_z rfl 48 rfl Rt.zero.cs 19 z_rt ?_))
      refine ⟨trivial, (callsIn_wide.2 HN).mono ?_⟩
      rintro e W3 ⟨rfl, hb3⟩
      have k3 : Below wr.heap.size wr W3 := bel_trans HQ.out.2.2.2.2.2.1 hb3
      have HW := Lib.hid (And.intro k3 hb3)
      clear HN hb3 k3 hW2
      rcases Int.lt_trichotomy q 0 with hq0 | hq0 | hq0
      · have dl : decide (q ≤ 0) = true := decide_eq_true (by omega)
        have dr : decide (0 ≤ q) = false := decide_eq_false (by omega)
        have hx := HQ.out.2.2.2.2.2.2.1.later HW.out.2
        have hy9 := HQ.out.2.2.2.2.2.2.2.1.later HW.out.2
        have ex := HQ.out.1
        have en := HQ.out.2.1
        rw [if_pos (by omega : q ≤ 0), if_neg (by omega : ¬ 0 ≤ q)] at ex en
        have hlne : la ≠ [] := nr_left HQ.out.2.2.2.1 (by rw [HQ.out.2.2.1]; omega)
        have hl1 : 0 < la.length := List.length_pos_iff.2 hlne
        have hla3 := HQ.out.2.2.2.2.2.2.2.2.2.1.later HW.out.1
        obtain ⟨x', ct, hla'⟩ := cutT_run hla3 HZ.out.1 hl1
        obtain ⟨g, o, rfl, hrow⟩ := hla3.at9.spot hl1
        have LRd : (loadSem 48 (.pointer (some ⟨g, o, none⟩))).run Tryd.prog W3.drew = .ok (.agg (rt la 0).cs) W3.drew := by
          have := (hrow.later (Below.refl W3.heap.size W3).drew).load hl1
          simpa using this
        have STd := st_rt (q := rt la 0) (hx.later (Below.refl W3.heap.size W3).drew)
        have HL := Lib.hid (And.intro hl1 hla')
        clear hlne hla3 hla' hrow
        have hlb' := HQ.out.2.2.2.2.2.2.2.2.2.2.later HW.out.1
        have HL2 := Lib.hid hlb'
        clear hlb'
        have HX := Lib.hid (And.intro hx (And.intro hy9 (And.intro ex en)))
        clear hx hy9 ex en hq0
        gi_wp2_with fail
        gi_region
        obtain ⟨W4, hW4⟩ : ∃ W4, W3.drew.setRow wr.heap.size (rt la 0).cs = W4 := ⟨_, rfl⟩
        have x4 : Blk W4 wr.heap.size 48 (rt la 0).cs := by rw [← hW4]; exact (HX.out.1.later (Below.refl W3.heap.size W3).drew).row _
        have y4 : Blk W4 (wr.heap.size + 1) 48 Rt.zero.cs := by rw [← hW4]; exact (setRow_other _ _ _ _ (by omega)).trans (HX.out.2.1.later (Below.refl W3.heap.size W3).drew)
        have k4 : Below wr.heap.size wr W4 := by rw [← hW4]; exact below_setRow (bel_trans HW.out.1 (Below.refl W3.heap.size W3).drew) (Nat.le_refl _) _
        rw [hW4]
        clear LRd STd hW4
        obtain ⟨W5, hW5⟩ : ∃ W5, W4 = W5 := ⟨_, rfl⟩
        have x5 : Blk W5 wr.heap.size 48 (rt la 0).cs := by rw [← hW5]; exact x4
        have y5 : Blk W5 (wr.heap.size + 1) 48 Rt.zero.cs := by rw [← hW5]; exact y4
        have k5 : Below wr.heap.size wr W5 := by rw [← hW5]; exact k4
        rw [hW5]
        clear x4 y4 k4 hW5
        have hY2 := H.out.1 k W5 HQ.out.2.2.2.2.1 (OwnFrom.low9 H.out.2.2.2.1 HQ.out.2.2.2.2.2.2.2.2.1 k5)
        unfold encB at hY2
        rw [HX.out.2.2.1] at hY2
        obtain ⟨fn, tmps, assign, body, hy, hRd⟩ := hY2
        have LX5 := rt_r x5 W5 (Below.refl _ _)
        have LY5 := rt_r y5 W5 (Below.refl _ _)
        have H5 := Lib.hid k5
        clear x5 y5 k5
        have hlaW : LoR lo S W5 x' (la.drop 1) := LoR.via HL.out.2 HW.out.1 H5.out (by have := HZ.out.2.2.2.2.1; have := HZ.out.2.2.2.2.2.2; omega)
        have hlbW : LoR lo S W5 y lb := HQ.out.2.2.2.2.2.2.2.2.2.2.later H5.out
        have H7 := Lib.hid (And.intro hlaW hlbW)
        clear hlaW hlbW
        gi_wp2_with fail
        refine hRd.mono ?_
        rintro e2 W6 ⟨hk6, ⟨rfl, hJ6⟩ | ⟨rfl, hJx6⟩⟩
        · have H6 := Lib.hid (And.intro hk6 hJ6)
          clear hk6 hJ6 hy
          gi_wp2
          refine ⟨⟨k + 1, la.drop 1, lb, x', y, cx - 1, cy, by simp, rfl, ?_, ?_, ?_, ?_, HX.out.2.2.2, H6.out.2, LoR.turn H7.out.1 H6.out.1 (by omega) (turn_ok9 lo S), LoR.turn H7.out.2 H6.out.1 (by omega) (turn_ok9 lo S), ?_, HQ.out.2.2.2.2.1⟩, ?_⟩
          · have := HZ.out.1; simp; omega
          · have := HZ.out.2.1; simp; omega
          · have := HZ.out.2.2.1; simp; omega
          · have := HZ.out.2.2.2.1; simp; omega
          · have := HZ.out.2.2.2.2.1; have := H5.out.size; have := H6.out.1.size; omega
          · simp [slLen]; omega
        · gi_wp2
          refine bodyPost_ret (results_none rfl _ _ _) rfl ?_
          exact ⟨⟨_, rfl⟩, .inr ⟨k, HQ.out.2.2.2.2.1, hJx6⟩⟩
      · have dl : decide (q ≤ 0) = true := decide_eq_true (by omega)
        have dr : decide (0 ≤ q) = true := decide_eq_true (by omega)
        have hx := HQ.out.2.2.2.2.2.2.1.later HW.out.2
        have hy9 := HQ.out.2.2.2.2.2.2.2.1.later HW.out.2
        have ex := HQ.out.1
        have en := HQ.out.2.1
        rw [if_pos (by omega : q ≤ 0), if_pos (by omega : 0 ≤ q)] at ex en
        have hlne : la ≠ [] := nr_left HQ.out.2.2.2.1 (by rw [HQ.out.2.2.1]; omega)
        have hl1 : 0 < la.length := List.length_pos_iff.2 hlne
        have hla3 := HQ.out.2.2.2.2.2.2.2.2.2.1.later HW.out.1
        obtain ⟨x', ct, hla'⟩ := cutT_run hla3 HZ.out.1 hl1
        obtain ⟨g, o, rfl, hrow⟩ := hla3.at9.spot hl1
        have LRd : (loadSem 48 (.pointer (some ⟨g, o, none⟩))).run Tryd.prog W3.drew = .ok (.agg (rt la 0).cs) W3.drew := by
          have := (hrow.later (Below.refl W3.heap.size W3).drew).load hl1
          simpa using this
        have STd := st_rt (q := rt la 0) (hx.later (Below.refl W3.heap.size W3).drew)
        have HL := Lib.hid (And.intro hl1 hla')
        clear hlne hla3 hla' hrow
        have hrne : lb ≠ [] := nr_right HQ.out.2.2.2.1 (by rw [HQ.out.2.2.1]; omega)
        have hr1 : 0 < lb.length := List.length_pos_iff.2 hrne
        have hlb3 := HQ.out.2.2.2.2.2.2.2.2.2.2.later HW.out.1
        obtain ⟨y', ct2, hlb'⟩ := cutT_run hlb3 HZ.out.2.1 hr1
        obtain ⟨g2, o2, rfl, hrow2⟩ := hlb3.at9.spot hr1
        have HL2 := Lib.hid (And.intro hr1 (And.intro hlb' (And.intro hlb3 hrow2)))
        clear hrne hlb3 hlb' hrow2
        have HX := Lib.hid (And.intro hx (And.intro hy9 (And.intro ex en)))
        clear hx hy9 ex en hq0
        gi_wp2_with fail
        gi_region
        obtain ⟨W4, hW4⟩ : ∃ W4, W3.drew.setRow wr.heap.size (rt la 0).cs = W4 := ⟨_, rfl⟩
        have x4 : Blk W4 wr.heap.size 48 (rt la 0).cs := by rw [← hW4]; exact (HX.out.1.later (Below.refl W3.heap.size W3).drew).row _
        have y4 : Blk W4 (wr.heap.size + 1) 48 Rt.zero.cs := by rw [← hW4]; exact (setRow_other _ _ _ _ (by omega)).trans (HX.out.2.1.later (Below.refl W3.heap.size W3).drew)
        have k4 : Below wr.heap.size wr W4 := by rw [← hW4]; exact below_setRow (bel_trans HW.out.1 (Below.refl W3.heap.size W3).drew) (Nat.le_refl _) _
        rw [hW4]
        clear LRd STd hW4
        have LRd2 : (loadSem 48 (.pointer (some ⟨g2, o2, none⟩))).run Tryd.prog W4.drew = .ok (.agg (rt lb 0).cs) W4.drew := by
          have hlb4 := (HQ.out.2.2.2.2.2.2.2.2.2.2.later k4).later (Below.refl W4.heap.size W4).drew
          obtain ⟨g9, o9, e9, h9⟩ := hlb4.at9.spot HL2.out.1
          cases e9
          simpa using h9.load HL2.out.1
        have STd2 := st_rt (q := rt lb 0) (y4.later (Below.refl W4.heap.size W4).drew)
        have H4 := Lib.hid (And.intro x4 (And.intro y4 k4))
        have hr1 := HL2.out.1
        clear x4 y4 k4
        gi_wp2_with fail
        gi_region
        obtain ⟨W5, hW5⟩ : ∃ W5, W4.drew.setRow (wr.heap.size + 1) (rt lb 0).cs = W5 := ⟨_, rfl⟩
        have x5 : Blk W5 wr.heap.size 48 (rt la 0).cs := by rw [← hW5]; exact (setRow_other _ _ _ _ (by omega)).trans (H4.out.1.later (Below.refl W4.heap.size W4).drew)
        have y5 : Blk W5 (wr.heap.size + 1) 48 (rt lb 0).cs := by rw [← hW5]; exact (H4.out.2.1.later (Below.refl W4.heap.size W4).drew).row _
        have k5 : Below wr.heap.size wr W5 := by rw [← hW5]; exact below_setRow (bel_trans H4.out.2.2 (Below.refl W4.heap.size W4).drew) (by omega) _
        rw [hW5]
        clear LRd2 STd2 hW5
        have hY2 := H.out.1 k W5 HQ.out.2.2.2.2.1 (OwnFrom.low9 H.out.2.2.2.1 HQ.out.2.2.2.2.2.2.2.2.1 k5)
        unfold encB at hY2
        rw [HX.out.2.2.1] at hY2
        obtain ⟨fn, tmps, assign, body, hy, hRd⟩ := hY2
        have LX5 := rt_r x5 W5 (Below.refl _ _)
        have LY5 := rt_r y5 W5 (Below.refl _ _)
        have H5 := Lib.hid k5
        clear x5 y5 k5
        have hlaW : LoR lo S W5 x' (la.drop 1) := LoR.via HL.out.2 HW.out.1 H5.out (by have := HZ.out.2.2.2.2.1; have := HZ.out.2.2.2.2.2.2; omega)
        have hlbW : LoR lo S W5 y' (lb.drop 1) := LoR.via HL2.out.2.1 HW.out.1 H5.out (by have := HZ.out.2.2.2.2.1; have := HZ.out.2.2.2.2.2.2; omega)
        have H7 := Lib.hid (And.intro hlaW hlbW)
        clear hlaW hlbW
        gi_wp2_with fail
        refine hRd.mono ?_
        rintro e2 W6 ⟨hk6, ⟨rfl, hJ6⟩ | ⟨rfl, hJx6⟩⟩
        · have H6 := Lib.hid (And.intro hk6 hJ6)
          clear hk6 hJ6 hy
          gi_wp2
          refine ⟨⟨k + 1, la.drop 1, lb.drop 1, x', y', cx - 1, cy - 1, by simp, by simp, ?_, ?_, ?_, ?_, HX.out.2.2.2, H6.out.2, LoR.turn H7.out.1 H6.out.1 (by omega) (turn_ok9 lo S), LoR.turn H7.out.2 H6.out.1 (by omega) (turn_ok9 lo S), ?_, HQ.out.2.2.2.2.1⟩, ?_⟩
          · have := HZ.out.1; simp; omega
          · have := HZ.out.2.1; simp; omega
          · have := HZ.out.2.2.1; simp; omega
          · have := HZ.out.2.2.2.1; simp; omega
          · have := HZ.out.2.2.2.2.1; have := H5.out.size; have := H6.out.1.size; omega
          · simp [slLen]; omega
        · gi_wp2
          refine bodyPost_ret (results_none rfl _ _ _) rfl ?_
          exact ⟨⟨_, rfl⟩, .inr ⟨k, HQ.out.2.2.2.2.1, hJx6⟩⟩
      · have dl : decide (q ≤ 0) = false := decide_eq_false (by omega)
        have dr : decide (0 ≤ q) = true := decide_eq_true (by omega)
        have hx := HQ.out.2.2.2.2.2.2.1.later HW.out.2
        have hy9 := HQ.out.2.2.2.2.2.2.2.1.later HW.out.2
        have ex := HQ.out.1
        have en := HQ.out.2.1
        rw [if_neg (by omega : ¬ q ≤ 0), if_pos (by omega : 0 ≤ q)] at ex en
        have hla' := HQ.out.2.2.2.2.2.2.2.2.2.1.later HW.out.1
        have HL := Lib.hid hla'
        clear hla'
        have hrne : lb ≠ [] := nr_right HQ.out.2.2.2.1 (by rw [HQ.out.2.2.1]; omega)
        have hr1 : 0 < lb.length := List.length_pos_iff.2 hrne
        have hlb3 := HQ.out.2.2.2.2.2.2.2.2.2.2.later HW.out.1
        obtain ⟨y', ct2, hlb'⟩ := cutT_run hlb3 HZ.out.2.1 hr1
        obtain ⟨g2, o2, rfl, hrow2⟩ := hlb3.at9.spot hr1
        have HL2 := Lib.hid (And.intro hr1 (And.intro hlb' (And.intro hlb3 hrow2)))
        clear hrne hlb3 hlb' hrow2
        have HX := Lib.hid (And.intro hx (And.intro hy9 (And.intro ex en)))
        clear hx hy9 ex en hq0
        gi_wp2_with fail
        obtain ⟨W4, hW4⟩ : ∃ W4, W3 = W4 := ⟨_, rfl⟩
        have x4 : Blk W4 wr.heap.size 48 Rt.zero.cs := by rw [← hW4]; exact HX.out.1
        have y4 : Blk W4 (wr.heap.size + 1) 48 Rt.zero.cs := by rw [← hW4]; exact HX.out.2.1
        have k4 : Below wr.heap.size wr W4 := by rw [← hW4]; exact HW.out.1
        rw [hW4]
        clear hW4
        have LRd2 : (loadSem 48 (.pointer (some ⟨g2, o2, none⟩))).run Tryd.prog W4.drew = .ok (.agg (rt lb 0).cs) W4.drew := by
          have hlb4 := (HQ.out.2.2.2.2.2.2.2.2.2.2.later k4).later (Below.refl W4.heap.size W4).drew
          obtain ⟨g9, o9, e9, h9⟩ := hlb4.at9.spot HL2.out.1
          cases e9
          simpa using h9.load HL2.out.1
        have STd2 := st_rt (q := rt lb 0) (y4.later (Below.refl W4.heap.size W4).drew)
        have H4 := Lib.hid (And.intro x4 (And.intro y4 k4))
        have hr1 := HL2.out.1
        clear x4 y4 k4
        gi_region
        obtain ⟨W5, hW5⟩ : ∃ W5, W4.drew.setRow (wr.heap.size + 1) (rt lb 0).cs = W5 := ⟨_, rfl⟩
        have x5 : Blk W5 wr.heap.size 48 Rt.zero.cs := by rw [← hW5]; exact (setRow_other _ _ _ _ (by omega)).trans (H4.out.1.later (Below.refl W4.heap.size W4).drew)
        have y5 : Blk W5 (wr.heap.size + 1) 48 (rt lb 0).cs := by rw [← hW5]; exact (H4.out.2.1.later (Below.refl W4.heap.size W4).drew).row _
        have k5 : Below wr.heap.size wr W5 := by rw [← hW5]; exact below_setRow (bel_trans H4.out.2.2 (Below.refl W4.heap.size W4).drew) (by omega) _
        rw [hW5]
        clear LRd2 STd2 hW5
        have hY2 := H.out.1 k W5 HQ.out.2.2.2.2.1 (OwnFrom.low9 H.out.2.2.2.1 HQ.out.2.2.2.2.2.2.2.2.1 k5)
        unfold encB at hY2
        rw [HX.out.2.2.1] at hY2
        obtain ⟨fn, tmps, assign, body, hy, hRd⟩ := hY2
        have LX5 := rt_r x5 W5 (Below.refl _ _)
        have LY5 := rt_r y5 W5 (Below.refl _ _)
        have H5 := Lib.hid k5
        clear x5 y5 k5
        have hlaW : LoR lo S W5 x la := HQ.out.2.2.2.2.2.2.2.2.2.1.later H5.out
        have hlbW : LoR lo S W5 y' (lb.drop 1) := LoR.via HL2.out.2.1 HW.out.1 H5.out (by have := HZ.out.2.2.2.2.1; have := HZ.out.2.2.2.2.2.2; omega)
        have H7 := Lib.hid (And.intro hlaW hlbW)
        clear hlaW hlbW
        gi_wp2_with fail
        refine hRd.mono ?_
        rintro e2 W6 ⟨hk6, ⟨rfl, hJ6⟩ | ⟨rfl, hJx6⟩⟩
        · have H6 := Lib.hid (And.intro hk6 hJ6)
          clear hk6 hJ6 hy
          gi_wp2
          refine ⟨⟨k + 1, la, lb.drop 1, x, y', cx, cy - 1, rfl, by simp, ?_, ?_, ?_, ?_, HX.out.2.2.2, H6.out.2, LoR.turn H7.out.1 H6.out.1 (by omega) (turn_ok9 lo S), LoR.turn H7.out.2 H6.out.1 (by omega) (turn_ok9 lo S), ?_, HQ.out.2.2.2.2.1⟩, ?_⟩
          · have := HZ.out.1; simp; omega
          · have := HZ.out.2.1; simp; omega
          · have := HZ.out.2.2.1; simp; omega
          · have := HZ.out.2.2.2.1; simp; omega
          · have := HZ.out.2.2.2.2.1; have := H5.out.size; have := H6.out.1.size; omega
          · simp [slLen]; omega
        · gi_wp2
          refine bodyPost_ret (results_none rfl _ _ _) rfl ?_
          exact ⟨⟨_, rfl⟩, .inr ⟨k, HQ.out.2.2.2.2.1, hJx6⟩⟩
    · have e1 : la = [] := Classical.byContradiction fun h => hne (.inl h)
      have e2 : lb = [] := Classical.byContradiction fun h => hne (.inr h)
      subst e1 e2
      have hkk : k = (mg A B).length := by
        rw [mg_none] at hmg
        have := (List.drop_eq_nil_iff).1 hmg.symm
        omega
      subst hkk
      have HJ := Lib.hid hJs
      have d0 : decide (0 < (([] : List Rt).length : Int) + (([] : List Rt).length : Int)) = false := rfl
      clear hJs hla hlb hne hmg
      gi_wp2
      go_end0
      exact ⟨⟨_, rfl⟩, .inl HJ.out⟩
end Go.Proofs.YtdbdmnahgkkjiaaDoor
