/-
  Bytes appended to bytes that a call owns; the contract of table.Encode. Nothing here is a statement of the document.
-/
import Derived.Test.YtdbdmnahgkkjiaaDoorTbL
import Derived.Test.YtdbdmnahgkkjiaaDoorTbX
import Derived.Test.YtdbdmnahgkkjiaaDoorLinV
namespace Go.Proofs.YtdbdmnahgkkjiaaDoor
open Go.RowKit Go.Shelf
set_option linter.unusedVariables false
set_option maxRecDepth 100000
/-- Bytes that a call owns, from block B on. -/
abbrev OwnB (w : World) (B : Nat) (v : Value) (l : List Nat) : Prop := w.ownsRow B 5 1 v l.length (l.map byc)
theorem OwnB.later {w w' : World} {B : Nat} {v : Value} {l : List Nat} (h : OwnB w B v l) (k : Below w.heap.size w w') : OwnB w' B v l := own_later2 h k
theorem OwnB.less {w : World} {B C : Nat} {v : Value} {l : List Nat} (h : OwnB w B v l) (hC : C ≤ B) : OwnB w C v l := by
  refine ⟨h.1, ?_⟩
  rcases h.2 with h | ⟨g, cap, cur, h1, h2, h3⟩
  · exact .inl h
  · exact .inr ⟨g, cap, cur, h1, Nat.le_trans hC h2, h3⟩
theorem OwnB.same9 {w w' : World} {B : Nat} {v : Value} {l : List Nat} (h : OwnB w B v l) (hs : ∀ g, v.ownBlock = some g → w'.heap[g]? = w.heap[g]?) : OwnB w' B v l := by
  refine ⟨h.1, ?_⟩
  rcases h.2 with h | ⟨g, cap, cur, h1, h2, h3, h4⟩
  · exact .inl h
  · exact .inr ⟨g, cap, cur, h1, h2, (hs g (by rw [h1]; rfl)).trans h3, h4⟩
theorem OwnB.lies {w : World} {B : Nat} {v : Value} {l : List Nat} (h : OwnB w B v l) : ∃ a c, v = .slice a l.length c ∧ l.length ≤ c ∧ c ≤ maxLen ∧ Lies w a l ∧ ∀ x, a = some x → B ≤ x.block := by
  rcases h.2 with ⟨rfl, h0⟩ | ⟨g, cap, cur, rfl, hb, hg, hc, hm, hs, ht⟩
  · have : l = [] := List.eq_nil_of_length_eq_zero h0
    subst this
    exact ⟨none, 0, rfl, by simp, by unfold maxLen; omega, .inl rfl, fun x hx => by cases hx⟩
  · refine ⟨_, cap, rfl, hc, hm, .inr ⟨g, 0, rfl, (Array.getElem?_eq_some_iff.1 hg).1, fun i hi => ?_⟩, fun x hx => by cases hx; exact hb⟩
    rw [Nat.zero_add, cell_of_row w g i cur _ _ hg, ← Array.getElem?_toList]
    have : (cur.toList.take l.length)[i]? = (l.map byc)[i]? := by
      have ht2 := ht
      rw [Nat.mul_one] at ht2
      rw [ht2]
    rw [List.getElem?_take, if_pos hi] at this
    rw [this, List.getElem?_map, List.getElem?_eq_getElem hi]
    simp [byc, List.getD_eq_getElem?_getD, List.getElem?_eq_getElem hi]
theorem byc_one9 (l : List Nat) : ∀ u ∈ l.map byc, u.oneCell' = true := fun u hu => by
  obtain ⟨x, _, rfl⟩ := List.mem_map.1 hu
  rfl
theorem bapp_run {w : World} {B : Nat} {v : Value} {L M : List Nat} {x : Addr} {m c : Nat} (h : OwnB w B v L) (hm : M.length = m) (hM : Lies w (some x) M) (hs : L.length + m ≤ 1000000) (hB : B ≤ w.heap.size) :
    ∃ v' w', (∀ ty : TypeId, (Builtin.append_ #[39, 39] ty #[v, .slice (some x) m c]).run Tryd.prog w = .ok v' w') ∧ OwnB w' B v' (L ++ M) ∧ w.grownBy w' v.ownBlock := by
  obtain ⟨i0, hi, hz0, hz1, hz2⟩ := info_parts Tryd.info5
  have hsrc : ∀ j u, (M.map byc)[j]? = some u → w.cell? (x.add j) = some u := by
    intro j u hj
    have hjl : j < M.length := by have := (List.getElem?_eq_some_iff.1 hj).1; simpa using this
    rcases hM with rfl | ⟨g, o, e, hb, hc⟩
    · simp at hjl
    · cases e
      rw [Addr.add_lit, hc j hjl]
      rw [List.getElem?_map, List.getElem?_eq_getElem hjl] at hj
      simp at hj
      rw [← hj]
      simp [byc, List.getD_eq_getElem?_getD, List.getElem?_eq_getElem hjl]
  have key : ∀ ty : TypeId, ∃ v' w', (Builtin.append_ #[39, 39] ty #[v, .slice (some x) m c]).run Tryd.prog w = .ok v' w' ∧ OwnB w' B v' (L ++ M) ∧ w.grownBy w' v.ownBlock := fun ty => by
    obtain ⟨v', w', h1, h2, h3, _⟩ := run_append_own (P := Tryd.prog) w B 39 ty 5 i0 (.int .u8 0) 1 1 Tryd.underlying39 hi hz0 hz1 hz2 rfl (by decide) v L.length (L.map byc) h x m c (M.map byc) (by simp [hm]) hsrc (byc_one9 M) (by unfold maxLen; omega) (by omega) hB
    refine ⟨v', w', h1, ?_, h3⟩
    show w'.ownsRow B _ 1 v' (L ++ M).length ((L ++ M).map byc)
    rw [List.length_append, hm, List.map_append]
    exact h2
  obtain ⟨v', w', h1, h2, h3⟩ := key 39
  exact ⟨v', w', fun ty => h1, h2, h3⟩
theorem one_byte (w : World) (x : Nat) : Lies (w.alloc (.cells #[.int .u8 (x : Int)] 5)) (some ⟨w.heap.size, 0, none⟩) [x] := by
  have hb := Blk.new w 5 #[.int .u8 (x : Int)]
  refine .inr ⟨w.heap.size, 0, rfl, hb.lt, fun i hi => ?_⟩
  have : i = 0 := by simp at hi; omega
  subst this
  exact hb.cell 0
/-- The bytes of rows, and of a table. -/
noncomputable def rowsB (L : List Rt) : List Nat := L.flatMap (fun r => encP r.p ++ [r.h.toNat])
noncomputable def tabB (L : List Rt) : List Nat := L.length :: rowsB L
theorem rowsB_next {L : List Rt} {k : Nat} (h : k < L.length) : rowsB (L.take (k + 1)) = rowsB (L.take k) ++ (encP (rt L k).p ++ [(rt L k).h.toNat]) := by
  rw [List.take_add_one, rt_some h]
  simp [rowsB]
theorem encP_b {p : Px} (h : okP p) : 2 ≤ (encP p).length ∧ (encP p).length ≤ 18 := by
  have h1 := encP_len h
  have hf := fill8_le (n := p.n.toNat) (by have := h.2.2.1; have := wid_le p.a.v; omega)
  omega
theorem rowsB_len : ∀ L : List Rt, (∀ r ∈ L, okP r.p) → (rowsB L).length ≤ 19 * L.length
  | [], _ => by simp [rowsB]
  | r :: L, h => by
    have h1 := rowsB_len L (fun x hx => h x (by simp [hx]))
    have h2 := (encP_b (h r (by simp))).2
    have : rowsB (r :: L) = (encP r.p ++ [r.h.toNat]) ++ rowsB L := by simp [rowsB]
    rw [this]
    simp
    omega
theorem wrap_b9 {k : Nat} (h : k ≤ 255) : IntKind.u8.wrap (k : Int) = (k : Int) := by
  unfold IntKind.wrap
  simp [IntKind.bits, IntKind.signed]
  omega
theorem wrap_oneD {j : Nat} (h : j + 1 ≤ 4001) : wrap64 ((j : Int) + 1) = ((j + 1 : Nat) : Int) := by unfold wrap64; omega
theorem measD {cnt k : Nat} (h : k < cnt) (hw : wrap64 ((k : Int) + 1) = ((k + 1 : Nat) : Int)) : cnt - (intOf (.int .i64 (wrap64 ((k : Int) + 1)))).toNat < cnt - (intOf (.int .i64 (k : Int))).toNat := by
  rw [hw]
  simp only [intOf]
  omega
theorem bbuild1_run (x : Nat) (w : World) : (Instr.buildSlice 39 1 #[(0, .int .u8 (x : Int))]).run Tryd.prog w = .ok (.slice (some ⟨w.heap.size, 0, none⟩) 1 1) (w.alloc (.cells #[.int .u8 (x : Int)] 5)) := by kernel_rfl
def bbuildSem (n : Nat) (parts : Array (Nat × Value)) : Sem Value := Instr.buildSlice 39 n parts
theorem bbuild_rule (n : Nat) (parts : Array (Nat × Value)) : Instr.buildSlice 39 n parts = bbuildSem n parts := rfl
theorem bbuild1_run9 (x : Nat) (w : World) : (bbuildSem 1 #[(0, .int .u8 (x : Int))]).run Tryd.prog w = .ok (.slice (some ⟨w.heap.size, 0, none⟩) 1 1) (w.alloc (.cells #[.int .u8 (x : Int)] 5)) := bbuild1_run x w
theorem bown1 (x : Nat) (w : World) : OwnB (w.alloc (.cells #[.int .u8 (x : Int)] 5)) w.heap.size (.slice (some ⟨w.heap.size, 0, none⟩) 1 1) [x] := own_one w x
attribute [local go_sem ↓] load_b16_rule store_b16_rule load_ad_rule store_ad_rule load_px_rule store_px_rule eq_b16_rule eq_ad_rule eq_px_rule load_rt_rule store_rt_rule build_ad_rule build_px_rule build_b16_rule build_rt_rule load_tab_rule build_tab_rule store_tab_rule tbuild_rule tapp_rule tcopy_rule eq_rt_rule bbuild_rule
set_option maxHeartbeats 8000000 in
theorem tencode_any (a : Option Addr) (n c : Nat) (L : List Rt) (w : World) (hW : Wid w) (hn : L.length = n) (hT : Tbl w a c L) :
    Calls Tryd.prog 15 #[.agg #[.slice a n c]] w fun e w' => ∃ v, e = .returned (.tuple #[v, .int .i64 (eT L)]) ∧ (okT L → OwnB w' w.heap.size v (tabB L)) ∧ (¬ okT L → v = .slice none 0 0) ∧ Below w.heap.size w w' := by
  have hm : n ≤ 9223372036854775807 := by have := hT.le; have := hT.cap; unfold maxLen at this; omega
  obtain ⟨W1, hW1⟩ : ∃ W1, w.alloc (.cells #[.slice a n c] 24) = W1 := ⟨_, rfl⟩
  have hb1 : Below w.heap.size w W1 := by rw [← hW1]; exact (Below.refl _ _).alloc (Nat.le_refl _) _
  have b1 : Blk W1 w.heap.size 24 #[.slice a n c] := by rw [← hW1]; exact Blk.new w _ _
  have LT := tab_t b1
  have CT := tab_c b1
  have HCK := fun w' (h : Below W1.heap.size W1 w') => tcheck_any a n c L w' ((hW.later hb1).later h) hn hm ((hT.at'.later hb1).later h)
  have h0 : Below W1.heap.size W1 W1 := Below.refl _ _
  have HB := Lib.hid (And.intro hb1 (And.intro hn (And.intro (fun w' (h : Below W1.heap.size W1 w') => (hT.at'.later hb1).later h) (fun w' (h : Below W1.heap.size W1 w') => (hW.later hb1).later h))))
  clear hT hW hb1 b1 hn hm
  by_cases hok : okT L
  · rw [eT_ok hok] at HCK ⊢
    have hn40 : n ≤ 40 := by have := hok.1; have := HB.out.2.1; omega
    have hcv : IntKind.u8.wrap (n : Int) = (n : Int) := wrap_b9 (by omega)
    have HO := Lib.hid (And.intro hok hn40)
    clear hok hn40
    go_enter Tryd.func15, Tryd.ntmps15
    go_wp2_with fail
    refine (HCK _ (by assumption)).mono ?_
    rintro e w2 ⟨rfl, hb2⟩
    have r2 := bbuild1_run9 n w2
    obtain ⟨W3, hW3⟩ : ∃ W3, w2.alloc (.cells #[.int .u8 (n : Int)] 5) = W3 := ⟨_, rfl⟩
    rw [hW3] at r2
    have k23 : Below w2.heap.size w2 W3 := by rw [← hW3]; exact (Below.refl _ _).alloc (Nat.le_refl _) _
    have o3 : OwnB W3 W1.heap.size (.slice (some ⟨w2.heap.size, 0, none⟩) 1 1) [n] := by
      have h9 := bown1 n w2
      rw [hW3] at h9
      exact h9.less hb2.size
    have C2 := CT w2 hb2
    have C3 := CT W3 (bel_trans hb2 k23)
    have H3 := Lib.hid (And.intro (bel_trans hb2 k23) o3)
    clear hb2 k23 o3 HCK hW3 h0
    go_wp2_with fail
    go_loopw [5, 23] (fun ov i wr => ∃ (k m : Nat) (va : Option Addr) (vc : Nat) (O : List Nat), k ≤ n ∧ i = .int .i64 (k : Int) ∧ ov = .slice va m vc ∧ O.length = m ∧ O = n :: rowsB (L.take k) ∧ OwnB wr W1.heap.size (.slice va m vc) O ∧ Below W1.heap.size W1 wr) (fun _ i _ => n - (intOf i).toNat)
    case atStart => exact ⟨0, 1, _, 1, [n], Nat.zero_le _, rfl, rfl, rfl, by simp [rowsB], H3.out.2, H3.out.1⟩
    case round =>
      obtain ⟨k, m, va, vc, O, hk, rfl, rfl, hOm, hOe, hown, hkb⟩ := hrel
      by_cases hlt : k < n
      · have hkl : k < L.length := by have := HB.out.2.1; omega
        obtain ⟨g, o, rfl, hrow⟩ := (HB.out.2.2.1 wr hkb).spot hkl
        have hokr : okR (rt L k) := HO.out.1.2.1 _ (rt_mem hkl)
        have HWk := Lib.hid (wrap_oneD (j := k) (by have := HO.out.2; omega))
        have LR := hrow.load hkl
        obtain ⟨W2, hW2⟩ : ∃ W2, wr.alloc (.cells (rt L k).cs 48) = W2 := ⟨_, rfl⟩
        have S2 := st_rt (q := rt L k) (Blk.new wr 48 Rt.zero.cs)
        rw [World.setRow_alloc_new, hW2] at S2
        have b2 : Blk W2 wr.heap.size 48 (rt L k).cs := by rw [← hW2]; exact Blk.new _ _ _
        have kb2 : Below wr.heap.size wr W2 := by rw [← hW2]; exact (Below.refl _ _).alloc (Nat.le_refl _) _
        have k12 : Below W1.heap.size W1 W2 := bel_trans hkb kb2
        have LP2 := rt_p b2 W2 (Below.refl _ _)
        have HEN := encode_any (rt L k).p W2 (HB.out.2.2.2 W2 k12)
        rw [eP_ok hokr.1] at HEN
        have HK := Lib.hid (And.intro hkb (And.intro hown (And.intro hOm (And.intro hOe (And.intro b2 (And.intro k12 (And.intro hokr (And.intro kb2 hkl))))))))
        clear hkb hown hOm hOe b2 k12 hokr hrow kb2 hkl hW2
        go_wp2_with (with_reducible refine wpList_alloc_z rfl 48 rfl Rt.zero.cs 19 z_rt ?_)
        refine HEN.mono ?_
        rintro e w4 ⟨pv, rfl, hg, _, hb4⟩
        have hgp : OwnB w4 W2.heap.size pv (encP (rt L k).p) := hg HK.out.2.2.2.2.2.2.1.1
        obtain ⟨pa, pc, rfl, _, _, hpl, hpb⟩ := hgp.lies
        obtain ⟨P, hP⟩ : ∃ P, encP (rt L k).p = P := ⟨_, rfl⟩
        have hPb := encP_b HK.out.2.2.2.2.2.2.1.1
        rw [hP] at hgp hpl hPb
        obtain ⟨q, hq⟩ : ∃ q, P.length = q := ⟨_, rfl⟩
        obtain ⟨pax, rfl⟩ : ∃ x, pa = some x := by
          rcases hgp.2 with ⟨e1, h1⟩ | ⟨g9, cap9, cur9, e1, _⟩
          · omega
          · injection e1 with e2; exact ⟨_, e2⟩
        rw [hP, hq]
        rw [hq] at hgp
        obtain ⟨hp, hhp⟩ : ∃ hp, (rt L k).h.toNat = hp := ⟨_, rfl⟩
        have hhi : (rt L k).h = (hp : Int) := by have := HK.out.2.2.2.2.2.2.1.2.1; omega
        have hp255 : hp ≤ 255 := by have := HK.out.2.2.2.2.2.2.1.2.2; omega
        have hcv2 : IntKind.u8.wrap (hp : Int) = (hp : Int) := wrap_b9 hp255
        have hOlen : O.length ≤ 1000 := by
          have h1 := rowsB_len (L.take k) (fun r hr => (HO.out.1.2.1 r (List.mem_of_mem_take hr)).1)
          have := HO.out.2
          have h2 : (L.take k).length ≤ 40 := by rw [List.length_take]; have := HB.out.2.1; omega
          rw [HK.out.2.2.2.1]
          simp at h1 ⊢
          omega
        obtain ⟨r, hr⟩ : ∃ r, rt L k = r := ⟨_, rfl⟩
        obtain ⟨X0, hX0⟩ : ∃ X0, w4.drew = X0 := ⟨_, rfl⟩
        have k40 : Below w4.heap.size w4 X0 := by rw [← hX0]; exact (Below.refl _ _).drew
        have b4 := HK.out.2.2.2.2.1.later (bel_trans hb4 k40)
        rw [hr] at b4
        have own0 := HK.out.2.1.later (bel_trans HK.out.2.2.2.2.2.2.2.1 (bel_trans hb4 k40))
        have hgp0 := hgp.later k40
        have kw0 : Below W1.heap.size W1 X0 := bel_trans HK.out.2.2.2.2.2.1 (bel_trans hb4 k40)
        have hvb : ∀ x, (Value.slice va m vc).ownBlock = some x → W1.heap.size ≤ x ∧ x < wr.heap.size := fun x hx => HK.out.2.1.lt x hx
        have hs2 : wr.heap.size < W2.heap.size := by have := HK.out.2.2.2.2.1.lt; exact this
        have hs4 : W2.heap.size ≤ w4.heap.size := hb4.size
        have hs40 : w4.heap.size ≤ X0.heap.size := k40.size
        have hsw : W1.heap.size ≤ wr.heap.size := HK.out.1.size
        have hrh : r.h = (hp : Int) := by rw [← hr]; exact hhi
        have hOm := HK.out.2.2.1
        obtain ⟨S0, hS0⟩ : ∃ S0 : World → Prop, S0 = fun w' => OwnB w' W2.heap.size (.slice (some pax) q pc) P ∧ Blk w' wr.heap.size 48 r.cs ∧ Below W1.heap.size W1 w' ∧ X0.heap.size ≤ w'.heap.size := ⟨_, rfl⟩
        obtain ⟨Pr, hPr⟩ : ∃ Pr : Nat → World → Prop, Pr = fun d w' => d = 2 → OwnB w' W1.heap.size (.slice va m vc) O := ⟨_, rfl⟩
        obtain ⟨Ph, hPh⟩ : ∃ Ph : Nat → Value → World → Prop, Ph = fun d v w' => (d = 2 → OwnB w' W1.heap.size v (O ++ P)) ∧ (d = 6 → ∃ g, v = .slice (some ⟨g, 0, none⟩) 1 1 ∧ Lies w' (some ⟨g, 0, none⟩) [hp] ∧ X0.heap.size ≤ g) := ⟨_, rfl⟩
        have hS00 : S0 X0 := by rw [hS0]; exact ⟨hgp0, b4, kw0, Nat.le_refl _⟩
        have hPr0 : ∀ d, Pr d X0 := fun d => by rw [hPr]; exact fun _ => own0
        -- what the two operations do
        have do2 : ∀ w', S0 w' → Pr 2 w' → ∃ v w2, (∀ ty : TypeId, (Builtin.append_ #[39, 39] ty #[.slice va m vc, .slice (some pax) q pc]).run Tryd.prog w' = .ok v w2) ∧ S0 w2 ∧ (∀ d, d ≠ 2 → Pr d w' → Pr d w2) ∧ (∀ d u, d ≠ 2 → Ph d u w' → Ph d u w2) ∧ Ph 2 v w2 := by
          intro w' h1 h2
          rw [hS0] at h1
          rw [hPr] at h2
          have h2' := h2 rfl
          rw [← hOm] at h2'
          have hsz' := h1.2.2.1.size
          obtain ⟨_, _, e1, _, _, hpl', _⟩ := h1.1.lies
          injection e1 with e1a
          obtain ⟨v, w2, r1, r2, r3⟩ := bapp_run (c := pc) h2' hq (by rw [e1a]; exact hpl') (by omega) (by omega)
          rw [hOm] at r1
          have hbo : ∀ g, g < w'.heap.size → (W1.heap.size ≤ g → g < wr.heap.size → False) → w2.heap[g]? = w'.heap[g]? := fun g hg hn9 => r3.block g hg (fun e => by
            rw [hOm] at e
            have := hvb g e.symm
            exact hn9 this.1 this.2)
          have q3 := r3.size
          refine ⟨v, w2, r1, ?_, ?_, ?_, ?_⟩
          · rw [hS0]
            refine ⟨h1.1.same9 (fun g hg => hbo g (h1.1.lt g hg).2 (fun _ h9 => by have := (h1.1.lt g hg).1; omega)), (hbo _ h1.2.1.lt (fun _ h9 => by omega)).trans h1.2.1, ?_, by omega⟩
            exact h1.2.2.1.grown r3 hsz' (fun x hx => (hvb x (by rw [hOm] at hx; exact hx)).1)
          · intro d hd h3
            rw [hPr] at h3 ⊢
            exact fun e => absurd e hd
          · intro d u hd h3
            rw [hPh] at h3 ⊢
            refine ⟨fun e => absurd e hd, fun e => ?_⟩
            obtain ⟨g, e1, e2, e3⟩ := h3.2 e
            refine ⟨g, e1, ?_, e3⟩
            rcases e2 with e2 | ⟨b, off, e4, e5, e6⟩
            · exact .inl e2
            · cases e4
              have hg9 : w2.heap[g]? = w'.heap[g]? := hbo g e5 (fun _ h9 => by omega)
              exact .inr ⟨_, _, rfl, by omega, fun i hi => (World.cell?_of_block (w := w') hg9).trans (e6 i hi)⟩
          · rw [hPh]
            exact ⟨fun _ => r2, fun e => by omega⟩
        have do6 : ∀ w', S0 w' → ∃ v w2, (bbuildSem 1 #[(0, .int .u8 (hp : Int))]).run Tryd.prog w' = .ok v w2 ∧ S0 w2 ∧ (∀ d, d ≠ 6 → Pr d w' → Pr d w2) ∧ (∀ d u, d ≠ 6 → Ph d u w' → Ph d u w2) ∧ Ph 6 v w2 := by
          intro w' h1
          have k6 : Below w'.heap.size w' (w'.alloc (.cells #[.int .u8 (hp : Int)] 5)) := (Below.refl _ _).alloc (Nat.le_refl _) _
          rw [hS0] at h1
          refine ⟨_, _, bbuild1_run9 hp w', ?_, ?_, ?_, ?_⟩
          · rw [hS0]
            exact ⟨h1.1.later k6, h1.2.1.later k6, bel_trans h1.2.2.1 k6, by have := k6.size; omega⟩
          · intro d hd h3
            rw [hPr] at h3 ⊢
            exact fun e => (h3 e).later k6
          · intro d u hd h3
            rw [hPh] at h3 ⊢
            exact ⟨fun e => (h3.1 e).later k6, fun e => absurd e hd⟩
          · rw [hPh]
            exact ⟨fun e => by omega, fun _ => ⟨_, rfl, one_byte w' hp, h1.2.2.2⟩⟩
        have cH : ∀ w', S0 w' → w'.cell? ⟨wr.heap.size, 18, none⟩ = some (.int .i64 (hp : Int)) := fun w' h => by rw [hS0] at h; have := rt_h h.2.1 w' (Below.refl _ _); rwa [hrh] at this
        have hne : ∀ i, [2, 6].contains i = true → ∃ v w, Ph i v w := fun i hi => by
          have hi2 : i = 2 ∨ i = 6 := by simpa using hi
          rcases hi2 with rfl | rfl
          · obtain ⟨v, w9, _, _, _, _, h9⟩ := do2 X0 hS00 (hPr0 2); exact ⟨v, w9, h9⟩
          · obtain ⟨v, w9, _, _, _, _, h9⟩ := do6 X0 hS00; exact ⟨v, w9, h9⟩
        have HD := Lib.hid (And.intro hS0 (And.intro hPh (And.intro hhp (And.intro hP (And.intro hr (And.intro hq (And.intro hvb (And.intro hOlen hPb))))))))
        clear hb4 hgp hpl hpb hPb hq hhp hhi hp255 hOlen k40 b4 own0 hgp0 kw0 hvb hs2 hs4 hs40 hsw hrh hOm hPr hS0 hPh hP hg HEN S2
        rw [hr]
        clear hr
        go_wp2_with fail
        refine wp_region_linV S0 Pr Ph [2, 6] [7] [0, 1, 3, 4, 5, 2, 6] [7, 8] (by kernel_rfl) (by kernel_rfl) hne (by rw [hX0]; exact hS00) (by rw [hX0]; exact hPr0) ?_
        (refine linV_op (v := ?_) rfl rfl (by rfl) (fun w9 hS9 => ?_) ?_; rotate_left; (focus (((try dsimp only at hS9);  go_simp; (try go_bits)) <;> with_reducible rfl)); (try simp only [Act.put, List.getElem_toArray, List.getElem_cons_zero, List.getElem_cons_succ, List.setIfInBounds_toArray, List.set_cons_zero, List.set_cons_succ]))
        (refine linV_op (v := ?_) rfl rfl (by rfl) (fun w9 hS9 => ?_) ?_; rotate_left; (focus (((try dsimp only at hS9);  go_simp; (try go_bits)) <;> with_reducible rfl)); (try simp only [Act.put, List.getElem_toArray, List.getElem_cons_zero, List.getElem_cons_succ, List.setIfInBounds_toArray, List.set_cons_zero, List.set_cons_succ]))
        (refine linV_op (v := ?_) rfl rfl (by rfl) (fun w9 hS9 => ?_) ?_; rotate_left; (focus (((try dsimp only at hS9);  go_simp; (try go_bits)) <;> with_reducible rfl)); (try simp only [Act.put, List.getElem_toArray, List.getElem_cons_zero, List.getElem_cons_succ, List.setIfInBounds_toArray, List.set_cons_zero, List.set_cons_succ]))
        (refine linV_op (v := ?_) rfl rfl (by rfl) (fun w9 hS9 => ?_) ?_; rotate_left; (focus (((try dsimp only at hS9); have k9 := cH w9 hS9;  go_simp; (try go_bits)) <;> with_reducible rfl)); (try simp only [Act.put, List.getElem_toArray, List.getElem_cons_zero, List.getElem_cons_succ, List.setIfInBounds_toArray, List.set_cons_zero, List.set_cons_succ]))
        (refine linV_op (v := ?_) rfl rfl (by rfl) (fun w9 hS9 => ?_) ?_; rotate_left; (focus (((try dsimp only at hS9);  go_simp; (try go_bits)) <;> with_reducible rfl)); (try simp only [Act.put, List.getElem_toArray, List.getElem_cons_zero, List.getElem_cons_succ, List.setIfInBounds_toArray, List.set_cons_zero, List.set_cons_succ]))
        refine linV_do rfl rfl (by rfl) (fun w9 hS9 hQ9 hF9 => ?_) (fun v2 hv2 => ?_)
        · obtain ⟨v, w8, r8, rest⟩ := do2 w9 hS9 hQ9
          exact ⟨v, w8, by have r := r8 39; simp [execOp, resolve, invoke, builtin, Act.eval, r, Result.andThen], rest⟩
        obtain ⟨a2, c2, rfl⟩ : ∃ a2 c2, v2 = .slice a2 (O ++ P).length c2 := by
          obtain ⟨w9, h9⟩ := hv2
          rw [HD.out.2.1] at h9
          obtain ⟨a2, c2, e, _⟩ := (h9.1 rfl).lies
          exact ⟨a2, c2, e⟩
        obtain ⟨n2, hn2⟩ : ∃ n2, (O ++ P).length = n2 := ⟨_, rfl⟩
        rw [hn2]
        (try simp only [Act.put, List.getElem_toArray, List.getElem_cons_zero, List.getElem_cons_succ, List.setIfInBounds_toArray, List.set_cons_zero, List.set_cons_succ])
        refine linV_do rfl rfl (by rfl) (fun w9 hS9 hQ9 hF9 => ?_) (fun v6 hv6 => ?_)
        · obtain ⟨v, w8, r8, rest⟩ := do6 w9 hS9
          exact ⟨v, w8, by go_simp, rest⟩
        obtain ⟨g6, rfl⟩ : ∃ g6, v6 = .slice (some ⟨g6, 0, none⟩) 1 1 := by
          obtain ⟨w9, h9⟩ := hv6
          rw [HD.out.2.1] at h9
          obtain ⟨g6, e, _⟩ := h9.2 rfl
          exact ⟨g6, e⟩
        (try simp only [Act.put, List.getElem_toArray, List.getElem_cons_zero, List.getElem_cons_succ, List.setIfInBounds_toArray, List.set_cons_zero, List.set_cons_succ])
        refine linV_nil (fun w9 hS9 hF9 => ?_)
        have f2 := hF9 (2, .slice a2 n2 c2) (by simp)
        have f6 := hF9 (6, .slice (some ⟨g6, 0, none⟩) 1 1) (by simp)
        rw [HD.out.1] at hS9
        rw [HD.out.2.1] at f2 f6
        have o2 := f2.1 rfl
        obtain ⟨g7, e7, l7, _⟩ := f6.2 rfl
        injection e7 with e7a
        injection e7a with e7b
        injection e7b with e7c
        subst e7c
        have hlen2 : (O ++ P).length ≤ 1100 := by have := HD.out.2.2.2.2.2.2.2.1; have := HD.out.2.2.2.2.2.2.2.2.2; rw [List.length_append]; omega
        obtain ⟨v7, w7, r7, o7, g7r⟩ := bapp_run (c := 1) o2 (m := 1) rfl l7 (by omega) hS9.2.2.1.size
        obtain ⟨a7, c7, rfl, _⟩ := o7.lies
        have ho2lt := o2.lt
        have k7 : Below W1.heap.size W1 w7 := hS9.2.2.1.grown g7r hS9.2.2.1.size (fun x hx => (ho2lt x (by cases a2 <;> exact hx)).1)
        have hOP : (O ++ P) ++ [hp] = n :: rowsB (L.take (k + 1)) := by
          rw [rowsB_next HK.out.2.2.2.2.2.2.2.2, HD.out.2.2.2.1, HD.out.2.2.1, HK.out.2.2.2.1]
          simp
        have HE := Lib.hid (And.intro o7 (And.intro k7 (And.intro hOP hn2)))
        obtain ⟨m7, hm7⟩ : ∃ m7, ((O ++ P) ++ [hp]).length = m7 := ⟨_, rfl⟩
        rw [hm7] at r7
        clear f2 f6 o2 l7 g7r ho2lt k7 hOP hS9 hF9 hlen2 hv6 hv2 do2 do6 cH hne hS00 hPr0 hX0
        refine linX_do (v := .slice a7 m7 c7) (w' := w7) rfl rfl (by rfl) (by have r := r7 39; simp [execOp, resolve, invoke, builtin, Act.eval, r, Result.andThen]) trivial ?_
        (try simp only [Act.put, List.getElem_toArray, List.getElem_cons_zero, List.getElem_cons_succ, List.setIfInBounds_toArray, List.set_cons_zero, List.set_cons_succ])
        (refine linX_op (v := ?_) rfl rfl (by rfl) (fun w9 _ => ?_) ?_; rotate_left; (focus (go_simp <;> with_reducible rfl)); (try simp only [Act.put, List.getElem_toArray, List.getElem_cons_zero, List.getElem_cons_succ, List.setIfInBounds_toArray, List.set_cons_zero, List.set_cons_succ]))
        refine linX_nil ?_
        go_wp2_with fail
        go_roundw
        case rel =>
          refine ⟨k + 1, m7, a7, c7, (O ++ P) ++ [hp], by omega, by rw [HWk.out], rfl, hm7, HE.out.2.2.1, ?_, HE.out.2.1⟩
          rw [← hm7]; exact HE.out.1
        case measure => exact measD hlt HWk.out
      · obtain rfl : k = n := by omega
        have e1 : L.take k = L := List.take_of_length_le (by rw [HB.out.2.1]; omega)
        rw [e1] at hOe
        have e2 : O = tabB L := by rw [hOe, tabB, HB.out.2.1]
        subst e2
        have HQ := Lib.hid (And.intro hown (And.intro hkb hOm))
        clear hown hkb hOe hOm e1
        go_wp2_with fail
        go_ret2
        refine ⟨_, rfl, fun _ => ?_, fun h => absurd HO.out.1 h, bel_trans HB.out.1 HQ.out.2.1⟩
        exact HQ.out.1.less HB.out.1.size
  · rw [eT_no hok] at HCK ⊢
    have HO := Lib.hid hok
    clear hok
    go_enter Tryd.func15, Tryd.ntmps15
    go_wp2_with fail
    refine (HCK _ (by assumption)).mono ?_
    rintro e w2 ⟨rfl, hb2⟩
    have HH := Lib.hid hb2
    clear hb2 HCK h0
    go_wp2_with fail
    go_ret2
    exact ⟨.slice none 0 0, rfl, fun h => absurd h HO.out, fun _ => rfl, bel_trans HB.out.1 HH.out⟩
end Go.Proofs.YtdbdmnahgkkjiaaDoor
