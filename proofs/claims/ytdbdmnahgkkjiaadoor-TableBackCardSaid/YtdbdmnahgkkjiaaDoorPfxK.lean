/-
  The contracts of prefix's reader.addr and of read. Nothing here is a statement of the document.
-/
import Derived.Test.YtdbdmnahgkkjiaaDoorPfxJ
namespace Go.Proofs.YtdbdmnahgkkjiaaDoor
open Go.RowKit Go.Shelf
set_option linter.unusedVariables false
attribute [local go_sem ↓] load_b16_rule store_b16_rule load_ad_rule store_ad_rule load_px_rule store_px_rule eq_b16_rule eq_ad_rule eq_px_rule build_ad_rule build_px_rule

section
variable {P : Program} {ops : Array Oper} {Q : Exit → Act → World → Prop} {S : World → Prop}
/-- A copy into a row that is known whole. -/
theorem linX_copy {eff : List Nat} {i : Nat} {o : Oper} {r : List Nat} {a : Act} {w : World} (hi : ops[i]? = some o) (he : eff.contains i = true) (hw : Region.wanted o (yielded ops a.tmps) = true) (d s : Operand) (dT sT : TypeId)
    (ho : o.op = .call { callee := .builtin .copy, args := #[d, s], argTypes := #[dT, sT] }) (elem : TypeId) (hu : P.underlying dT = some (.slice elem)) (hsz : (P.info? elem).map (·.size) = some 1)
    (dp sp : Option Addr) (dLen dCap sLen sCap : Nat) (hd : a.eval d = .slice dp dLen dCap) (hs : a.eval s = .slice sp sLen sCap)
    (g off : Nat) (cur : List Value) (t : TypeId) (hg : w.heap[g]? = some (.cells cur.toArray t (0, 0))) (cs : List Value) (hn : cs.length = Nat.min sLen dLen)
    (hpos : 0 < cs.length → dp = some ⟨g, off, none⟩ ∧ ∃ ad, sp = some ad ∧ ∀ j v, cs[j]? = some v → w.cell? (ad.add j) = some v)
    (hfit : off + cs.length ≤ cur.length) (h1 : ∀ v ∈ cs, v.oneCell' = true)
    (h : ∀ w', Blk w' g t (splice cur off cs).toArray → Kept [g] w w' → S w' ∧ LinX P ops Q S eff r (a.put o.dst (goInt cs.length)) w') : LinX P ops Q S eff (i :: r) a w := by
  by_cases h0 : cs.length = 0
  · obtain rfl : cs = [] := List.eq_nil_of_length_eq_zero h0
    have hrun := run_copy_none (P := P) w dT sT o.type elem dp sp dLen dCap sLen sCap hu hsz (by simpa using hn.symm)
    obtain ⟨h2, h3⟩ := h w (show _ = _ by simpa [splice] using hg) (Kept.refl _ _)
    refine linX_do hi he hw ?_ h2 h3
    simp [execOp, ho, resolve, invoke, builtin, hd, hs, hrun, Result.andThen]
  · obtain ⟨rfl, ad, rfl, hsrc⟩ := hpos (by omega)
    have hrun := run_copy_row (P := P) w dT sT o.type elem g off dLen dCap ad sLen sCap cur.toArray t cs hu hsz hg hn hsrc (by simpa using hfit) h1
    obtain ⟨h2, h3⟩ := h _ (show _ = _ by simpa [splice] using setRow_heap w g _ _ t _ hg) ((Kept.refl [g] w).setRow (.inl (by simp)) _)
    refine linX_do hi he hw ?_ h2 h3
    simp [execOp, ho, resolve, invoke, builtin, hd, hs, hrun, Result.andThen, splice]
end

theorem Bys.append2 {l m : List Nat} (h : Bys l) (h2 : Bys m) : Bys (l ++ m) := fun n hn => by
  rcases List.mem_append.1 hn with h9 | h9
  · exact h n h9
  · exact h2 n h9
theorem Bys.take2 {l : List Nat} (h : Bys l) (k : Nat) : Bys (l.take k) := fun n hn => h n (List.mem_of_mem_take hn)
theorem Bys.drop2 {l : List Nat} (h : Bys l) (k : Nat) : Bys (l.drop k) := fun n hn => h n (List.mem_of_mem_drop hn)
/-- Bytes, filled up to sixteen with noughts. -/
def padB (l : List Nat) : B16 := ⟨(l.map (· % 256) ++ List.replicate 16 0).take 16, by simp, (Bys.append2 (fun m hm => by obtain ⟨x, _, rfl⟩ := List.mem_map.1 hm; exact Nat.mod_lt _ (by omega)) (bys_zero 16)).take2 16⟩
theorem padB_at (l : List Nat) (h : Bys l) (i : Nat) (hi : i < 16) : (padB l).at i = l.getD i 0 := by
  have hz : ∀ k, (List.replicate 16 0)[k]?.getD 0 = 0 := fun k => by
    by_cases hk : k < 16
    · rw [List.getElem?_replicate, if_pos hk]; rfl
    · rw [List.getElem?_replicate, if_neg hk]; rfl
  have hx := h.at i
  generalize hZ : List.replicate 16 0 = Z at hz
  unfold padB B16.at
  simp only [List.getD_eq_getElem?_getD, List.getElem?_take, hi, if_true, hZ]
  by_cases h1 : i < l.length
  · rw [List.getElem?_append_left (by simpa using h1)]
    simp [h1] at hx ⊢
    omega
  · rw [List.getElem?_append_right (by simp; omega), List.getElem?_eq_none (by omega : l.length ≤ i), hz]
    rfl
theorem PR.keptS {w w' : World} {S : List Nat} {r p g : Nat} {L : List Nat} {j : Nat} {err : Int} {given : Nat} {fault : Int} {wrong : Bool} (h : PR w r p g L j err given fault wrong) (k : Kept S w w') (hr : r ∉ S) (hp : p ∉ S) (hg : g ∉ S) : PR w' r p g L j err given fault wrong :=
  ⟨h.rd.kept (k.block p h.rd.lt hp) (k.block g h.rd.own.lt hg), h.blk.kept k hr, h.g0⟩
theorem came_bys {L : List Nat} (h : Bys L) (j : Nat) (err n : Int) : Bys (came L j err n) := by
  unfold came
  split
  · intro x hx; simp at hx
  · split
    · intro x hx; simp at hx
    · split
      · intro x hx; simp at hx
      · exact (h.drop2 j).take2 _
theorem splice_ad (v : Int) (l : List Nat) (h : Bys l) : (splice (Ad.mk v B16.zero).cs.toList 1 ((l.take 16).map byc)).toArray = (Ad.mk v (padB l)).cs := by
  apply Array.ext_getElem?
  intro i
  rw [List.getElem?_toArray]
  have hl : 1 + ((l.take 16).map byc).length ≤ (Ad.mk v B16.zero).cs.toList.length := by simp [Ad.size]; omega
  rw [splice_get hl]
  rcases i with _ | i
  · rw [if_pos (by omega), Array.getElem?_toList, Ad.c0, Ad.c0]
  · rw [if_neg (by omega), show i + 1 = 1 + i from by omega]
    have e1 := Ad.c1 ⟨v, padB l⟩ i
    rw [e1]
    by_cases h1 : i < 16
    · rw [B16.get _ i h1, padB_at l h i h1]
      by_cases h2 : i < l.length
      · rw [if_pos (by simp; omega), show 1 + i - 1 = i from by omega]
        simp [byc, List.getElem?_take, h1, h2]
      · rw [if_neg (by simp; omega), Array.getElem?_toList, Ad.c1, B16.get _ i h1]
        have e3 : l.getD i 0 = 0 := by simp [List.getElem?_eq_none (by omega : l.length ≤ i)]
        have e4 : ∀ i, i < 16 → B16.zero.at i = 0 := by decide +kernel
        rw [e3]
        exact congrArg (fun x : Nat => some (Value.int .u8 (x : Int))) (e4 i h1)
    · rw [if_neg (by simp; omega), Array.getElem?_toList, Array.getElem?_eq_none (by rw [Ad.size]; omega), Array.getElem?_eq_none (by rw [B16.size]; omega)]

set_option maxRecDepth 100000 in
set_option maxHeartbeats 1600000 in
theorem addr_any {w : World} {r p g : Nat} {L : List Nat} {j : Nat} {err : Int} {given : Nat} {fault : Int} {wrong : Bool} (h : PR w r p g L j err given fault wrong) (hB : Bys L) (hlm : L.length ≤ 1000) (v : Int) (n : Nat) (hn : n ≤ 255) :
    Calls Tryd.prog 71 #[.pointer (some ⟨r, 0, none⟩), .int .i64 v, .int .i64 (n : Int)] w fun e w' => e = .returned (.agg (Ad.mk v (padB (came L j err (fill8 n : Nat)))).cs) ∧
      PR w' r p g L (offTo L.length j err (fill8 n : Nat)).1 (offTo L.length j err (fill8 n : Nat)).2 given fault (if keptB (padB (came L j err (fill8 n : Nat))) n = padB (came L j err (fill8 n : Nat)) then wrong else if (offTo L.length j err (fill8 n : Nat)).2 = 0 then true else wrong) ∧ Kept [r, p] w w' := by
  have hraw := fun w' h' => raw_any (p := p) (g := g) (j := j) (L := L) (err := err) (n := ((fill8 n : Nat) : Int)) (w := w') h' hB (by omega)
  have haft := fun w' w'' (h' : PR w' r p g L j err given fault wrong) ha => h'.aft (w' := w'') (n := ((fill8 n : Nat) : Int)) ha
  have hbys := came_bys hB j err ((fill8 n : Nat) : Int)
  generalize came L j err ((fill8 n : Nat) : Int) = raw at *
  generalize (offTo L.length j err ((fill8 n : Nat) : Int)).1 = j' at *
  generalize (offTo L.length j err ((fill8 n : Nat) : Int)).2 = err' at *
  have hfill := filled_any n hn
  generalize fill8 n = f at *
  generalize hwr : (if keptB (padB raw) n = padB raw then wrong else if err' = 0 then true else wrong) = wr'
  have HWR := Lib.hid hwr
  clear hwr
  obtain ⟨W1, hW1⟩ : ∃ W1, (w.alloc (.cells Ad.zero.cs 36)).alloc (.cells (Ad.mk v B16.zero).cs 36) = W1 := ⟨_, rfl⟩
  have hb1 : Below w.heap.size w W1 := by rw [← hW1]; exact ((Below.refl _ _).alloc (Nat.le_refl _) _).alloc (by simp) _
  have b1 : Blk W1 w.heap.size 36 Ad.zero.cs := by rw [← hW1]; exact (Blk.new w _ _).alloc _
  have b2 : Blk W1 (w.heap.size + 1) 36 (Ad.mk v B16.zero).cs := by
    have h9 := Blk.new (w.alloc (.cells Ad.zero.cs 36)) 36 (Ad.mk v B16.zero).cs
    rw [World.size_alloc] at h9
    rw [← hW1]; exact h9
  have hP1 := (h.below hb1).below (Below.refl W1.heap.size W1).drew
  have B1 := build_adv v
  have SN := st_ad (q := Ad.mk v B16.zero) (Blk.new (w.alloc (.cells Ad.zero.cs 36)) 36 Ad.zero.cs)
  rw [World.setRow_alloc_new, World.size_alloc, hW1] at SN
  have hrw : r < w.heap.size := h.blk.lt
  have hgw : g < w.heap.size := h.rd.own.lt
  have HKP := Lib.hid (fun (b : B16) w' => kept_any b n hn w')
  have hpw : p < w.heap.size := h.rd.lt
  have H1 := Lib.hid (And.intro hb1 (And.intro b1 (And.intro b2 hP1)))
  have HR := Lib.hid (And.intro hraw (And.intro haft hbys))
  clear hraw haft hbys hB hlm hn
  have hc0 : W1.drew.cell? ⟨r, 0, none⟩ = some (.pointer (some ⟨p, 0, none⟩)) := hP1.c.1
  clear hb1 b1 b2 hP1 h
  go_enter Tryd.func71, Tryd.ntmps71
  go_wp2_with (first | (with_reducible refine wpList_alloc_z rfl 36 rfl Ad.zero.cs 17 z_ad ?_))
  refine wp_region_linX (fun w' => w'.cell? ⟨r, 0, none⟩ = some (.pointer (some ⟨p, 0, none⟩))) [8, 9] [0, 1, 2, 3, 4, 5, 6, 7, 8, 9] (by kernel_rfl) (by kernel_rfl) hc0 ?_
  (repeat (first | (refine linX_off rfl rfl (by rfl) ?_; (try simp only [Act.put, List.getElem_toArray, List.getElem_cons_zero, List.getElem_cons_succ, List.setIfInBounds_toArray, List.set_cons_zero, List.set_cons_succ])) | (refine linX_op (v := ?_) rfl rfl (by rfl) (fun w9 hS9 => ?_) ?_; rotate_left; (focus (((try dsimp only at hS9); go_simp; (try go_bits)) <;> with_reducible rfl)); (try simp only [Act.put, List.getElem_toArray, List.getElem_cons_zero, List.getElem_cons_succ, List.setIfInBounds_toArray, List.set_cons_zero, List.set_cons_succ])) | (refine linX_fn (f := 74) rfl rfl (by rfl) rfl rfl (enters_of Tryd.func74 (by kernel_rfl) rfl) (fun w9 hS9 => (hfill w9).mono (fun e w' h => ⟨h.1, h.2⟩)) ?_ ?_; (focus (simp [Act.eval]; done)); (try simp only [Act.put, List.getElem_toArray, List.getElem_cons_zero, List.getElem_cons_succ, List.setIfInBounds_toArray, List.set_cons_zero, List.set_cons_succ]))))
  refine linX_call (f := 82) (args := #[.pointer (some ⟨p, 0, none⟩), .int .i64 (f : Int)]) rfl rfl (by rfl) rfl rfl (enters_of Tryd.func82 (by kernel_rfl) rfl) ?_ ?_; (focus (simp [Act.eval]; done))
  refine (HR.out.1 _ H1.out.2.2.2.rd).mono ?_
  rintro e w3 ⟨vr, rfl, ⟨ar, cr, rfl, hL, hge, hn0⟩, hA⟩
  have hP3 := HR.out.2.1 _ _ H1.out.2.2.2 hA
  refine ⟨_, rfl, hP3.1.c.1, ?_⟩
  (try simp only [Act.put, List.getElem_toArray, List.getElem_cons_zero, List.getElem_cons_succ, List.setIfInBounds_toArray, List.set_cons_zero, List.set_cons_succ])
  have hb3 : Blk w3 (w.heap.size + 1) 36 (Ad.mk v B16.zero).cs := H1.out.2.2.1.drew.kept hP3.2 (by simp; omega)
  have hz3 : Blk w3 w.heap.size 36 Ad.zero.cs := H1.out.2.1.drew.kept hP3.2 (by simp; omega)
  refine linX_copy rfl rfl (by rfl) (.tmp 11) (.tmp 18) 39 39 rfl 5 Tryd.underlying39 Tryd.size5 (some ⟨w.heap.size + 1, 1, none⟩) ar 16 16 raw.length cr rfl rfl (w.heap.size + 1) 1 (Ad.mk v B16.zero).cs.toList 36 hb3 ((raw.take 16).map byc) ?_ ?_ ?_ (byc_one _) ?_
  · rw [List.length_map, List.length_take]; exact Nat.min_comm _ _
  · intro h0
    have hL2 : Lies w3 ar (raw.take 16) := by
      rcases hL with h9 | ⟨b, off, h1, h2, h3⟩
      · exact .inl (by rw [h9]; rfl)
      · refine .inr ⟨b, off, h1, h2, fun i hi => ?_⟩
        rw [List.length_take] at hi
        rw [h3 i (by omega)]
        simp [List.getElem?_take, show i < 16 by omega]
    obtain ⟨ad, e9, hq⟩ := hL2.cells (by simpa using h0)
    exact ⟨rfl, ad, e9, hq⟩
  · simp [Ad.size]; omega
  intro w4 hb4 hk4
  rw [splice_ad v raw HR.out.2.2] at hb4
  have hP4 : PR w4 r p g L j' err' given fault wrong := hP3.1.keptS hk4 (by simp; omega) (by simp; omega) (by simp; omega)
  have hz4 := hz3.kept hk4 (by simp)
  have hK4 : Kept [r, p] w w4 := ((Kept.of_below [r, p] (bel_drew H1.out.1)).trans hP3.2).trans2 hk4 (by intro i hi; right; have := List.mem_singleton.1 hi; omega)
  refine ⟨hP4.c.1, ?_⟩
  (try simp only [Act.put, List.getElem_toArray, List.getElem_cons_zero, List.getElem_cons_succ, List.setIfInBounds_toArray, List.set_cons_zero, List.set_cons_succ])
  refine linX_nil ?_
  have EQ := eqB (keptB (padB raw) n) (padB raw)
  have hkp := HKP.out (padB raw)
  have LB := ad_b hb4
  have L4 := Lib.hid (And.intro hb4 (And.intro hz4 (And.intro hP4 hK4)))
  have h04 : Below w4.heap.size w4 w4 := Below.refl _ _
  obtain ⟨q, hq⟩ : ∃ q, decide (keptB (padB raw) n = padB raw) = q := ⟨_, rfl⟩
  have HQ := Lib.hid (show (if keptB (padB raw) n = padB raw then wrong else if err' = 0 then true else wrong) = (if q = true then wrong else if err' = 0 then true else wrong) by rw [← hq]; simp)
  rw [hq] at EQ
  generalize keptB (padB raw) n = kb at EQ hkp
  clear hb3 hz3 hP3 hA hL hge hn0 hb4 hk4 hP4 hz4 hK4 hq HR SN hc0
  go_wp2_with (first | (go_at_call 60; refine (hkp _).mono ?_; rintro e w2 ⟨rfl, hb2⟩; have hk2 : Below w4.heap.size w4 w2 := bel_trans (by assumption) hb2; clear hb2) | (refine wp_region_lin (fun w' => Below w4.heap.size w4 w') (by kernel_rfl) (by kernel_rfl) (bel_drew (by assumption)) ?_; (repeat (first | (refine lin_off (by rfl) ?_; (try simp only [Act.put, List.setIfInBounds_toArray, List.set_cons_zero, List.set_cons_succ])) | (refine lin_op (v := ?_) (by rfl) (fun w9 hS9 => ?_) ?_; rotate_left; (focus (((try dsimp only at hS9); go_simp; (try go_bits)) <;> with_reducible rfl)); (try simp only [Act.put, List.setIfInBounds_toArray, List.set_cons_zero, List.set_cons_succ])) | (refine lin_fn (f := 60) (by rfl) rfl rfl (enters_of Tryd.func60 (by kernel_rfl) rfl) (fun w9 hS9 => (hkp w9).mono (fun e w' h => ⟨h.1, bel_trans hS9 h.2⟩)) ?_ ?_; (focus (simp [Act.eval]; done)); (try simp only [Act.put, List.setIfInBounds_toArray, List.set_cons_zero, List.set_cons_succ])))); refine lin_nil (fun w8 hS8 => ?_)))
  · obtain rfl : q = false := by cases q <;> simp_all
    refine (refuse_any (L4.out.2.2.1.below hS8)).mono ?_
    rintro e w9 ⟨rfl, hP9, hk9⟩
    have hb9 := (L4.out.1.later hS8).kept hk9 (by simp; omega)
    have hz9 := (L4.out.2.1.later hS8).kept hk9 (by simp; omega)
    have hK9 : Kept [r, p] w w9 := ((L4.out.2.2.2.trans (Kept.of_below [r, p] hS8))).trans hk9
    have L6 := ad_a hb9 w9 (Below.refl _ _)
    have S6 := st_ad (q := ⟨v, padB raw⟩) hz9
    have HX := Lib.hid (And.intro (hz9.row (Ad.mk v (padB raw)).cs) (And.intro (hP9.keptS ((Kept.refl [w.heap.size] w9).setRow (g := w.heap.size) (.inl (by simp)) (Ad.mk v (padB raw)).cs) (by simp; omega) (by simp; omega) (by simp; omega)) (hK9.setRow (g := w.heap.size) (.inr (Nat.le_refl _)) (Ad.mk v (padB raw)).cs)))
    clear hb9 hz9 hP9 hk9 hK9 LB
    go_wp2
    refine bodyPost_ret (results_cell_row rfl _ _ w.heap.size 36 _ (0, 0) _ rfl HX.out.1 Tryd.underlying36 rfl (s_ad _)) rfl ?_
    refine ⟨rfl, ?_, HX.out.2.2⟩
    rw [← HWR.out, HQ.out]
    simpa using HX.out.2.1
  · obtain rfl : q = true := by cases q <;> simp_all
    have hb9 := L4.out.1.later hS8
    have hz9 := L4.out.2.1.later hS8
    have hP9 := L4.out.2.2.1.below hS8
    have hK9 : Kept [r, p] w w8 := (L4.out.2.2.2.trans (Kept.of_below [r, p] hS8))
    have L6 := ad_a hb9 w8 (Below.refl _ _)
    have S6 := st_ad (q := ⟨v, padB raw⟩) hz9
    have HX := Lib.hid (And.intro (hz9.row (Ad.mk v (padB raw)).cs) (And.intro (hP9.keptS ((Kept.refl [w.heap.size] w8).setRow (g := w.heap.size) (.inl (by simp)) (Ad.mk v (padB raw)).cs) (by simp; omega) (by simp; omega) (by simp; omega)) (hK9.setRow (g := w.heap.size) (.inr (Nat.le_refl _)) (Ad.mk v (padB raw)).cs)))
    clear hb9 hz9 hP9 hK9 LB
    go_wp2
    refine bodyPost_ret (results_cell_row rfl _ _ w.heap.size 36 _ (0, 0) _ rfl HX.out.1 Tryd.underlying36 rfl (s_ad _)) rfl ?_
    refine ⟨rfl, ?_, HX.out.2.2⟩
    rw [← HWR.out, HQ.out]
    simpa using HX.out.2.1

theorem Lies.ahead2 {w : World} {a : Option Addr} {l : List Nat} (h : Lies w a l) (o : Nat) : Lies w a (l.take o) := by
  rcases h with rfl | ⟨b, off, rfl, hlt, hc⟩
  · exact .inl (by simp)
  · refine .inr ⟨_, _, rfl, hlt, fun i hi => ?_⟩
    rw [List.length_take] at hi
    rw [hc i (by omega)]
    simp [List.getElem?_take, show i < o by omega]

set_option maxRecDepth 100000 in
set_option maxHeartbeats 1600000 in
theorem pread_any (a : Option Addr) (cap : Nat) (l : List Nat) (fault : Int) (w : World) (hlm : l.length ≤ 4000) (hc : l.length ≤ cap) (hcm : cap ≤ 9223372036854775807) (hL : Lies w a l) :
    Calls Tryd.prog 68 #[.slice a l.length cap, .int .i64 fault] w fun e w' => ∃ r p g, e = .returned (.pointer (some ⟨r, 0, none⟩)) ∧ w.heap.size ≤ r ∧ w.heap.size ≤ p ∧ PR w' r p g (l.take 18) 0 0 (l.take 18).length fault false ∧ Below w.heap.size w w' := by
  have hL2 := hL.ahead2 18
  have hlen : (l.take 18).length = min 18 l.length := List.length_take
  obtain ⟨m, hm⟩ : ∃ m : Nat, min 18 l.length = m := ⟨_, rfl⟩
  have hmin : (if (18 : Int) < ((l.length : Nat) : Int) then 18 else ((l.length : Nat) : Int)) = (m : Int) := by split <;> omega
  rw [hm] at hlen
  have hm0 : (0 : Int) ≤ (m : Int) := by omega
  have hmc : (m : Int) ≤ (cap : Int) := by omega
  have hrd := fun cap => read_any a m cap (l.take 18) w hlen (by omega) hL2
  generalize l.take 18 = l2 at *
  obtain ⟨n, hnn⟩ : ∃ n, l.length = n := ⟨_, rfl⟩
  rw [hnn] at hmin ⊢
  have HR := Lib.hid hrd
  have HN := Lib.hid hlen
  clear hrd hlen hL hL2 hm hnn hlm hc
  go_enter Tryd.func68, Tryd.ntmps68
  go_wp2_with fail
  refine (HR.out cap).mono ?_
  rintro e w2 ⟨p, rfl, hp, hR, hb2⟩
  have hpl := hR.lt
  have hgl := hR.own.lt
  have HX := Lib.hid (And.intro hp (And.intro hR hb2))
  clear hp hR hb2
  go_wp2
  go_ret
  refine ⟨w2.heap.size, p, w.heap.size, rfl, HX.out.2.2.size, Nat.le_of_lt HX.out.1, ⟨HX.out.2.1.below ((Below.refl _ _).alloc (Nat.le_refl _) _), ?_, by omega⟩, HX.out.2.2.alloc HX.out.2.2.size _⟩
  rw [HN.out]
  exact Blk.new _ _ _
end Go.Proofs.YtdbdmnahgkkjiaaDoor
