/-
  What prefix.DecodeAddr and Decode answer, of whatever bytes. Nothing here is a statement of the document.
-/
import Derived.Test.YtikdgbmdepplgaaGreatDoorPfxJ
namespace Go.Proofs.YtikdgbmdepplgaaGreatDoor
open Go.RowKit Go.Shelf
set_option linter.unusedVariables false
attribute [local go_sem ↓] load_b16_rule store_b16_rule load_ad_rule store_ad_rule load_px_rule store_px_rule eq_b16_rule eq_ad_rule eq_px_rule build_ad_rule build_px_rule

section
variable {P : Program} {ops : Array Oper} {Q : Exit → Act → World → Prop} {S : World → Prop}
/-- A copy into a row that is known whole. -/
theorem linX_copy {eff : List Nat} {i : Nat} {o : Oper} {r : List Nat} {a : Act} {w : World} (hi : ops[i]? = some o) (he : eff.contains i = true) (hw : Region.wanted o (yielded ops a.tmps) = true) (d s : Operand) (dT sT : TypeId)
    (ho : o.op = .call { callee := .builtin .copy, args := #[d, s], argTypes := #[dT, sT] }) (elem : TypeId) (hu : P.underlying dT = some (.slice elem)) (hsz : (P.info? elem).map (·.size) = some 1)
    (dp sp : Option Addr) (dLen dCap sLen sCap : Nat) (hd : a.eval d = .slice dp dLen dCap) (hs : a.eval s = .slice sp sLen sCap)
    (g off : Nat) (cur : List Value) (t : TypeId) (hg : w.heap[g]? = some (.cells cur.toArray t (0, 0))) (cs : List Value) (hn : cs.length = Nat.min sLen dLen)
    (hpos : 0 < cs.length → dp = some ⟨g, off, none⟩ ∧ ∃ ad, sp = some ad ∧ ∀ j v, cs[j]? = some v → w.cell? (ad.add j) = some v)
    (hfit : off + cs.length ≤ cur.length) (h1 : ∀ v ∈ cs, v.oneCell' = true)
    (h : ∀ w', Blk w' g t (splice cur off cs).toArray → Kept [g] w w' → S w' ∧ LinX P ops Q S eff r (a.put o.dst (goInt cs.length)) w') : LinX P ops Q S eff (i :: r) a w := by
  by_cases h0 : cs.length = 0
  · obtain rfl : cs = [] := List.eq_nil_of_length_eq_zero h0
    have hrun := run_copy_none (P := P) w dT sT o.type elem dp sp dLen dCap sLen sCap hu hsz (by simpa using hn.symm)
    obtain ⟨h2, h3⟩ := h w (show _ = _ by simpa [splice] using hg) (Kept.refl _ _)
    refine linX_do hi he hw ?_ h2 h3
    simp [execOp, ho, resolve, invoke, builtin, hd, hs, hrun, Result.andThen]
  · obtain ⟨rfl, ad, rfl, hsrc⟩ := hpos (by omega)
    have hrun := run_copy_row (P := P) w dT sT o.type elem g off dLen dCap ad sLen sCap cur.toArray t cs hu hsz hg hn hsrc (by simpa using hfit) h1
    obtain ⟨h2, h3⟩ := h _ (show _ = _ by simpa [splice] using setRow_heap w g _ _ t _ hg) ((Kept.refl [g] w).setRow (.inl (by simp)) _)
    refine linX_do hi he hw ?_ h2 h3
    simp [execOp, ho, resolve, invoke, builtin, hd, hs, hrun, Result.andThen, splice]
end

theorem Bys.append2 {l m : List Nat} (h : Bys l) (h2 : Bys m) : Bys (l ++ m) := fun n hn => by
  rcases List.mem_append.1 hn with h9 | h9
  · exact h n h9
  · exact h2 n h9
theorem Bys.take2 {l : List Nat} (h : Bys l) (k : Nat) : Bys (l.take k) := fun n hn => h n (List.mem_of_mem_take hn)
theorem Bys.drop2 {l : List Nat} (h : Bys l) (k : Nat) : Bys (l.drop k) := fun n hn => h n (List.mem_of_mem_drop hn)
/-- Bytes, filled up to sixteen with noughts. -/
def padB (l : List Nat) : B16 := ⟨(l.map (· % 256) ++ List.replicate 16 0).take 16, by simp, (Bys.append2 (fun m hm => by obtain ⟨x, _, rfl⟩ := List.mem_map.1 hm; exact Nat.mod_lt _ (by omega)) (bys_zero 16)).take2 16⟩
theorem padB_at (l : List Nat) (h : Bys l) (i : Nat) (hi : i < 16) : (padB l).at i = l.getD i 0 := by
  have hz : ∀ k, (List.replicate 16 0)[k]?.getD 0 = 0 := fun k => by
    by_cases hk : k < 16
    · rw [List.getElem?_replicate, if_pos hk]; rfl
    · rw [List.getElem?_replicate, if_neg hk]; rfl
  have hx := h.at i
  generalize hZ : List.replicate 16 0 = Z at hz
  unfold padB B16.at
  simp only [List.getD_eq_getElem?_getD, List.getElem?_take, hi, if_true, hZ]
  by_cases h1 : i < l.length
  · rw [List.getElem?_append_left (by simpa using h1)]
    simp [h1] at hx ⊢
    omega
  · rw [List.getElem?_append_right (by simp; omega), List.getElem?_eq_none (by omega : l.length ≤ i), hz]
    rfl
theorem PR.keptS {w w' : World} {S : List Nat} {r p g : Nat} {L : List Nat} {j : Nat} {err : Int} {given : Nat} {fault : Int} {wrong : Bool} (h : PR w r p g L j err given fault wrong) (k : Kept S w w') (hr : r ∉ S) (hp : p ∉ S) (hg : g ∉ S) : PR w' r p g L j err given fault wrong :=
  ⟨h.rd.kept (k.block p h.rd.lt hp) (k.block g h.rd.own.lt hg), h.blk.kept k hr, h.g0⟩
theorem came_bys {L : List Nat} (h : Bys L) (j : Nat) (err n : Int) : Bys (came L j err n) := by
  unfold came
  split
  · intro x hx; simp at hx
  · split
    · intro x hx; simp at hx
    · split
      · intro x hx; simp at hx
      · exact (h.drop2 j).take2 _
theorem splice_ad (v : Int) (l : List Nat) (h : Bys l) : (splice (Ad.mk v B16.zero).cs.toList 1 ((l.take 16).map byc)).toArray = (Ad.mk v (padB l)).cs := by
  apply Array.ext_getElem?
  intro i
  rw [List.getElem?_toArray]
  have hl : 1 + ((l.take 16).map byc).length ≤ (Ad.mk v B16.zero).cs.toList.length := by simp [Ad.size]; omega
  rw [splice_get hl]
  rcases i with _ | i
  · rw [if_pos (by omega), Array.getElem?_toList, Ad.c0, Ad.c0]
  · rw [if_neg (by omega), show i + 1 = 1 + i from by omega]
    have e1 := Ad.c1 ⟨v, padB l⟩ i
    rw [e1]
    by_cases h1 : i < 16
    · rw [B16.get _ i h1, padB_at l h i h1]
      by_cases h2 : i < l.length
      · rw [if_pos (by simp; omega), show 1 + i - 1 = i from by omega]
        simp [byc, List.getElem?_take, h1, h2]
      · rw [if_neg (by simp; omega), Array.getElem?_toList, Ad.c1, B16.get _ i h1]
        have e3 : l.getD i 0 = 0 := by simp [List.getElem?_eq_none (by omega : l.length ≤ i)]
        have e4 : ∀ i, i < 16 → B16.zero.at i = 0 := by decide +kernel
        rw [e3]
        exact congrArg (fun x : Nat => some (Value.int .u8 (x : Int))) (e4 i h1)
    · rw [if_neg (by simp; omega), Array.getElem?_toList, Array.getElem?_eq_none (by rw [Ad.size]; omega), Array.getElem?_eq_none (by rw [B16.size]; omega)]

set_option maxRecDepth 100000 in
set_option maxHeartbeats 1600000 in
theorem addr_any {w : World} {r p g : Nat} {L : List Nat} {j : Nat} {err : Int} {given : Nat} {fault : Int} {wrong : Bool} (h : PR w r p g L j err given fault wrong) (hB : Bys L) (hlm : L.length ≤ 1000) (v : Int) (n : Nat) (hn : n ≤ 255) :
    Calls Tryz.prog 83 #[.pointer (some ⟨r, 0, none⟩), .int .i64 v, .int .i64 (n : Int)] w fun e w' => e = .returned (.agg (Ad.mk v (padB (came L j err (fill8 n : Nat)))).cs) ∧
      PR w' r p g L (offTo L.length j err (fill8 n : Nat)).1 (offTo L.length j err (fill8 n : Nat)).2 given fault (if keptB (padB (came L j err (fill8 n : Nat))) n = padB (came L j err (fill8 n : Nat)) then wrong else if (offTo L.length j err (fill8 n : Nat)).2 = 0 then true else wrong) ∧ Kept [r, p] w w' := by
  have hraw := fun w' h' => raw_any (p := p) (g := g) (j := j) (L := L) (err := err) (n := ((fill8 n : Nat) : Int)) (w := w') h' hB (by omega)
  have haft := fun w' w'' (h' : PR w' r p g L j err given fault wrong) ha => h'.aft (w' := w'') (n := ((fill8 n : Nat) : Int)) ha
  have hbys := came_bys hB j err ((fill8 n : Nat) : Int)
  generalize came L j err ((fill8 n : Nat) : Int) = raw at *
  generalize (offTo L.length j err ((fill8 n : Nat) : Int)).1 = j' at *
  generalize (offTo L.length j err ((fill8 n : Nat) : Int)).2 = err' at *
  have hfill := filled_any n hn
  generalize fill8 n = f at *
  generalize hwr : (if keptB (padB raw) n = padB raw then wrong else if err' = 0 then true else wrong) = wr'
  have HWR := Lib.hid hwr
  clear hwr
  obtain ⟨W1, hW1⟩ : ∃ W1, (w.alloc (.cells Ad.zero.cs 44)).alloc (.cells (Ad.mk v B16.zero).cs 44) = W1 := ⟨_, rfl⟩
  have hb1 : Below w.heap.size w W1 := by rw [← hW1]; exact ((Below.refl _ _).alloc (Nat.le_refl _) _).alloc (by simp) _
  have b1 : Blk W1 w.heap.size 44 Ad.zero.cs := by rw [← hW1]; exact (Blk.new w _ _).alloc _
  have b2 : Blk W1 (w.heap.size + 1) 44 (Ad.mk v B16.zero).cs := by
    have h9 := Blk.new (w.alloc (.cells Ad.zero.cs 44)) 44 (Ad.mk v B16.zero).cs
    rw [World.size_alloc] at h9
    rw [← hW1]; exact h9
  have hP1 := (h.below hb1).below (Below.refl W1.heap.size W1).drew
  have B1 := build_adv v
  have SN := st_ad (q := Ad.mk v B16.zero) (Blk.new (w.alloc (.cells Ad.zero.cs 44)) 44 Ad.zero.cs)
  rw [World.setRow_alloc_new, World.size_alloc, hW1] at SN
  have hrw : r < w.heap.size := h.blk.lt
  have hgw : g < w.heap.size := h.rd.own.lt
  have HKP := Lib.hid (fun (b : B16) w' => kept_any b n hn w')
  have hpw : p < w.heap.size := h.rd.lt
  have H1 := Lib.hid (And.intro hb1 (And.intro b1 (And.intro b2 hP1)))
  have HR := Lib.hid (And.intro hraw (And.intro haft hbys))
  clear hraw haft hbys hB hlm hn
  have hc0 : W1.drew.cell? ⟨r, 0, none⟩ = some (.pointer (some ⟨p, 0, none⟩)) := hP1.c.1
  clear hb1 b1 b2 hP1 h
  go_enter Tryz.func83, Tryz.ntmps83
  go_wp2_with (first | (with_reducible refine wpList_alloc_z rfl 44 rfl Ad.zero.cs 17 z_ad ?_))
  refine wp_region_linX (fun w' => w'.cell? ⟨r, 0, none⟩ = some (.pointer (some ⟨p, 0, none⟩))) [8, 9] [0, 1, 2, 3, 4, 5, 6, 7, 8, 9] (by kernel_rfl) (by kernel_rfl) hc0 ?_
  (repeat (first | (refine linX_off rfl rfl (by rfl) ?_; (try simp only [Act.put, List.getElem_toArray, List.getElem_cons_zero, List.getElem_cons_succ, List.setIfInBounds_toArray, List.set_cons_zero, List.set_cons_succ])) | (refine linX_op (v := ?_) rfl rfl (by rfl) (fun w9 hS9 => ?_) ?_; rotate_left; (focus (((try dsimp only at hS9); go_simp; (try go_bits)) <;> with_reducible rfl)); (try simp only [Act.put, List.getElem_toArray, List.getElem_cons_zero, List.getElem_cons_succ, List.setIfInBounds_toArray, List.set_cons_zero, List.set_cons_succ])) | (refine linX_fn (f := 79) rfl rfl (by rfl) rfl rfl (enters_of Tryz.func79 (by kernel_rfl) rfl) (fun w9 hS9 => (hfill w9).mono (fun e w' h => ⟨h.1, h.2⟩)) ?_ ?_; (focus (simp [Act.eval]; done)); (try simp only [Act.put, List.getElem_toArray, List.getElem_cons_zero, List.getElem_cons_succ, List.setIfInBounds_toArray, List.set_cons_zero, List.set_cons_succ]))))
  refine linX_call (f := 97) (args := #[.pointer (some ⟨p, 0, none⟩), .int .i64 (f : Int)]) rfl rfl (by rfl) rfl rfl (enters_of Tryz.func97 (by kernel_rfl) rfl) ?_ ?_; (focus (simp [Act.eval]; done))
  refine (HR.out.1 _ H1.out.2.2.2.rd).mono ?_
  rintro e w3 ⟨vr, rfl, ⟨ar, cr, rfl, hL, hge, hn0⟩, hA⟩
  have hP3 := HR.out.2.1 _ _ H1.out.2.2.2 hA
  refine ⟨_, rfl, hP3.1.c.1, ?_⟩
  (try simp only [Act.put, List.getElem_toArray, List.getElem_cons_zero, List.getElem_cons_succ, List.setIfInBounds_toArray, List.set_cons_zero, List.set_cons_succ])
  have hb3 : Blk w3 (w.heap.size + 1) 44 (Ad.mk v B16.zero).cs := H1.out.2.2.1.drew.kept hP3.2 (by simp; omega)
  have hz3 : Blk w3 w.heap.size 44 Ad.zero.cs := H1.out.2.1.drew.kept hP3.2 (by simp; omega)
  refine linX_copy rfl rfl (by rfl) (.tmp 11) (.tmp 18) 30 30 rfl 5 Tryz.underlying30 Tryz.size5 (some ⟨w.heap.size + 1, 1, none⟩) ar 16 16 raw.length cr rfl rfl (w.heap.size + 1) 1 (Ad.mk v B16.zero).cs.toList 44 hb3 ((raw.take 16).map byc) ?_ ?_ ?_ (byc_one _) ?_
  · rw [List.length_map, List.length_take]; exact Nat.min_comm _ _
  · intro h0
    have hL2 : Lies w3 ar (raw.take 16) := by
      rcases hL with h9 | ⟨b, off, h1, h2, h3⟩
      · exact .inl (by rw [h9]; rfl)
      · refine .inr ⟨b, off, h1, h2, fun i hi => ?_⟩
        rw [List.length_take] at hi
        rw [h3 i (by omega)]
        simp [List.getElem?_take, show i < 16 by omega]
    obtain ⟨ad, e9, hq⟩ := hL2.cells (by simpa using h0)
    exact ⟨rfl, ad, e9, hq⟩
  · simp [Ad.size]; omega
  intro w4 hb4 hk4
  rw [splice_ad v raw HR.out.2.2] at hb4
  have hP4 : PR w4 r p g L j' err' given fault wrong := hP3.1.keptS hk4 (by simp; omega) (by simp; omega) (by simp; omega)
  have hz4 := hz3.kept hk4 (by simp)
  have hK4 : Kept [r, p] w w4 := ((Kept.of_below [r, p] (bel_drew H1.out.1)).trans hP3.2).trans2 hk4 (by intro i hi; right; have := List.mem_singleton.1 hi; omega)
  refine ⟨hP4.c.1, ?_⟩
  (try simp only [Act.put, List.getElem_toArray, List.getElem_cons_zero, List.getElem_cons_succ, List.setIfInBounds_toArray, List.set_cons_zero, List.set_cons_succ])
  refine linX_nil ?_
  have EQ := eqB (keptB (padB raw) n) (padB raw)
  have hkp := HKP.out (padB raw)
  have LB := ad_b hb4
  have L4 := Lib.hid (And.intro hb4 (And.intro hz4 (And.intro hP4 hK4)))
  have h04 : Below w4.heap.size w4 w4 := Below.refl _ _
  obtain ⟨q, hq⟩ : ∃ q, decide (keptB (padB raw) n = padB raw) = q := ⟨_, rfl⟩
  have HQ := Lib.hid (show (if keptB (padB raw) n = padB raw then wrong else if err' = 0 then true else wrong) = (if q = true then wrong else if err' = 0 then true else wrong) by rw [← hq]; simp)
  rw [hq] at EQ
  generalize keptB (padB raw) n = kb at EQ hkp
  clear hb3 hz3 hP3 hA hL hge hn0 hb4 hk4 hP4 hz4 hK4 hq HR SN hc0
  go_wp2_with (first | (go_at_call 78; refine (hkp _).mono ?_; rintro e w2 ⟨rfl, hb2⟩; have hk2 : Below w4.heap.size w4 w2 := bel_trans (by assumption) hb2; clear hb2) | (refine wp_region_lin (fun w' => Below w4.heap.size w4 w') (by kernel_rfl) (by kernel_rfl) (bel_drew (by assumption)) ?_; (repeat (first | (refine lin_off (by rfl) ?_; (try simp only [Act.put, List.setIfInBounds_toArray, List.set_cons_zero, List.set_cons_succ])) | (refine lin_op (v := ?_) (by rfl) (fun w9 hS9 => ?_) ?_; rotate_left; (focus (((try dsimp only at hS9); go_simp; (try go_bits)) <;> with_reducible rfl)); (try simp only [Act.put, List.setIfInBounds_toArray, List.set_cons_zero, List.set_cons_succ])) | (refine lin_fn (f := 78) (by rfl) rfl rfl (enters_of Tryz.func78 (by kernel_rfl) rfl) (fun w9 hS9 => (hkp w9).mono (fun e w' h => ⟨h.1, bel_trans hS9 h.2⟩)) ?_ ?_; (focus (simp [Act.eval]; done)); (try simp only [Act.put, List.setIfInBounds_toArray, List.set_cons_zero, List.set_cons_succ])))); refine lin_nil (fun w8 hS8 => ?_)))
  · obtain rfl : q = false := by cases q <;> simp_all
    refine (refuse_any (L4.out.2.2.1.below hS8)).mono ?_
    rintro e w9 ⟨rfl, hP9, hk9⟩
    have hb9 := (L4.out.1.later hS8).kept hk9 (by simp; omega)
    have hz9 := (L4.out.2.1.later hS8).kept hk9 (by simp; omega)
    have hK9 : Kept [r, p] w w9 := ((L4.out.2.2.2.trans (Kept.of_below [r, p] hS8))).trans hk9
    have L6 := ad_a hb9 w9 (Below.refl _ _)
    have S6 := st_ad (q := ⟨v, padB raw⟩) hz9
    have HX := Lib.hid (And.intro (hz9.row (Ad.mk v (padB raw)).cs) (And.intro (hP9.keptS ((Kept.refl [w.heap.size] w9).setRow (g := w.heap.size) (.inl (by simp)) (Ad.mk v (padB raw)).cs) (by simp; omega) (by simp; omega) (by simp; omega)) (hK9.setRow (g := w.heap.size) (.inr (Nat.le_refl _)) (Ad.mk v (padB raw)).cs)))
    clear hb9 hz9 hP9 hk9 hK9 LB
    go_wp2
    refine bodyPost_ret (results_cell_row rfl _ _ w.heap.size 44 _ (0, 0) _ rfl HX.out.1 Tryz.underlying44 rfl (s_ad _)) rfl ?_
    refine ⟨rfl, ?_, HX.out.2.2⟩
    rw [← HWR.out, HQ.out]
    simpa using HX.out.2.1
  · obtain rfl : q = true := by cases q <;> simp_all
    have hb9 := L4.out.1.later hS8
    have hz9 := L4.out.2.1.later hS8
    have hP9 := L4.out.2.2.1.below hS8
    have hK9 : Kept [r, p] w w8 := (L4.out.2.2.2.trans (Kept.of_below [r, p] hS8))
    have L6 := ad_a hb9 w8 (Below.refl _ _)
    have S6 := st_ad (q := ⟨v, padB raw⟩) hz9
    have HX := Lib.hid (And.intro (hz9.row (Ad.mk v (padB raw)).cs) (And.intro (hP9.keptS ((Kept.refl [w.heap.size] w8).setRow (g := w.heap.size) (.inl (by simp)) (Ad.mk v (padB raw)).cs) (by simp; omega) (by simp; omega) (by simp; omega)) (hK9.setRow (g := w.heap.size) (.inr (Nat.le_refl _)) (Ad.mk v (padB raw)).cs)))
    clear hb9 hz9 hP9 hK9 LB
    go_wp2
    refine bodyPost_ret (results_cell_row rfl _ _ w.heap.size 44 _ (0, 0) _ rfl HX.out.1 Tryz.underlying44 rfl (s_ad _)) rfl ?_
    refine ⟨rfl, ?_, HX.out.2.2⟩
    rw [← HWR.out, HQ.out]
    simpa using HX.out.2.1

theorem Lies.ahead2 {w : World} {a : Option Addr} {l : List Nat} (h : Lies w a l) (o : Nat) : Lies w a (l.take o) := by
  rcases h with rfl | ⟨b, off, rfl, hlt, hc⟩
  · exact .inl (by simp)
  · refine .inr ⟨_, _, rfl, hlt, fun i hi => ?_⟩
    rw [List.length_take] at hi
    rw [hc i (by omega)]
    simp [List.getElem?_take, show i < o by omega]

set_option maxRecDepth 100000 in
set_option maxHeartbeats 1600000 in
theorem pread_any (a : Option Addr) (cap : Nat) (l : List Nat) (fault : Int) (w : World) (hlm : l.length ≤ 6000) (hc : l.length ≤ cap) (hcm : cap ≤ 9223372036854775807) (hL : Lies w a l) :
    Calls Tryz.prog 80 #[.slice a l.length cap, .int .i64 fault] w fun e w' => ∃ r p g, e = .returned (.pointer (some ⟨r, 0, none⟩)) ∧ w.heap.size ≤ r ∧ w.heap.size ≤ p ∧ PR w' r p g (l.take 18) 0 0 (l.take 18).length fault false ∧ Below w.heap.size w w' := by
  have hL2 := hL.ahead2 18
  have hlen : (l.take 18).length = min 18 l.length := List.length_take
  obtain ⟨m, hm⟩ : ∃ m : Nat, min 18 l.length = m := ⟨_, rfl⟩
  have hmin : (if (18 : Int) < ((l.length : Nat) : Int) then 18 else ((l.length : Nat) : Int)) = (m : Int) := by split <;> omega
  rw [hm] at hlen
  have hm0 : (0 : Int) ≤ (m : Int) := by omega
  have hmc : (m : Int) ≤ (cap : Int) := by omega
  have hrd := fun cap => read_any a m cap (l.take 18) w hlen (by omega) hL2
  generalize l.take 18 = l2 at *
  obtain ⟨n, hnn⟩ : ∃ n, l.length = n := ⟨_, rfl⟩
  rw [hnn] at hmin ⊢
  have HR := Lib.hid hrd
  have HN := Lib.hid hlen
  clear hrd hlen hL hL2 hm hnn hlm hc
  go_enter Tryz.func80, Tryz.ntmps80
  go_wp2_with fail
  refine (HR.out cap).mono ?_
  rintro e w2 ⟨p, rfl, hp, hR, hb2⟩
  have hpl := hR.lt
  have hgl := hR.own.lt
  have HX := Lib.hid (And.intro hp (And.intro hR hb2))
  clear hp hR hb2
  go_wp2
  go_ret
  refine ⟨w2.heap.size, p, w.heap.size, rfl, HX.out.2.2.size, Nat.le_of_lt HX.out.1, ⟨HX.out.2.1.below ((Below.refl _ _).alloc (Nat.le_refl _) _), ?_, by omega⟩, HX.out.2.2.alloc HX.out.2.2.size _⟩
  rw [HN.out]
  exact Blk.new _ _ _
end Go.Proofs.YtikdgbmdepplgaaGreatDoor
namespace Go.Proofs.YtikdgbmdepplgaaGreatDoor
open Go.RowKit Go.Shelf
set_option linter.unusedVariables false
attribute [local go_sem ↓] load_b16_rule store_b16_rule load_ad_rule store_ad_rule load_px_rule store_px_rule eq_b16_rule eq_ad_rule eq_px_rule build_ad_rule build_px_rule

theorem results_cell_tmp2 {fn : Func} {p u t : Tmp} {ty : TypeId} (h : fn.results = #[.cell p ty, .tmp u, .tmp t]) (tmps : Array Value) (P : Program) (w : World) :
    (results fn tmps).run P w =
      ((asAddr (tmps.getD p undef)).run P w).andThen fun a w₁ => ((loadVar ty a).run P w₁).andThen fun v w₂ => .ok (.tuple #[v, tmps.getD u undef, tmps.getD t undef]) w₂ := by
  simp only [results, h]
  simp [Sem.run_bind, Result.andThen]
theorem results_blk2 {fn : Func} {p u t : Tmp} {ty : TypeId} (h : fn.results = #[.cell p ty, .tmp u, .tmp t]) (tmps : Array Value) (w : World) (g : Nat) (vs : Array Value) (d : TypeDesc)
    (hp : tmps.getD p undef = .pointer (some ⟨g, 0, none⟩)) (hb : Blk w g ty vs) (hu : Tryz.prog.underlying ty = some d) (hd : d.isRow = true) (hi : (Tryz.prog.info? ty).map (·.size) = some vs.size) :
    (results fn tmps).run Tryz.prog w = .ok (.tuple #[.agg vs, tmps.getD u undef, tmps.getD t undef]) w := by
  have hl := run_loadVar_row (P := Tryz.prog) w g ty ty vs (0, 0) d hb hu (by cases d <;> simp_all) hi
  rw [results_cell_tmp2 h, hp]
  simp [asAddr, hl, Result.andThen]

set_option maxRecDepth 100000 in
set_option maxHeartbeats 1600000 in
theorem decode_walk (a : Option Addr) (cap : Nat) (l : List Nat) (w : World) (hW : Wid w) (hlm : l.length ≤ 6000) (hc : l.length ≤ cap) (hcm : cap ≤ 9223372036854775807) (hL : Lies w a l) (v1 : Int) (x : Ad) (j1 j3 : Nat) (e1 e3 : Int) (wr1 wr3 : Bool) (n1 : Nat) (j2 : Nat) (e2 : Int) (wr2 : Bool)
    (hver : ∀ w' r p g, PR w' r p g (l.take 18) 0 0 (l.take 18).length 151 false → Wid w' → r ≠ 0 ∧ p ≠ 0 → Calls Tryz.prog 81 #[.pointer (some ⟨r, 0, none⟩)] w' fun e w'' => e = .returned (.int .i64 v1) ∧ PR w'' r p g (l.take 18) j1 e1 (l.take 18).length 151 wr1 ∧ Kept [r, p] w' w'')
    (hbits : ∀ w' r p g, PR w' r p g (l.take 18) j1 e1 (l.take 18).length 151 wr1 → Calls Tryz.prog 82 #[.pointer (some ⟨r, 0, none⟩), .int .i64 ((wid v1 : Nat) : Int)] w' fun e w'' => e = .returned (.int .i64 (n1 : Int)) ∧ PR w'' r p g (l.take 18) j2 e2 (l.take 18).length 151 wr2 ∧ Kept [r, p] w' w'')
    (haddr : ∀ w' r p g, PR w' r p g (l.take 18) j2 e2 (l.take 18).length 151 wr2 → Calls Tryz.prog 83 #[.pointer (some ⟨r, 0, none⟩), .int .i64 v1, .int .i64 (n1 : Int)] w' fun e w'' => e = .returned (.agg x.cs) ∧ PR w'' r p g (l.take 18) j3 e3 (l.take 18).length 151 wr3 ∧ Kept [r, p] w' w'')
    (E : Int) (hE : (if wr3 then 151 else e3) = E) (hj3 : j3 ≤ (l.take 18).length) :
    Calls Tryz.prog 61 #[.slice a l.length cap] w fun e w' => (E = 0 → e = .returned (.tuple #[.agg (Px.mk x (n1 : Int)).cs, .int .i64 (j3 : Int), .int .i64 0])) ∧ (E ≠ 0 → e = .returned (.tuple #[.agg Px.zero.cs, .int .i64 0, .int .i64 E])) ∧ Below w.heap.size w w' := by
  obtain ⟨W1, hW1⟩ : ∃ W1, w.alloc (.cells Px.zero.cs 46) = W1 := ⟨_, rfl⟩
  have hb1 : Below w.heap.size w W1 := by rw [← hW1]; exact (Below.refl _ _).alloc (Nat.le_refl _) _
  have b1 : Blk W1 w.heap.size 46 Px.zero.cs := by rw [← hW1]; exact Blk.new w _ _
  have hs1 : W1.heap.size = w.heap.size + 1 := by rw [← hW1]; simp
  have hw0 : 0 < w.heap.size := by have := cell_lt (hW 0 (by omega)); omega
  have hrd := fun fault => pread_any a cap l fault W1 hlm hc hcm (hL.kept hb1)
  have hwd := width_any v1
  have hlen18 : (l.take 18).length ≤ 18 := by rw [List.length_take]; omega
  generalize l.take 18 = L at *
  obtain ⟨n, hnn⟩ : ∃ n, l.length = n := ⟨_, rfl⟩
  rw [hnn] at hrd ⊢
  generalize wid v1 = ww at *
  have H1 := Lib.hid (And.intro hb1 (And.intro b1 (And.intro hs1 (And.intro hw0 (hW.later hb1)))))
  have HV := Lib.hid hver
  have HA := Lib.hid haddr
  have HBI := Lib.hid hbits
  have HR := Lib.hid hrd
  have HE := Lib.hid (And.intro hE (And.intro hj3 hlen18))
  have HWD := Lib.hid hwd
  have BZ := build_px0
  have BP := build_px x (n1 : Int)
  clear hver haddr hrd hE hj3 hlen18 hb1 b1 hs1 hw0 hW hlm hc hcm hL hwd hnn hbits
  go_enter Tryz.func61, Tryz.ntmps61
  go_wp2_with (with_reducible refine wpList_alloc_z rfl 46 rfl Px.zero.cs 18 z_px ?_)
  refine (HR.out 151).mono ?_
  rintro e w2 ⟨r, p, g, rfl, hr0, hp0, hP, hb2⟩
  have hk0 : Kept [r, p] W1 w2 := Kept.of_below _ hb2
  have hne : r ≠ 0 ∧ p ≠ 0 := by have := H1.out.2.2.1; omega
  have hvv := HV.out w2 r p g hP (H1.out.2.2.2.2.later hb2) hne
  have hWW := H1.out.2.2.2.2.later hb2
  clear hP hW1
  go_wp2_with fail
  refine hvv.mono ?_
  rintro e w3 ⟨rfl, hP3, hk3⟩
  have hk03 := hk0.trans hk3
  have hW3 : Wid w3 := hWW.kept hk3 (by simp; exact ⟨fun e => hne.1 e.symm, fun e => hne.2 e.symm⟩)
  have hn3 := HWD.out w3 hW3
  have hbb := HBI.out w3 r p g hP3
  clear hP3 hvv
  go_wp2_with (go_at_call 77; refine hn3.mono ?_; rintro e w' ⟨rfl, rfl⟩)
  refine hbb.mono ?_
  rintro e w4 ⟨rfl, hP4, hk4⟩
  have hk04 := hk03.trans hk4
  have haa := HA.out w4 r p g hP4
  clear hP4 hbb
  go_wp2_with fail
  refine haa.mono ?_
  rintro e w5 ⟨rfl, hP5, hk5⟩
  have hk05 := hk04.trans hk5
  have hs5 : w.heap.size < w5.heap.size := by have := hk05.size; have := H1.out.2.2.1; omega
  have hS5 := st_px (q := (Px.mk x (n1 : Int))) (Blk.new w5 46 Px.zero.cs)
  rw [World.setRow_alloc_new] at hS5
  obtain ⟨w6, hw6⟩ : ∃ w6, w5.alloc (.cells (Px.mk x (n1 : Int)).cs 46) = w6 := ⟨_, rfl⟩
  rw [hw6] at hS5
  have hb6 : Below w5.heap.size w5 w6 := by rw [← hw6]; exact (Below.refl _ _).alloc (Nat.le_refl _) _
  have b6 : Blk w6 w5.heap.size 46 (Px.mk x (n1 : Int)).cs := by rw [← hw6]; exact Blk.new w5 _ _
  have hP6 := hP5.below hb6
  have hk06 : Kept [r, p] W1 w6 := hk05.trans (Kept.of_below _ hb6)
  have her := preader_err hP6
  have htk := taken_any (hP6.below (Below.refl w6.heap.size w6).drew) (by have := HE.out.2.2; omega) (Nat.sub_le _ _)
  rw [HE.out.1] at her
  have hj := HE.out.2.1
  have ej : L.length - (L.length - j3) = j3 := by omega
  rw [ej] at htk
  have z6 : Blk w6 w.heap.size 46 Px.zero.cs := H1.out.2.1.kept hk06 (by simp; have := H1.out.2.2.1; omega)
  have HK := Lib.hid (And.intro z6 (And.intro hk06 (And.intro b6 hs5)))
  have hr1 : w.heap.size ≤ r := by have := H1.out.2.2.1; omega
  have hp1 : w.heap.size ≤ p := by have := H1.out.2.2.1; omega
  have hbel : Below w.heap.size w w6 := H1.out.1.trans (hk06.below (by simp; omega) H1.out.1.size)
  have HBE := Lib.hid hbel
  clear haa hk5 hk05 hb6 hP5 hP6 hk06 hw6 z6 hbel hk04 hk03 hk0 hk3 hj ej
  go_wp2_with (first | (with_reducible refine wpList_alloc_z rfl 46 rfl Px.zero.cs 18 z_px ?_))
  refine her.mono ?_
  rintro e w' ⟨rfl, rfl⟩
  by_cases h0 : E = 0
  · subst h0
    have L8 := px_p HK.out.2.2.1
    have hd0 : ((0 : Int) != 0) = false := rfl
    have HTK := Lib.hid htk
    clear htk
    go_wp2
    refine wp_region_linX (fun w' => (loadSem 46 (.pointer (some ⟨w5.heap.size, 0, none⟩))).run Tryz.prog w' = .ok (.agg (Px.mk x (n1 : Int)).cs) w') [2, 3] [0, 1, 2, 3, 4, 5] (by kernel_rfl) (by kernel_rfl) (L8 _ (bel_drew (Below.refl _ _))) ?_
    (repeat (first | (refine linX_off rfl rfl (by rfl) ?_; (try simp only [Act.put, List.getElem_toArray, List.getElem_cons_zero, List.getElem_cons_succ, List.setIfInBounds_toArray, List.set_cons_zero, List.set_cons_succ])) | (refine linX_op (v := ?_) rfl rfl (by rfl) (fun w9 hS9 => ?_) ?_; rotate_left; (focus (((try dsimp only at hS9); go_simp; (try go_bits)) <;> with_reducible rfl)); (try simp only [Act.put, List.getElem_toArray, List.getElem_cons_zero, List.getElem_cons_succ, List.setIfInBounds_toArray, List.set_cons_zero, List.set_cons_succ])) ))
    refine linX_call (f := 85) (args := #[.pointer (some ⟨r, 0, none⟩)]) rfl rfl (by rfl) rfl rfl (enters_of Tryz.func85 (by kernel_rfl) rfl) ?_ ?_; (focus (simp [Act.eval]; done))
    refine HTK.out.mono ?_
    rintro e w7 ⟨rfl, hb7⟩
    have hb7' : Below w6.heap.size w6 w7 := ⟨hb7.os, hb7.tape, hb7.output, hb7.size, hb7.block⟩
    refine ⟨_, rfl, L8 w7 hb7', ?_⟩
    (try simp only [Act.put, List.getElem_toArray, List.getElem_cons_zero, List.getElem_cons_succ, List.setIfInBounds_toArray, List.set_cons_zero, List.set_cons_succ])
    have hz7 := HK.out.1.later hb7'
    have hX7 := HK.out.2.2.1.later hb7'
    have S7 := st_px (q := (Px.mk x (n1 : Int))) hz7
    have hX8 := hX7.kept ((Kept.refl [w.heap.size] w7).setRow (g := w.heap.size) (.inl (by simp)) (Px.mk x (n1 : Int)).cs) (by simp; have := HK.out.2.2.2; omega)
    have L9 := px_p hX8 _ (Below.refl _ _)
    refine linX_store (w' := w7.setRow w.heap.size (Px.mk x (n1 : Int)).cs) rfl rfl (by rfl) (by go_simp) L9 ?_
    (try simp only [Act.put, List.getElem_toArray, List.getElem_cons_zero, List.getElem_cons_succ, List.setIfInBounds_toArray, List.set_cons_zero, List.set_cons_succ])
    have HX := Lib.hid (And.intro (hz7.row (Px.mk x (n1 : Int)).cs) (below_setRow (HBE.out.trans (hb7'.mono (Nat.le_of_lt (Nat.lt_trans HK.out.2.2.2 (by have := HK.out.2.2.1.lt; omega))))) (Nat.le_refl _) (Px.mk x (n1 : Int)).cs))
    clear hz7 hX7 hX8 hb7
    (repeat (first | (refine linX_off rfl rfl (by rfl) ?_; (try simp only [Act.put, List.getElem_toArray, List.getElem_cons_zero, List.getElem_cons_succ, List.setIfInBounds_toArray, List.set_cons_zero, List.set_cons_succ])) | (refine linX_op (v := ?_) rfl rfl (by rfl) (fun w9 hS9 => ?_) ?_; rotate_left; (focus (((try dsimp only at hS9); go_simp; (try go_bits)) <;> with_reducible rfl)); (try simp only [Act.put, List.getElem_toArray, List.getElem_cons_zero, List.getElem_cons_succ, List.setIfInBounds_toArray, List.set_cons_zero, List.set_cons_succ])) ))
    refine linX_nil ?_
    go_wp2
    refine bodyPost_ret (results_blk2 rfl _ _ w.heap.size _ _ rfl HX.out.1 Tryz.underlying46 rfl (s_px _)) rfl ?_
    first | exact ⟨fun _ => rfl, fun h => absurd rfl h, HX.out.2⟩ | exact ⟨rfl, HX.out.2⟩
  · have hd0 : (E != 0) = true := by simpa using h0
    have S7 := st_px (q := Px.zero) HK.out.1
    have HX := Lib.hid (And.intro (HK.out.1.row Px.zero.cs) (below_setRow HBE.out (Nat.le_refl _) Px.zero.cs))
    go_wp2
    refine bodyPost_ret (results_blk2 rfl _ _ w.heap.size _ _ rfl HX.out.1 Tryz.underlying46 rfl (s_px _)) rfl ?_
    exact ⟨fun h => absurd h h0, fun _ => rfl, HX.out.2⟩
end Go.Proofs.YtikdgbmdepplgaaGreatDoor
namespace Go.Proofs.YtikdgbmdepplgaaGreatDoor
open Go.RowKit Go.Shelf
set_option linter.unusedVariables false

def padF (L : List Nat) (k n : Nat) : B16 := padB ((L.drop k).take (fill8 n))
noncomputable def bodyE (L : List Nat) (k n : Nat) (wrong : Int) : Int := if L.length < k + fill8 n then 7 else if keptB (padF L k n) n = padF L k n then 0 else wrong
def by0 (L : List Nat) : Nat := L.getD 0 0
def by1 (L : List Nat) : Nat := L.getD 1 0
noncomputable def decAE (L : List Nat) : Int := if L.length < 1 then 7 else if wid (by0 L : Int) = 0 then 150 else bodyE L 1 (wid (by0 L : Int)) 150
noncomputable def decAX (L : List Nat) : Ad := if decAE L = 0 then ⟨(by0 L : Int), padF L 1 (wid (by0 L : Int))⟩ else Ad.zero
noncomputable def decAN (L : List Nat) : Nat := if decAE L = 0 then 1 + fill8 (wid (by0 L : Int)) else 0
noncomputable def decPE (L : List Nat) : Int := if L.length < 1 then 7 else if wid (by0 L : Int) = 0 then 151 else if L.length < 2 then 7 else if wid (by0 L : Int) < by1 L then 151 else bodyE L 2 (by1 L) 151
noncomputable def decPX (L : List Nat) : Px := if decPE L = 0 then ⟨⟨(by0 L : Int), padF L 2 (by1 L)⟩, (by1 L : Int)⟩ else Px.zero
noncomputable def decPN (L : List Nat) : Nat := if decPE L = 0 then 2 + fill8 (by1 L) else 0

theorem t18_get (L : List Nat) (i : Nat) (h : i < 18) : (L.take 18).getD i 0 = L.getD i 0 := by simp [List.getElem?_take, h]
theorem t18_drop (L : List Nat) (k f : Nat) (h : k + f ≤ 18) : ((L.take 18).drop k).take f = (L.drop k).take f := by
  apply List.ext_getElem?
  intro i
  rw [List.getElem?_take, List.getElem?_take]
  by_cases hi : i < f
  · rw [if_pos hi, if_pos hi, List.getElem?_drop, List.getElem?_drop, List.getElem?_take, if_pos (by omega)]
  · rw [if_neg hi, if_neg hi]
theorem kept_pad_nil (n : Nat) : keptB (padB []) n = padB [] := by
  apply bt_ext
  intro i hi
  rw [bt_kept _ _ _ hi]
  have : ∀ i, i < 128 → bt (padB []) i = false := by decide +kernel
  rw [this i hi]
  simp
theorem fill8_le {n : Nat} (h : n ≤ 128) : fill8 n ≤ 16 := by unfold fill8; omega
/-- What the error comes to, the bytes of the number taken off at k. -/
theorem body_err (L : List Nat) (k n : Nat) (fault : Int) (wr : Bool) (hk : k ≤ (L.take 18).length) (hn : k + fill8 n ≤ 18) (hf : fault ≠ 0) :
    (if (if keptB (padB (came (L.take 18) k 0 (fill8 n : Nat))) n = padB (came (L.take 18) k 0 (fill8 n : Nat)) then wr else if (offTo (L.take 18).length k 0 (fill8 n : Nat)).2 = 0 then true else wr) = true then fault else (offTo (L.take 18).length k 0 (fill8 n : Nat)).2) = (if wr = true then fault else bodyE L k n fault) ∧
    (wr = false → bodyE L k n fault = 0 → (offTo (L.take 18).length k 0 (fill8 n : Nat)).1 = k + fill8 n ∧ padB (came (L.take 18) k 0 (fill8 n : Nat)) = padF L k n) ∧ (offTo (L.take 18).length k 0 (fill8 n : Nat)).1 ≤ (L.take 18).length := by
  have hlen : (L.take 18).length = min 18 L.length := List.length_take
  by_cases h : k + fill8 n ≤ (L.take 18).length
  · rw [came_some h, offTo_some h, t18_drop L k (fill8 n) hn]
    have h2 : ¬ L.length < k + fill8 n := by omega
    refine ⟨?_, fun _ _ => ⟨rfl, rfl⟩, h⟩
    unfold bodyE
    rw [if_neg h2]
    show (if (if keptB (padF L k n) n = padF L k n then wr else if (0 : Int) = 0 then true else wr) = true then fault else 0) = _
    by_cases h3 : keptB (padF L k n) n = padF L k n
    · rw [if_pos h3, if_pos h3]
    · rw [if_neg h3, if_neg h3]
      cases wr <;> simp
  · have hd : dry (L.take 18).length k 0 (fill8 n) := .inr (by omega)
    rw [came_none hk hd, offTo_none hk hd, if_pos (kept_pad_nil n)]
    have h2 : L.length < k + fill8 n := by omega
    unfold bodyE
    rw [if_pos h2]
    exact ⟨rfl, fun _ h9 => absurd h9 (by decide), hk⟩
theorem body_dry (L : List Nat) (k n : Nat) (fault e : Int) (wr : Bool) (he : e ≠ 0) :
    (if (if keptB (padB (came (L.take 18) k e (fill8 n : Nat))) n = padB (came (L.take 18) k e (fill8 n : Nat)) then wr else if (offTo (L.take 18).length k e (fill8 n : Nat)).2 = 0 then true else wr) = true then fault else (offTo (L.take 18).length k e (fill8 n : Nat)).2) = (if wr = true then fault else e) ∧ (offTo (L.take 18).length k e (fill8 n : Nat)).1 = k := by
  have h1 : offTo (L.take 18).length k e (fill8 n : Nat) = (k, e) := by unfold offTo; rw [if_pos he]
  rw [h1]
  refine ⟨?_, rfl⟩
  show (if (if _ then wr else if e = 0 then true else wr) = true then fault else e) = _
  rw [if_neg he]
  split <;> rfl
theorem px_ans {L : List Nat} (h : decPE L ≠ 0) : decPX L = Px.zero ∧ decPN L = 0 := ⟨if_neg h, if_neg h⟩
theorem ad_ans {L : List Nat} (h : decAE L ≠ 0) : decAX L = Ad.zero ∧ decAN L = 0 := ⟨if_neg h, if_neg h⟩

theorem decode_any (a : Option Addr) (cap : Nat) (l : List Nat) (w : World) (hW : Wid w) (hB : Bys l) (hlm : l.length ≤ 6000) (hc : l.length ≤ cap) (hcm : cap ≤ 9223372036854775807) (hL : Lies w a l) :
    Calls Tryz.prog 61 #[.slice a l.length cap] w fun e w' => e = .returned (.tuple #[.agg (decPX l).cs, .int .i64 (decPN l : Int), .int .i64 (decPE l)]) ∧ Below w.heap.size w w' := by
  have hB' := Bys.take2 hB 18
  have hlen : (l.take 18).length = min 18 l.length := List.length_take
  by_cases h1 : l.length < 1
  · have hE : decPE l = 7 := if_pos h1
    obtain ⟨q1, q2⟩ := body_dry l 0 0 151 7 false (by omega)
    refine (decode_walk a cap l w hW hlm hc hcm hL 0 _ 0 _ 7 _ false _ 0 0 7 false (fun w' r p g h hw hne => (version_none h hB' (by omega) (Nat.zero_le _) (.inr (by omega)) hw hne)) (fun w' r p g h => bits_none h hB' (by omega) (Nat.zero_le _) (.inl (by omega)) (wid 0)) (fun w' r p g h => addr_any h hB' (by omega) 0 0 (by decide)) 7 q1 (by rw [q2]; omega)).mono ?_
    rintro e w' ⟨_, h3, h4⟩
    obtain ⟨e1, e2⟩ := px_ans (L := l) (by rw [hE]; omega)
    exact ⟨by rw [e1, e2, hE]; exact h3 (by omega), h4⟩
  · have hv : (l.take 18).getD 0 0 = by0 l := t18_get l 0 (by omega)
    have hw128 := wid_le (by0 l : Int)
    have hx0 := hB.at 0
    by_cases h2 : l.length < 2
    · obtain ⟨q1, q2⟩ := body_dry l 1 0 151 7 (false || decide (wid (by0 l : Int) = 0)) (by omega)
      have hE : decPE l ≠ 0 := by unfold decPE; rw [if_neg h1]; split <;> omega
      refine (decode_walk a cap l w hW hlm hc hcm hL (by0 l : Int) _ 1 _ 0 _ (false || decide (wid (by0 l : Int) = 0)) _ 0 1 7 (false || decide (wid (by0 l : Int) = 0)) (fun w' r p g h hw hne => ?_) (fun w' r p g h => bits_none h hB' (by omega) (by omega) (.inr (by omega)) (wid (by0 l : Int))) (fun w' r p g h => addr_any h hB' (by omega) (by0 l : Int) 0 (by decide)) (decPE l) ?_ (by rw [q2]; omega)).mono ?_
      · have := version_some h hB' (by omega) (by omega) hw hne
        rw [hv] at this
        exact this
      · rw [q1]
        unfold decPE
        rw [if_neg h1]
        by_cases h3 : wid (by0 l : Int) = 0
        · rw [if_pos h3]; simp [h3]
        · rw [if_neg h3, if_pos h2]; simp [h3]
      · rintro e w' ⟨_, h3, h4⟩
        obtain ⟨e1, e2⟩ := px_ans hE
        exact ⟨by rw [e1, e2]; exact h3 hE, h4⟩
    · have hv1 : (l.take 18).getD 1 0 = by1 l := t18_get l 1 (by omega)
      have hx1 : by1 l < 256 := hB.at 1
      have hbits := fun w' r p g (h : PR w' r p g (l.take 18) 1 0 (l.take 18).length 151 (false || decide (wid (by0 l : Int) = 0))) => bits_some h hB' (by omega) (by omega) (wid (by0 l : Int))
      rw [hv1] at hbits
      have hver := fun w' r p g (h : PR w' r p g (l.take 18) 0 0 (l.take 18).length 151 false) (hw : Wid w') (hne : r ≠ 0 ∧ p ≠ 0) => version_some h hB' (by omega) (by omega) hw hne
      rw [hv] at hver
      generalize hwr : ((false || decide (wid (by0 l : Int) = 0)) || decide (wid (by0 l : Int) < by1 l)) = wr at hbits
      by_cases hsm : by1 l ≤ 128
      · obtain ⟨q1, q2, q3⟩ := body_err l 2 (by1 l) 151 wr (by omega) (by have := fill8_le hsm; omega) (by omega)
        refine (decode_walk a cap l w hW hlm hc hcm hL (by0 l : Int) _ 1 _ 0 _ _ _ (by1 l) 2 0 wr hver hbits (fun w' r p g h => addr_any h hB' (by omega) (by0 l : Int) (by1 l) (by omega)) (decPE l) ?_ q3).mono ?_
        · rw [q1, ← hwr]
          unfold decPE
          rw [if_neg h1]
          by_cases h3 : wid (by0 l : Int) = 0
          · rw [if_pos h3]; simp [h3]
          · rw [if_neg h3, if_neg h2]
            by_cases h5 : wid (by0 l : Int) < by1 l
            · rw [if_pos h5]; simp [h5]
            · rw [if_neg h5]; simp [h3, h5]
        · rintro e w' ⟨h3, h5, h4⟩
          refine ⟨?_, h4⟩
          by_cases h0 : decPE l = 0
          · have hu := h0
            unfold decPE at hu
            rw [if_neg h1] at hu
            have hw0 : wid (by0 l : Int) ≠ 0 := fun h9 => by rw [if_pos h9] at hu; omega
            rw [if_neg hw0, if_neg h2] at hu
            have hlt : ¬ wid (by0 l : Int) < by1 l := fun h9 => by rw [if_pos h9] at hu; omega
            rw [if_neg hlt] at hu
            obtain ⟨e1, e2⟩ := q2 (by rw [← hwr]; simp [hw0]; omega) hu
            have e3 := h3 h0
            rw [e1, e2] at e3
            rw [h0, show decPX l = _ from if_pos h0, show decPN l = _ from if_pos h0]
            exact e3
          · obtain ⟨e1, e2⟩ := px_ans h0
            rw [e1, e2]
            exact h5 h0
      · have hlt : wid (by0 l : Int) < by1 l := by omega
        have hwr2 : wr = true := by rw [← hwr]; simp [hlt]
        have hE : decPE l = 151 := by
          unfold decPE
          rw [if_neg h1]
          split
          · rfl
          · first | rfl | rw [if_neg h2, if_pos hlt]
        subst hwr2
        have q1 : ∀ (c : Prop) [Decidable c] (e3 : Int), (if (if c then true else if e3 = 0 then true else true) = true then (151 : Int) else e3) = 151 := fun c _ e3 => by split <;> simp_all
        have q3 : (offTo (l.take 18).length 2 0 (fill8 (by1 l) : Nat)).1 ≤ (l.take 18).length := by
          unfold offTo
          rw [if_neg (by simp), if_neg (by omega)]
          split
          · show 2 ≤ _
            omega
          · show 2 + _ ≤ _
            omega
        refine (decode_walk a cap l w hW hlm hc hcm hL (by0 l : Int) _ 1 _ 0 _ _ _ (by1 l) 2 0 true hver hbits (fun w' r p g h => addr_any h hB' (by omega) (by0 l : Int) (by1 l) (by omega)) 151 (q1 _ _) q3).mono ?_
        rintro e w' ⟨_, h3, h4⟩
        obtain ⟨e1, e2⟩ := px_ans (L := l) (by rw [hE]; omega)
        exact ⟨by rw [e1, e2, hE]; exact h3 (by omega), h4⟩
end Go.Proofs.YtikdgbmdepplgaaGreatDoor
