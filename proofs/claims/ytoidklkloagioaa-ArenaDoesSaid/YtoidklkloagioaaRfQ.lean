/-
  The document's arena: rows of pieces compared; what stands behind a free block. Nothing here is a statement of the document.
-/
import Derived.Test.YtoidklkloagioaaRfO
namespace Go.Proofs.Ytoidklkloagioaa
open Go.RowKit Go.Shelf
set_option linter.unusedVariables false
attribute [local go_sem ↓] load_ra_rule store_ra_rule load_rb_rule store_rb_rule load_piece_rule build_pcs_rule
def Rb.bl (b : Rb) : Bl := ⟨b.x, b.c, b.t⟩
def Mo.B (M : Mo) : List Bl := M.R.map Rb.bl
section
variable {w W W' : World} {g z lo : Nat} {bv : Value} {ls : Nat → Value} {vs : List Value} {M : Mo}
theorem ofT_snoc (t : Bool) (L : List Bl) (b : Bl) : ofT t (L ++ [b]) = if b.t = t then ofT t L ++ [b] else ofT t L := by
  simp only [ofT, List.filter_append]
  by_cases h : b.t = t <;> simp [h]
theorem take_bl {R : List Rb} {k : Nat} {b : Rb} (hb : R[k]? = some b) : (R.map Rb.bl).take (k + 1) = (R.map Rb.bl).take k ++ [b.bl] := by
  have : (R.map Rb.bl)[k]? = some b.bl := by simp [hb]
  obtain ⟨hk, he⟩ := List.getElem?_eq_some_iff.1 this
  rw [← he]
  exact List.take_succ_eq_append_getElem hk
set_option maxRecDepth 100000 in
set_option maxHeartbeats 2000000 in
theorem rpieces_any (h : Rfa w lo bv ls vs M) (t : Bool) : Calls Try.prog 33 #[.agg (M.vals bv ls), .bool t] w fun e w' => ∃ v, e = .returned v ∧ w'.ownsRow w.heap.size 86 2 v (ofT t M.B).length (pcl (ofT t M.B)) ∧ Below w.heap.size w w' := by
  have hB := bx_new h
  obtain ⟨i0, hi, hz0, hz1, hz2⟩ := info_parts i_piece
  obtain ⟨W1, hW1⟩ : ∃ W1, w.alloc (.cells (M.vals bv ls) 36) = W1 := ⟨_, rfl⟩
  rw [hW1] at hB
  obtain ⟨a, c, hbv⟩ := owns_sl h.row
  have c1 := hB.c1
  rw [hbv] at c1
  have hfew := h.few
  obtain ⟨n, hn⟩ : ∃ n, M.R.length = n := ⟨_, rfl⟩
  rw [hn] at c1 hfew
  have HB := Lib.hid (And.intro hB (And.intro hbv (And.intro hn h)))
  clear hB h hbv hn
  generalize hVV : M.vals bv ls = V at *
  clear hVV
  go_enter Try.func33, Try.ntmps33
  go_wp2_with fail
  clear hW1 c1
  go_loopw [5, 11] (fun o i wr => ∃ k : Nat, k ≤ n ∧ i = .int .i64 k ∧ wr.ownsRow w.heap.size 86 2 o (ofT t (M.B.take k)).length (pcl (ofT t (M.B.take k))) ∧ Below w.heap.size w wr) (fun _ i _ => n - (intOf i).toNat)
  case atStart => exact ⟨0, Nat.zero_le _, rfl, World.ownsRow_nil _ _ _ _, HB.out.1.hb⟩
  case round =>
    obtain ⟨k, hk, rfl, how, hbe⟩ := hrel
    by_cases hlt : k < n
    · have hR := HB.out.2.2.2.later hbe
      obtain ⟨b, hb⟩ : ∃ b, M.R[k]? = some b := ⟨_, List.getElem?_eq_getElem (by rw [HB.out.2.2.1]; exact hlt)⟩
      obtain ⟨v, hv⟩ := hR.v_get hb
      obtain ⟨gb, c', hbv', _⟩ := owns_cell hR.row (by rw [HB.out.2.2.1]; omega)
      rw [HB.out.2.1, HB.out.2.2.1] at hbv'
      cases hbv'
      have hrow := hR.row
      rw [HB.out.2.1] at hrow
      obtain ⟨_, hl⟩ := lrow hrow hb hv (by rw [HB.out.2.2.1]; exact hlt)
      have hki : (k : Int) < (n : Int) := by omega
      have hcs : (b.cs v).size = 4 := rfl
      have hst := srb_new wr hcs (hR.cs_one hb hv)
      have b4 := Blk.new wr 84 (b.cs v)
      have e0 : (wr.alloc (.cells (b.cs v) 84)).cell? ⟨wr.heap.size, 0, none⟩ = some (.int .i64 (b.x : Int)) := b4.cell 0
      have e1 : (wr.alloc (.cells (b.cs v) 84)).cell? ⟨wr.heap.size, 1, none⟩ = some (.int .i64 (b.c : Int)) := b4.cell 1
      have e2 : (wr.alloc (.cells (b.cs v) 84)).cell? ⟨wr.heap.size, 2, none⟩ = some (.bool b.t) := b4.cell 2
      have how4 := how.alloc (.cells (b.cs v) 84)
      have hbe4 := hbe.alloc hbe.size (.cells (b.cs v) 84)
      have hs4 : (wr.alloc (.cells (b.cs v) 84)).heap.size = wr.heap.size + 1 := by simp
      have hlen : (ofT t (M.B.take k)).length ≤ 20000 := by
        have h1 := ofT_len t (M.B.take k)
        have h2 : (M.B.take k).length ≤ k := by simp; omega
        omega
      obtain ⟨m, hm⟩ : ∃ m, (ofT t (M.B.take k)).length = m := ⟨_, rfl⟩
      rw [hm] at how4 hlen
      obtain ⟨xs, hxs⟩ : ∃ xs, pcl (ofT t (M.B.take k)) = xs := ⟨_, rfl⟩
      rw [hxs] at how4
      have htk : M.B.take (k + 1) = M.B.take k ++ [b.bl] := take_bl hb
      obtain ⟨W4, hW4⟩ : ∃ W4, wr.alloc (.cells (b.cs v) 84) = W4 := ⟨_, rfl⟩
      rw [hW4] at how4 hbe4 e0 e1 e2 hst hs4
      have HX := Lib.hid (And.intro hb (And.intro hbe4 (And.intro hm (And.intro hxs (And.intro htk hbe)))))
      clear hb hv hrow hR how hbe b4 htk hbe4
      obtain ⟨V4, hV4⟩ : ∃ V4, b.cs v = V4 := ⟨_, rfl⟩
      rw [hV4] at hl hst hcs hW4
      clear hV4
      by_cases hbt : b.t = t
      · have dt : (b.t == t) = true := by simpa using hbt
        have hbs : (buildPcs 1 #[(0, .agg #[.int .i64 (b.x : Int), .int .i64 (b.c : Int)])]).run Try.prog W4 = .ok (.slice (some ⟨W4.heap.size, 0, none⟩) 1 1) (W4.alloc (.cells #[.int .i64 (b.x : Int), .int .i64 (b.c : Int)] 86)) := bs_piece b.bl W4
        have how5 := how4.alloc (.cells #[.int .i64 (b.x : Int), .int .i64 (b.c : Int)] 86)
        have hbb : w.heap.size ≤ (W4.alloc (.cells #[.int .i64 (b.x : Int), .int .i64 (b.c : Int)] 86)).heap.size := by have := HX.out.2.1.size; simp; omega
        have hn5 : ∀ j u, [Value.int .i64 (b.x : Int), .int .i64 (b.c : Int)][j]? = some u → (W4.alloc (.cells #[.int .i64 (b.x : Int), .int .i64 (b.c : Int)] 86)).cell? ((⟨W4.heap.size, 0, none⟩ : Addr).add j) = some u := fun j u hj => by
          rw [Addr.add_lit, Nat.zero_add, (Blk.new W4 86 _).cell]
          simpa using hj
        clear hs4
        go_wp2_with (at_builtin; refine wpList_append_own _ rfl _ _ 75 rfl w.heap.size 86 i0 (.agg (pccs Bl.zero)) 2 16 Try.underlying75 hi hz0 hz1 hz2 rfl (by decide) _ _ _ rfl how5 ⟨W4.heap.size, 0, none⟩ 1 1 [.int .i64 (b.x : Int), .int .i64 (b.c : Int)] rfl rfl hn5 (by simp [Value.oneCell']) (by unfold maxLen; omega) (by omega) hbb ?_)
        intro v' w6 how6 hg6 _
        have hb6 := (HX.out.2.1.alloc HX.out.2.1.size (.cells #[.int .i64 (b.x : Int), .int .i64 (b.c : Int)] 86)).grown hg6 hbb (fun j hj => (how5.lt j hj).1)
        have HY := Lib.hid (And.intro how6 hb6)
        clear how6 hg6 hb6 how5 how4
        go_wp2_with fail
        go_roundw
        case rel =>
          refine ⟨k + 1, by omega, by go_num, ?_, HY.out.2⟩
          rw [HX.out.2.2.2.2.1, ofT_snoc, if_pos (show b.bl.t = t from hbt), pcl_snoc, List.length_append, HX.out.2.2.1, HX.out.2.2.2.1]
          exact HY.out.1
        case measure => simp [intOf]; omega
      · have dt : (b.t == t) = false := by simpa using hbt
        have HY := Lib.hid how4
        clear how4
        go_wp2_with fail
        go_roundw
        case rel =>
          refine ⟨k + 1, by omega, by go_num, ?_, HX.out.2.1⟩
          rw [HX.out.2.2.2.2.1, ofT_snoc, if_neg (show ¬ b.bl.t = t from hbt), HX.out.2.2.1, HX.out.2.2.2.1]
          exact HY.out
        case measure => simp [intOf]; omega
    · obtain rfl : k = n := by omega
      have hall : M.B.take k = M.B := List.take_of_length_le (by have := HB.out.2.2.1; simp [Mo.B]; omega)
      rw [hall] at how
      have HZ := Lib.hid (And.intro how hbe)
      clear how hbe hall
      go_wp2_with fail
      go_ret
      exact ⟨_, rfl, HZ.out.1, HZ.out.2⟩
end
end Go.Proofs.Ytoidklkloagioaa
namespace Go.Proofs.Ytoidklkloagioaa
open Go.RowKit Go.Shelf
set_option linter.unusedVariables false
theorem lpiece {w : World} {B g n c : Nat} {L : List Bl} (h : w.ownsRow B 86 2 (.slice (some ⟨g, 0, none⟩) n c) n (pcl L)) {k : Nat} {b : Bl} (hb : L[k]? = some b) (hk : k < n) : (loadSem 86 (.pointer (some ⟨g, k * 2, none⟩))).run Try.prog w = .ok (.agg (pccs b)) w := by
  have hc : ∀ j, j < 2 → w.cell? ⟨g, k * 2 + j, none⟩ = (pccs b)[j]? := fun j hj => by
    rw [h.cellAt (k * 2 + j) (by omega), pcl_get hb hj]
  have := run_loadAt_mid (P := Try.prog) w g (k * 2) 86 (pccs b).toList _ (fun j u hj => by
    have hl : j < 2 := (List.getElem?_eq_some_iff.1 hj).1
    rw [hc j hl]; simpa using hj) Try.underlying86 rfl (by exact s_piece b)
  exact this
theorem own_drewN {w : World} {B : Nat} {e : TypeId} {z : Nat} {v : Value} {n : Nat} {xs : List Value} (h : w.ownsRow B e z v n xs) (m : Nat) : (w.drewN m).ownsRow B e z v n xs := owns_later h (below_drewN (Below.refl _ _) m)
section
attribute [local go_sem ↓] load_piece_rule
variable {w : World} {B B' : Nat}
set_option maxRecDepth 100000 in
set_option maxHeartbeats 2000000 in
theorem samep_any {va vb : Value} {L : List Bl} (hL : L.length ≤ 20000) (ha : w.ownsRow B 86 2 va L.length (pcl L)) (hb : w.ownsRow B' 86 2 vb L.length (pcl L)) : Calls Try.prog 32 #[va, vb] w fun e w' => e = .returned (.bool true) ∧ ∃ n, w' = w.drewN n := by
  obtain ⟨n, hn⟩ : ∃ n, L.length = n := ⟨_, rfl⟩
  obtain ⟨aa, ca, rfl⟩ := owns_sl ha
  obtain ⟨ab, cb, rfl⟩ := owns_sl hb
  have HA := Lib.hid (And.intro ha hb)
  clear ha hb
  rw [hn] at hL ⊢
  go_enter Try.func32, Try.ntmps32
  go_wp2_with fail
  go_loopw [13] (fun i wr => ∃ k m : Nat, k ≤ n ∧ i = .int .i64 k ∧ wr = w.drewN m) (fun i _ => n - (intOf i).toNat)
  case atStart => exact ⟨0, 0, Nat.zero_le _, rfl, rfl⟩
  case round =>
    obtain ⟨k, m, hk, rfl, rfl⟩ := hrel
    by_cases hlt : k < n
    · obtain ⟨b, hb⟩ : ∃ b, L[k]? = some b := ⟨_, List.getElem?_eq_getElem (by omega)⟩
      obtain ⟨ga, ca', hva, _⟩ := owns_cell HA.out.1 (by omega)
      obtain ⟨gb, cb', hvb, _⟩ := owns_cell HA.out.2 (by omega)
      rw [hn] at hva hvb
      cases hva
      cases hvb
      have h1 := HA.out.1
      have h2 := HA.out.2
      rw [hn] at h1 h2
      have la : ∀ j, (loadSem 86 (.pointer (some ⟨ga, k * 2, none⟩))).run Try.prog ((w.drewN m).drewN j) = .ok (.agg (pccs b)) ((w.drewN m).drewN j) := fun j => lpiece (own_drewN (own_drewN h1 m) j) hb hlt
      have lb : ∀ j, (loadSem 86 (.pointer (some ⟨gb, k * 2, none⟩))).run Try.prog ((w.drewN m).drewN j) = .ok (.agg (pccs b)) ((w.drewN m).drewN j) := fun j => lpiece (own_drewN (own_drewN h2 m) j) hb hlt
      have hki : (k : Int) < (n : Int) := by omega
      have HW : Hid (∀ j, ∃ m', (w.drewN m).drewN j = w.drewN m') := Lib.hid fun j => ⟨m + j, by simp [World.drewN, Nat.add_assoc]⟩
      clear h1 h2 hb
      unfold pccs at la lb
      generalize w.drewN m = W at *
      go_wp2_with fail
      go_quiet (fail)
      go_wp2_with fail
      go_roundw
      case rel =>
        obtain ⟨m', hm'⟩ := HW.out nq
        exact ⟨k + 1, m', by omega, by go_num, hm'⟩
      case measure => simp [intOf]; omega
    · obtain rfl : k = n := by omega
      go_wp2_with fail
      go_ret
      exact ⟨rfl, _, rfl⟩
end
section
attribute [local go_sem ↓] load_ra_rule store_ra_rule load_rb_rule store_rb_rule
variable {w W W' : World} {g z lo : Nat} {bv : Value} {ls : Nat → Value} {vs : List Value} {M : Mo}
set_option maxRecDepth 100000 in
set_option maxHeartbeats 2000000 in
theorem rnext_any (h : Rfa w lo bv ls vs M) (b : Rb) (v : Value) (hc : b.c ≤ 5) {l1 r : List Nat} (hl : M.L b.c = l1 ++ b.x :: r) (hx : b.x ∉ l1) (hbd : ∀ y ∈ r, y < 4294967296) : Calls Try.prog 79 #[.agg (M.vals bv ls), .agg (b.cs v)] w fun e w' => e = .returned (.int .u32 ((r.headD 0 : Nat) : Int)) ∧ Below w.heap.size w w' := by
  have hB := bx_new h
  obtain ⟨W1, hW1⟩ : ∃ W1, w.alloc (.cells (M.vals bv ls) 36) = W1 := ⟨_, rfl⟩
  rw [hW1] at hB
  have hs1 : W1.heap.size = w.heap.size + 1 := by rw [← hW1]; simp
  obtain ⟨W2, hW2⟩ : ∃ W2, W1.alloc (.cells (b.cs v) 84) = W2 := ⟨_, rfl⟩
  have B2 : Bx w W2 w.heap.size lo bv ls vs M := by rw [← hW2]; exact hB.later ((Below.refl _ _).alloc (Nat.le_refl _) _)
  have bk : Blk W2 (w.heap.size + 1) 84 (b.cs v) := by rw [← hW2, ← hs1]; exact Blk.new _ _ _
  have k0 : W2.cell? ⟨w.heap.size + 1, 0, none⟩ = some (.int .i64 (b.x : Int)) := bk.cell 0
  have k1 : W2.cell? ⟨w.heap.size + 1, 1, none⟩ = some (.int .i64 (b.c : Int)) := bk.cell 1
  have cl := B2.cl hc
  have hI := B2.rf.lst b.c hc
  have hfl := h.fewl b.c hc
  obtain ⟨n, hn⟩ : ∃ n, (M.L b.c).length = n := ⟨_, rfl⟩
  have hn2 : n = l1.length + 1 + r.length := by rw [← hn, hl]; simp; omega
  obtain ⟨al, ca, hIl, hca, han, hIr⟩ := id hI
  obtain ⟨ga, oa, Ca, hal, hga, hbka, hcela⟩ : ∃ g o C, al = some ⟨g, o, none⟩ ∧ lo ≤ g ∧ Blk W2 g 3 C ∧ ∀ (i : Nat) (u : Value), (ivl (M.L b.c))[i]? = some u → C[o + i]? = some u := by
    rcases hIr with h9 | h9
    · rw [hl] at h9; simp at h9
    · exact h9
  subst hal
  rw [hIl, hn] at cl
  rw [hn] at hfl
  have hcel : ∀ (k y : Nat), (M.L b.c)[k]? = some y → W2.cell? ⟨ga, oa + k, none⟩ = some (.int .i64 (y : Int)) := fun k y hy => (hbka.cell (oa + k)).trans (hcela k _ (by simp [ivl, hy]))
  have HB := Lib.hid (And.intro hcel (And.intro hl (And.intro hx (And.intro hbd B2.hb))))
  clear hI hIl han hIr hcela hbka hcel hl hx hbd B2 bk hB h hca
  have hc6 : (b.c : Int) < 6 := by omega
  obtain ⟨V, hV⟩ : ∃ V, M.vals bv ls = V := ⟨_, rfl⟩
  rw [hV] at hW1 ⊢
  clear hV
  obtain ⟨V4, hV4⟩ : ∃ V4, b.cs v = V4 := ⟨_, rfl⟩
  rw [hV4] at hW2 ⊢
  clear hV4 hn
  go_enter Try.func79, Try.ntmps79
  go_wp2_with fail
  clear hW1 hW2 cl k1 hs1
  go_loopw [15] (fun i wr => ∃ k : Nat, k ≤ n ∧ i = .int .i64 k ∧ (k ≤ l1.length ∨ r = []) ∧ wr = W2) (fun i _ => n - (intOf i).toNat)
  case atStart => exact ⟨0, Nat.zero_le _, rfl, .inl (Nat.zero_le _), rfl⟩
  case round =>
    obtain ⟨k, hk, rfl, hor, rfl⟩ := hrel
    by_cases hlt : k < n
    · have hki : (k : Int) < (n : Int) := by omega
      have hkl : k ≤ l1.length := by
        rcases hor with h9 | h9
        · exact h9
        · subst h9; simp at hn2; omega
      obtain ⟨y, hy⟩ : ∃ y, (M.L b.c)[k]? = some y := ⟨_, List.getElem?_eq_getElem (by rw [HB.out.2.1]; simp; omega)⟩
      have ck := HB.out.1 k y hy
      have hy9 := hy
      rw [HB.out.2.1] at hy9
      rcases Nat.lt_or_ge k l1.length with hk1 | hk1
      · rw [List.getElem?_append_left hk1] at hy9
        have hne : y ≠ b.x := fun e => HB.out.2.2.1 (by rw [← e]; exact List.mem_of_getElem? hy9)
        have dx : ((y : Int) == (b.x : Int)) = false := by simp; omega
        clear hy hy9 hor
        go_wp2_with fail
        go_roundw
        case rel => exact ⟨k + 1, by omega, by go_num, .inl (by omega), by trivial⟩
        case measure => simp [intOf]; omega
      · obtain rfl : k = l1.length := by omega
        rw [List.getElem?_append_right (Nat.le_refl _), Nat.sub_self] at hy9
        obtain rfl : b.x = y := by simpa using hy9
        have dx : ((b.x : Int) == (b.x : Int)) = true := by simp
        cases r with
        | nil =>
          have hnk : ¬ ((l1.length : Int) + 1 < (n : Int)) := by simp at hn2; omega
          clear hy hy9 hor
          go_wp2_with fail
          go_roundw
          case rel => exact ⟨l1.length + 1, by omega, by go_num, by simp, by trivial⟩
          case measure => simp [intOf]; omega
        | cons y2 r2 =>
          have hnk : (l1.length : Int) + 1 < (n : Int) := by simp at hn2; omega
          have ck2 := HB.out.1 (l1.length + 1) y2 (by rw [HB.out.2.1, List.getElem?_append_right (by omega)]; simp)
          have hlt2 : y2 < 4294967296 := HB.out.2.2.2.1 y2 (by simp)
          have hw2 : IntKind.u32.wrap (y2 : Int) = (y2 : Int) := by
            unfold IntKind.wrap
            simp [IntKind.bits, IntKind.signed]
            omega
          have ck2' : wr.cell? ⟨ga, oa + (l1.length + 1), none⟩ = some (.int .i64 (y2 : Int)) := ck2
          clear hy hy9 hor ck2
          go_wp2_with fail
          go_ret
          exact ⟨ret_int (by simp), HB.out.2.2.2.2⟩
    · obtain rfl : k = n := by omega
      have hr : r = [] := by
        rcases hor with h9 | h9
        · omega
        · exact h9
      subst hr
      clear hor
      go_wp2_with fail
      go_ret
      exact ⟨rfl, HB.out.2.2.2.2⟩
end
end Go.Proofs.Ytoidklkloagioaa
