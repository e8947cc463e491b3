/-
  A new log; deeds that write. Nothing here is a statement of the document.
-/
import Derived.Test.YtelpihlifdfgoaaWalOb
import Derived.Test.YtelpihlifdfgoaaLin
import Derived.Test.YtelpihlifdfgoaaWalR
namespace Go.Proofs.Ytelpihlifdfgoaa
open Go.RowKit Go.Shelf
set_option linter.unusedVariables false
theorem load_ars_rule (v : Value) : Instr.loadAt 65 v = loadSem 65 v := rfl
theorem load_hd_rule (v : Value) : Instr.loadAt 91 v = loadSem 91 v := rfl
theorem load_rg_rule (v : Value) : Instr.loadAt 64 v = loadSem 64 v := rfl
theorem store_rg_rule (p v : Value) : Instr.storeAt 64 p v = storeSem 64 p v := rfl
theorem s_ars (n : Nat) : (Try.prog.info? 65).map (·.size) = some (areas n).size := by kernel_rfl
theorem s_hd (x0 x1 : Value) : (Try.prog.info? 91).map (·.size) = some #[x0, x1].size := by kernel_rfl
theorem s_rg (x0 x1 : Value) : (Try.prog.info? 64).map (·.size) = some #[x0, x1].size := by kernel_rfl
theorem ld_ars {w : World} {g t u p n c : Nat} {b : Bool} {sv tv : Value} (h : Blk w g 67 (lgcs t sv tv u p n c b)) : (loadSem 65 (.pointer (some ⟨g, 5, none⟩))).run Try.prog w = .ok (.agg (areas n)) w :=
  loadRes_of (o := 5) (vs := areas n) h (fun j hj => by
    have : j < 4 := hj
    rcases (show j = 0 ∨ j = 1 ∨ j = 2 ∨ j = 3 by omega) with rfl | rfl | rfl | rfl <;> rfl) _ Try.underlying65 rfl (s_ars n)
theorem ld_hd {w : World} {g : Nat} {x0 x1 : Value} (h : Blk w g 91 #[x0, x1]) : (loadSem 91 (.pointer (some ⟨g, 0, none⟩))).run Try.prog w = .ok (.agg #[x0, x1]) w :=
  loadRes_of (o := 0) h (fun j hj => by rw [Nat.zero_add]) _ Try.underlying91 rfl (s_hd x0 x1)
theorem ld_rg {w : World} {g : Nat} {x0 x1 : Value} (h : Blk w g 64 #[x0, x1]) : (loadSem 64 (.pointer (some ⟨g, 0, none⟩))).run Try.prog w = .ok (.agg #[x0, x1]) w :=
  loadRes_of (o := 0) h (fun j hj => by rw [Nat.zero_add]) _ Try.underlying64 rfl (s_rg x0 x1)
theorem st_rg (w : World) (a b : Int) : (storeSem 64 (.pointer (some ⟨w.heap.size, 0, none⟩)) (.agg #[.int .i64 a, .int .i64 b])).run Try.prog (w.alloc (.cells #[.int .i64 0, .int .i64 0] 64)) = .ok () (w.alloc (.cells #[.int .i64 a, .int .i64 b] 64)) := by
  have S := storeRes_of (P := Try.prog) (ty := 64) (o := 0) (vs := #[.int .i64 a, .int .i64 b]) (Blk.new w 64 #[.int .i64 0, .int .i64 0]) (by simp) (s_rg _ _) (by simp [Value.oneCell'])
  rw [over_all (by simp)] at S
  have e : (w.alloc (.cells #[.int .i64 0, .int .i64 0] 64)).setRow w.heap.size #[.int .i64 a, .int .i64 b] = w.alloc (.cells #[.int .i64 a, .int .i64 b] 64) := World.setRow_alloc_new _ _ _ _
  rw [e] at S
  exact S
/-- What stands while the areas are read: the log that is made, what is held, the disk. -/
structure OpAt (w W : World) (B p pb g hb n : Nat) (bv : Value) (D : Dk) (x0 x1 : Value) : Prop where
  gw : Blk W g 67 (lgcs 0 (.slice none 0 0) (.slice none 0 0) 0 p n 0 false)
  hw : Blk W hb 91 #[x0, x1]
  d : Dsk W B p pb bv D
  k : Kept (fp p pb bv) w W
  lt : w.heap.size ≤ g ∧ w.heap.size ≤ hb
theorem OpAt.later {w W W' : World} {B p pb g hb n : Nat} {bv : Value} {D : Dk} {x0 x1 : Value} (h : OpAt w W B p pb g hb n bv D x0 x1) (k : Below W.heap.size W W') : OpAt w W' B p pb g hb n bv D x0 x1 :=
  ⟨h.gw.kept (Kept.of_below [] k) (by simp), h.hw.kept (Kept.of_below [] k) (by simp), h.d.later k, h.k.trans (Kept.of_below _ k), h.lt⟩
theorem OpAt.read {w W W' : World} {B p pb g hb n : Nat} {bv : Value} {D D' : Dk} {x0 x1 : Value} (h : OpAt w W B p pb g hb n bv D x0 x1) (hD : Dsk W' B p pb bv D') (k : Goes W W' p pb bv bv) : OpAt w W' B p pb g hb n bv D' x0 x1 :=
  ⟨h.gw.kept k.kept (g_far h.d h.gw), h.hw.kept k.kept (h.d.sep h.hw (by decide) (by decide) (by decide)), hD, h.k.trans k.kept, h.lt⟩
theorem OpAt.put0 {w W : World} {B p pb g hb n : Nat} {bv : Value} {D : Dk} {x0 x1 : Value} (h : OpAt w W B p pb g hb n bv D x0 x1) (x : Value) : OpAt w (W.setCell ⟨hb, 0, none⟩ x) B p pb g hb n bv D x x1 :=
  ⟨h.gw.far (p := ⟨hb, 0, none⟩) (h.gw.ne h.hw (by decide)) _, h.hw.set 0 _, h.d.apart (S := [hb]) ((Kept.refl _ _).setCell (.inl (by simp)) _) (fun i hi => by rw [List.mem_singleton.1 hi]; exact h.d.sep h.hw (by decide) (by decide) (by decide)),
    h.k.trans2 (T := [hb]) ((Kept.refl _ _).setCell (.inl (by simp)) _) (fun i hi => by rw [List.mem_singleton.1 hi]; exact .inr h.lt.2), h.lt⟩
theorem OpAt.put1 {w W : World} {B p pb g hb n : Nat} {bv : Value} {D : Dk} {x0 x1 : Value} (h : OpAt w W B p pb g hb n bv D x0 x1) (x : Value) : OpAt w (W.setCell ⟨hb, 1, none⟩ x) B p pb g hb n bv D x0 x :=
  ⟨h.gw.far (p := ⟨hb, 1, none⟩) (h.gw.ne h.hw (by decide)) _, h.hw.set 1 _, h.d.apart (S := [hb]) ((Kept.refl _ _).setCell (.inl (by simp)) _) (fun i hi => by rw [List.mem_singleton.1 hi]; exact h.d.sep h.hw (by decide) (by decide) (by decide)),
    h.k.trans2 (T := [hb]) ((Kept.refl _ _).setCell (.inl (by simp)) _) (fun i hi => by rw [List.mem_singleton.1 hi]; exact .inr h.lt.2), h.lt⟩
/-- What has been read so far. -/
def OpK (n : Nat) (D1 : Dk) (lo : Nat) (W : World) (Dc : Dk) (x0 x1 : Value) (k : Nat) : Prop :=
  (k = 0 ∧ Dc = D1 ∧ x0 = .slice none 0 0 ∧ x1 = .slice none 0 0) ∨
  (k = 1 ∧ x1 = .slice none 0 0 ∧ ∃ g0 A, readsM D1 2 n = (Dc, A, 0) ∧ x0 = .slice (some ⟨g0, 0, none⟩) n n ∧ lo ≤ g0 ∧ Blk W g0 81 (pcs A).toArray) ∨
  (k = 2 ∧ ∃ g0 g1 A L D2, readsM D1 2 n = (D2, A, 0) ∧ readsM D2 (2 + n) n = (Dc, L, 0) ∧ x0 = .slice (some ⟨g0, 0, none⟩) n n ∧ x1 = .slice (some ⟨g1, 0, none⟩) n n ∧ lo ≤ g0 ∧ lo ≤ g1 ∧ Blk W g0 81 (pcs A).toArray ∧ Blk W g1 81 (pcs L).toArray)
theorem own_far {w w' : World} {S : List Nat} {B n : Nat} {e : TypeId} {v : Value} {xs : List Value} (h : w.ownsRow B e 1 v n xs) (k : Kept S w w') (hS : ∀ i, v.ownBlock = some i → i ∉ S) : w'.ownsRow B e 1 v n xs := by
  rcases h.2 with h9 | ⟨q, cap, cur, h1, h2, h3, h4⟩
  · exact ⟨h.1, .inl h9⟩
  · exact ⟨h.1, .inr ⟨q, cap, cur, h1, h2, (k.block q (Array.getElem?_eq_some_iff.1 h3).1 (hS q (by rw [h1]; rfl))).trans h3, h4⟩⟩
theorem own_apart {w : World} {B C p pb g n : Nat} {e : TypeId} {v bv : Value} {xs : List Value} {D : Dk} {cs : Array Value} (h : w.ownsRow B e 1 v n xs) (hD : Dsk w C p pb bv D) (hg : Blk w g 67 cs) (he : e = 5 ∨ e = 29) : ∀ i, v.ownBlock = some i → i ∉ g :: fp p pb bv := by
  intro i hi hm
  rcases h.2 with h9 | ⟨q, cap, cur, h1, h2, h3, h4⟩
  · rw [h9.1] at hi; cases hi
  · rw [h1] at hi
    obtain rfl : q = i := by simpa [Value.ownBlock] using hi
    simp only [fp, List.mem_cons, Option.mem_toList] at hm
    have hq := h3
    rcases hm with h9 | h9 | h9 | h9
    · rw [h9, show w.heap[g]? = _ from hg] at h3
      have := Option.some.inj h3
      rcases he with rfl | rfl <;> simp at this
    · rw [h9, show w.heap[p]? = _ from hD.cells] at h3
      have := Option.some.inj h3
      rcases he with rfl | rfl <;> simp at this
    · rw [h9, show w.heap[pb]? = _ from hD.plate] at h3
      have := Option.some.inj h3
      rcases he with rfl | rfl <;> simp at this
    · rcases hD.buf.2 with h8 | ⟨q2, cap2, cur2, e1, e2, e3, e4⟩
      · rw [h8.1] at h9; cases h9
      · rw [e1] at h9
        obtain rfl : q2 = q := by simpa [Value.ownBlock] using h9
        rw [e3] at h3
        have := Option.some.inj h3
        rcases he with rfl | rfl <;> simp at this
theorem safe_blk {w : World} {g : Nat} {t : TypeId} {cs : Array Value} (h : Blk w g t cs) (ht : t ≠ 83) : SafeS w [] (some ⟨g, 0, none⟩) := fun x hx => by
  cases hx
  exact ⟨by simp, _, h, by simpa [notRow] using ht⟩
end Go.Proofs.Ytelpihlifdfgoaa
namespace Go.Proofs.Ytelpihlifdfgoaa
open Go.RowKit Go.Shelf
set_option linter.unusedVariables false
attribute [local go_sem ↓] load_ars_rule load_hd_rule load_rg_rule store_rg_rule
set_option maxRecDepth 100000 in
set_option maxHeartbeats 4000000 in
theorem wopen_any {w : World} {B p pb : Nat} {bv : Value} {D : Dk} (hD : Dsk w B p pb bv D) (hB : B ≤ w.heap.size) (hY : D.Byt) : Calls Try.prog 18 #[.pointer (some ⟨p, 0, none⟩)] w fun e w' => ∃ bv', Dsk w' B p pb bv' (openM D).D ∧
      ((openM D).e ≠ 0 → e = .returned (.tuple #[.pointer none, .int .i64 (openM D).e])) ∧
      ((openM D).e = 0 → ∃ g t sv tv u, e = .returned (.tuple #[.pointer (some ⟨g, 0, none⟩), .int .i64 0]) ∧ w.heap.size ≤ g ∧ Blk w' g 67 (lgcs t sv tv u p (openM D).n (openM D).r.2 false) ∧ ChIs w' w.heap.size (openM D).r.1 t sv tv u ∧ 0 < t) ∧
      Kept (fp p pb bv) w w' ∧ (∀ k, bv'.ownBlock = some k → bv.ownBlock = some k ∨ w.heap.size ≤ k) := by
  obtain ⟨OM, hOM⟩ : ∃ OM, openM D = OM := ⟨_, rfl⟩
  rw [hOM]
  obtain ⟨⟨D1, H, e1⟩, h1⟩ : ∃ x, readsM D 0 2 = x := ⟨_, rfl⟩
  have y1 := hY.reads 0 2
  have l1 := readsM_len D 0 2
  have hr1 := rread_any hD (first := 0) (n := 2) (by omega) (by omega) (by omega)
  rw [h1] at hr1 y1 l1
  have er1 : rgs 0 2 = #[.int .i64 0, .int .i64 2] := rfl
  rw [er1] at hr1
  have HY := Lib.hid (And.intro y1 (And.intro l1 (And.intro h1 (And.intro hOM hD))))
  clear y1 l1 h1 hOM hY hD
  go_enter Try.func18, Try.ntmps18
  go_wp2_with fail
  refine hr1.mono ?_
  clear hr1
  rintro e w1 ⟨⟨g1, hok⟩, hno, hD1, hG1⟩
  by_cases he1 : e1 ≠ 0
  · have hq := open_heads HY.out.2.2.1 he1
    rw [HY.out.2.2.2.1] at hq
    have heb : (e1 != 0) = true := by simpa using he1
    obtain rfl := hno he1
    have HZ := Lib.hid (And.intro hD1 (And.intro hG1 (And.intro hq he1)))
    clear hok hno hD1 hG1 hq he1
    go_wp2_with fail
    go_ret2
    obtain ⟨hD1, hG1, hq, he1⟩ := HZ.out
    rw [hq]
    exact ⟨bv, hD1, fun _ => rfl, fun h => absurd h he1, hG1.kept, fun k h => .inl h⟩
  obtain rfl : e1 = 0 := Classical.byContradiction he1
  clear he1
  obtain ⟨rfl, hg1, hb1⟩ := hok rfl
  clear hok hno
  have hlen : H.length = 2 := HY.out.2.1 rfl
  have hsz := sizeof_any hD1 (Secs.of_blk hb1) HY.out.1.2 (by omega) 2
  rw [hlen] at hsz
  rcases hsr : sizeR H D1.plate.length with _ | n
  · have hq := open_label HY.out.2.2.1 hsr
    rw [HY.out.2.2.2.1] at hq
    rw [hsr] at hsz
    have hsz2 : Calls Try.prog 38 #[.slice (some ⟨g1, 0, none⟩) 2 2, .pointer (some ⟨p, 0, none⟩)] w1 fun e w' => e = .returned (.tuple #[.int .i64 0, .bool false]) ∧ Below w1.heap.size w1 w' := hsz
    have HZ := Lib.hid (And.intro hD1 (And.intro hG1 hq))
    clear hD1 hG1 hq hsz hb1
    go_wp2_with fail
    refine hsz2.mono ?_
    rintro e w2 ⟨rfl, hb2⟩
    clear hsz2
    have HZ2 := Lib.hid hb2
    clear hb2
    go_wp2_with fail
    go_ret2
    obtain ⟨hD1, hG1, hq⟩ := HZ.out
    rw [hq]
    exact ⟨bv, hD1.later HZ2.out, fun _ => rfl, fun h => absurd (show (140 : Int) = 0 from h) (by decide), hG1.kept.trans (Kept.of_below _ HZ2.out), fun k h => .inl h⟩
  rw [hsr] at hsz
  have hsz2 : Calls Try.prog 38 #[.slice (some ⟨g1, 0, none⟩) 2 2, .pointer (some ⟨p, 0, none⟩)] w1 fun e w' => e = .returned (.tuple #[.int .i64 (n : Int), .bool true]) ∧ Below w1.heap.size w1 w' := hsz
  obtain ⟨hn4, hn, hroom⟩ := size_range hsr
  have har : ∀ w', Calls Try.prog 39 #[.int .i64 (n : Int)] w' fun e w'' => e = .returned (.agg #[.int .i64 2, .int .i64 (n : Int), .int .i64 ((2 : Int) + (n : Int)), .int .i64 (n : Int)]) ∧ Below w'.heap.size w' w'' := fun w' => areas_any n hn w'
  have HZ := Lib.hid (And.intro hD1 (And.intro hG1 (And.intro hsr (And.intro hg1 hroom))))
  clear hsz hD1 hG1 hb1 hsr hroom
  go_wp2_with fail
  refine hsz2.mono ?_
  rintro e w2 ⟨rfl, hb2⟩
  clear hsz2
  go_wp2_with fail
  refine (har _).mono ?_
  rintro e w3 ⟨rfl, hb3⟩
  clear har
  have hb13 : Below w1.heap.size w1 w3 := bel_lat hb2 hb3
  obtain ⟨g, hg⟩ : ∃ g, w3.heap.size = g := ⟨_, rfl⟩
  obtain ⟨w4, hw4⟩ : ∃ w4, w3.alloc (.cells #[.int .u32 0, .slice none 0 0, .slice none 0 0, .int .i64 0, .pointer (some ⟨p, 0, none⟩), .int .i64 2, .int .i64 (n : Int), .int .i64 ((2 : Int) + (n : Int)), .int .i64 (n : Int), .int .i64 0, .bool false] 67) = w4 := ⟨_, rfl⟩
  obtain ⟨w5, hw5⟩ : ∃ w5, w4.alloc (.cells #[.slice none 0 0, .slice none 0 0] 91) = w5 := ⟨_, rfl⟩
  have g4 : Blk w4 g 67 (lgcs 0 (.slice none 0 0) (.slice none 0 0) 0 p n 0 false) := by rw [← hw4, ← hg]; exact Blk.new _ _ _
  have g5 : Blk w5 g 67 (lgcs 0 (.slice none 0 0) (.slice none 0 0) 0 p n 0 false) := by rw [← hw5]; exact g4.alloc _
  have s4 : w4.heap.size = g + 1 := by rw [← hw4, ← hg]; simp
  have k5 : Blk w5 (g + 1) 91 #[.slice none 0 0, .slice none 0 0] := by rw [← hw5, ← s4]; exact Blk.new _ _ _
  have hb35 : Below w3.heap.size w3 w5 := by rw [← hw5, ← hw4]; exact ((Below.refl _ _).alloc (Nat.le_refl _) _).alloc (by simp) _
  have hb15 := bel_lat hb13 hb35
  have hsw1 := HZ.out.2.1.kept.size
  have hgw : w.heap.size ≤ g := by rw [← hg]; exact Nat.le_trans hsw1 hb13.size
  have hop : OpAt w w5 B p pb g (g + 1) n bv D1 (.slice none 0 0) (.slice none 0 0) := ⟨g5, k5, HZ.out.1.later hb15, HZ.out.2.1.kept.trans (Kept.of_below _ hb15), hgw, by omega⟩
  have hla : (loadSem 65 (.pointer (some ⟨g, 5, none⟩))).run Try.prog w5 = .ok (.agg #[.int .i64 2, .int .i64 (n : Int), .int .i64 ((2 : Int) + (n : Int)), .int .i64 (n : Int)]) w5 := ld_ars g5
  have HO := Lib.hid (And.intro hop (And.intro hg s4))
  clear hop g4 g5 k5 hb35 hb15 hb13 hb2 hb3 hsw1 hgw
  go_wp2_with fail
  have ha0 : ∀ W, (Instr.index 65 (.agg #[.int .i64 2, .int .i64 (n : Int), .int .i64 ((2 : Int) + (n : Int)), .int .i64 (n : Int)]) (.int .i64 0)).run Try.prog W = .ok (.agg #[.int .i64 2, .int .i64 (n : Int)]) W := fun W => areas_at0 2 n (2 + n) n W
  have ha1 : ∀ W, (Instr.index 65 (.agg #[.int .i64 2, .int .i64 (n : Int), .int .i64 ((2 : Int) + (n : Int)), .int .i64 (n : Int)]) (.int .i64 1)).run Try.prog W = .ok (.agg #[.int .i64 ((2 : Int) + (n : Int)), .int .i64 (n : Int)]) W := fun W => areas_at1 2 n (2 + n) n W
  have HN := Lib.hid (And.intro hn4 (And.intro hn er1))
  clear hw4 hw5 hla hn4 hn er1 s4
  try rw [hg]
  clear hg
  obtain ⟨hb, hhb⟩ : ∃ hb, g + 1 = hb := ⟨_, rfl⟩
  rw [hhb] at HO
  try rw [hhb]
  clear hhb
  go_loopw [41] (fun i wr => ∃ (k : Nat) (Dc : Dk) (x0 x1 : Value), k ≤ 2 ∧ i = .int .i64 k ∧ OpAt w wr B p pb g hb n bv Dc x0 x1 ∧ OpK n D1 w.heap.size wr Dc x0 x1 k) (fun i _ => 2 - (intOf i).toNat)
  case atStart => exact ⟨0, D1, _, _, by omega, rfl, HO.out.1, .inl ⟨rfl, rfl, rfl, rfl⟩⟩
  case round =>
    obtain ⟨k, Dc, x0, x1, hk, rfl, hop, hok⟩ := hrel
    rcases hok with ⟨rfl, rfl, rfl, rfl⟩ | ⟨rfl, rfl, g0, A, hA, rfl, hg0, hbA⟩ | ⟨rfl, g0, g1', A, L, D2, hA, hL, rfl, rfl, hg0, hg1', hbA, hbL⟩
    · clear ha1
      have hst := st_rg wr 2 n
      obtain ⟨W3, hW3⟩ : ∃ W3, wr.alloc (.cells #[.int .i64 2, .int .i64 (n : Int)] 64) = W3 := ⟨_, rfl⟩
      have hb3 : Below wr.heap.size wr W3 := by rw [← hW3]; exact (Below.refl _ _).alloc (Nat.le_refl _) _
      have lrg : (loadSem 64 (.pointer (some ⟨wr.heap.size, 0, none⟩))).run Try.prog W3 = .ok (.agg #[.int .i64 2, .int .i64 (n : Int)]) W3 := by rw [← hW3]; exact ld_rg (Blk.new _ _ _)
      have hop3 := hop.later hb3
      obtain ⟨⟨D2, A, e2⟩, h2⟩ : ∃ x, readsM Dc 2 n = x := ⟨_, rfl⟩
      have hr2 := rread_any hop3.d (first := 2) (n := n) (by have := HN.out.1; omega) (by have := HN.out.2.1; omega) (by omega)
      rw [h2] at hr2
      have hr2' : Calls Try.prog 37 #[.agg #[.int .i64 2, .int .i64 (n : Int)], .pointer (some ⟨p, 0, none⟩)] W3 fun e w' => (∃ g, (e2 = 0 → e = .returned (.tuple #[.slice (some ⟨g, 0, none⟩) n n, .int .i64 0]) ∧ W3.heap.size ≤ g ∧ Blk w' g 81 (pcs A).toArray)) ∧
        (e2 ≠ 0 → e = .returned (.tuple #[.slice none 0 0, .int .i64 e2])) ∧ Dsk w' B p pb bv D2 ∧ Goes W3 w' p pb bv bv := hr2
      rw [hW3] at hst
      have hs3 : w.heap.size ≤ W3.heap.size := hop3.k.size
      have H3 := Lib.hid (And.intro hop3 (And.intro h2 hs3))
      clear hop hop3 hb3 h2 hr2 hs3
      go_wp2_with fail
      refine hr2'.mono ?_
      rintro e W4 ⟨⟨g0, hgo⟩, hno, hD4, hG4⟩
      clear hr2' hst lrg hW3
      have hop4 := H3.out.1.read hD4 hG4
      have ch : W4.cell? ⟨hb, 0, none⟩ = some (.slice none 0 0) := hop4.hw.cell 0
      have fh : W4.frozen? ⟨hb, 0, none⟩ = false := hop4.hw.free 0
      by_cases he : e2 ≠ 0
      · have heb : (e2 != 0) = true := by simpa using he
        obtain rfl := hno he
        have hq := open_first HY.out.2.2.1 HZ.out.2.2.1 H3.out.2.1 he
        rw [HY.out.2.2.2.1] at hq
        have H4 := Lib.hid (And.intro hop4 (And.intro hq he))
        clear hgo hno hD4 hG4 hop4 hq he
        go_wp2_with fail
        go_ret2
        obtain ⟨hop4, hq, he⟩ := H4.out
        rw [hq]
        have h5 := hop4.put0 (.slice none 0 0)
        exact ⟨bv, h5.d, fun _ => rfl, fun h => absurd h he, h5.k, fun k h => .inl h⟩
      · obtain rfl : e2 = 0 := Classical.byContradiction he
        obtain ⟨rfl, hg0, hbA⟩ := hgo rfl
        have h5 := hop4.put0 (.slice (some ⟨g0, 0, none⟩) n n)
        have hbA5 : Blk (W4.setCell ⟨hb, 0, none⟩ (.slice (some ⟨g0, 0, none⟩) n n)) g0 81 (pcs A).toArray := hbA.far (p := ⟨hb, 0, none⟩) (hbA.ne hop4.hw (by decide)) _
        have H4 := Lib.hid (And.intro h5 (And.intro hbA5 hg0))
        clear hgo hno hD4 hG4 hop4 he h5 hbA5 hbA hg0
        go_wp2_with fail
        go_roundw
        case rel => exact ⟨0 + 1, D2, _, _, by omega, by go_num, H4.out.1, .inr (.inl ⟨rfl, rfl, g0, A, H3.out.2.1, rfl, Nat.le_trans H3.out.2.2 H4.out.2.2, H4.out.2.1⟩)⟩
        case measure => simp [intOf]
    · clear ha0
      have hst := st_rg wr (2 + n) n
      obtain ⟨W3, hW3⟩ : ∃ W3, wr.alloc (.cells #[.int .i64 ((2 : Int) + (n : Int)), .int .i64 (n : Int)] 64) = W3 := ⟨_, rfl⟩
      have hb3 : Below wr.heap.size wr W3 := by rw [← hW3]; exact (Below.refl _ _).alloc (Nat.le_refl _) _
      have lrg : (loadSem 64 (.pointer (some ⟨wr.heap.size, 0, none⟩))).run Try.prog W3 = .ok (.agg #[.int .i64 ((2 : Int) + (n : Int)), .int .i64 (n : Int)]) W3 := by rw [← hW3]; exact ld_rg (Blk.new _ _ _)
      have hop3 := hop.later hb3
      have hbA3 := hbA.kept (Kept.of_below [] hb3) (by simp)
      obtain ⟨⟨D2, L, e2⟩, h2⟩ : ∃ x, readsM Dc (2 + n) n = x := ⟨_, rfl⟩
      have hr2 := rread_any hop3.d (first := 2 + n) (n := n) (by have := HN.out.1; omega) (by have := HN.out.2.1; omega) (by have := HN.out.2.1; omega)
      rw [h2, show rgs (2 + n) n = #[.int .i64 ((2 : Int) + (n : Int)), .int .i64 (n : Int)] by simp [rgs]] at hr2
      have hr2' : Calls Try.prog 37 #[.agg #[.int .i64 ((2 : Int) + (n : Int)), .int .i64 (n : Int)], .pointer (some ⟨p, 0, none⟩)] W3 fun e w' => (∃ g, (e2 = 0 → e = .returned (.tuple #[.slice (some ⟨g, 0, none⟩) n n, .int .i64 0]) ∧ W3.heap.size ≤ g ∧ Blk w' g 81 (pcs L).toArray)) ∧
        (e2 ≠ 0 → e = .returned (.tuple #[.slice none 0 0, .int .i64 e2])) ∧ Dsk w' B p pb bv D2 ∧ Goes W3 w' p pb bv bv := hr2
      rw [hW3] at hst
      have hs3 : w.heap.size ≤ W3.heap.size := hop3.k.size
      have H3 := Lib.hid (And.intro hop3 (And.intro h2 (And.intro hs3 (And.intro hbA3 (And.intro hA hg0)))))
      clear hop hop3 hb3 h2 hr2 hs3 hbA hbA3 hA hg0
      go_wp2_with fail
      refine hr2'.mono ?_
      rintro e W4 ⟨⟨g1', hgo⟩, hno, hD4, hG4⟩
      clear hr2' hst lrg hW3
      have hop4 := H3.out.1.read hD4 hG4
      have hfl := fp_lt HY.out.2.2.2.2
      have hbA4 := H3.out.2.2.2.1.kept hG4.kept (fun hm => by have := hfl _ hm; have := H3.out.2.2.2.2.2; omega)
      have ch : W4.cell? ⟨hb, 1, none⟩ = some (.slice none 0 0) := hop4.hw.cell 1
      have fh : W4.frozen? ⟨hb, 1, none⟩ = false := hop4.hw.free 1
      by_cases he : e2 ≠ 0
      · have heb : (e2 != 0) = true := by simpa using he
        obtain rfl := hno he
        have hq := open_second HY.out.2.2.1 HZ.out.2.2.1 H3.out.2.2.2.2.1 H3.out.2.1 he
        rw [HY.out.2.2.2.1] at hq
        have H4 := Lib.hid (And.intro hop4 (And.intro hq he))
        clear hgo hno hD4 hG4 hop4 hq he hbA4 hfl
        go_wp2_with fail
        go_ret2
        obtain ⟨hop4, hq, he⟩ := H4.out
        rw [hq]
        have h5 := hop4.put1 (.slice none 0 0)
        exact ⟨bv, h5.d, fun _ => rfl, fun h => absurd h he, h5.k, fun k h => .inl h⟩
      · obtain rfl : e2 = 0 := Classical.byContradiction he
        obtain ⟨rfl, hg1', hbL⟩ := hgo rfl
        have h5 := hop4.put1 (.slice (some ⟨g1', 0, none⟩) n n)
        have hbA5 : Blk (W4.setCell ⟨hb, 1, none⟩ (.slice (some ⟨g1', 0, none⟩) n n)) g0 81 (pcs A).toArray := hbA4.far (p := ⟨hb, 1, none⟩) (hbA4.ne hop4.hw (by decide)) _
        have hbL5 : Blk (W4.setCell ⟨hb, 1, none⟩ (.slice (some ⟨g1', 0, none⟩) n n)) g1' 81 (pcs L).toArray := hbL.far (p := ⟨hb, 1, none⟩) (hbL.ne hop4.hw (by decide)) _
        have H4 := Lib.hid (And.intro h5 (And.intro hbA5 (And.intro hbL5 hg1')))
        clear hgo hno hD4 hG4 hop4 he h5 hbA5 hbA4 hbL5 hbL hg1' hfl
        go_wp2_with fail
        go_roundw
        case rel => exact ⟨1 + 1, D2, _, _, by omega, by go_num, H4.out.1, .inr (.inr ⟨rfl, g0, g1', A, L, Dc, H3.out.2.2.2.2.1, H3.out.2.1, rfl, rfl, H3.out.2.2.2.2.2, Nat.le_trans H3.out.2.2.1 H4.out.2.2.2, H4.out.2.1, H4.out.2.2.1⟩)⟩
        case measure => simp [intOf]
    · clear ha0 ha1
      have yA := HY.out.1.1.reads 2 n
      have lA := readsM_len D1 2 n
      rw [hA] at yA lA
      have yL := yA.1.reads (2 + n) n
      have lL := readsM_len D2 (2 + n) n
      rw [hL] at yL lL
      have lA' : A.length = n := lA rfl
      have lL' : L.length = n := lL rfl
      have hch := choose_any (a0 := some ⟨g0, 0, none⟩) (a1 := some ⟨g1', 0, none⟩) hop.gw (Secs.of_blk hbA) (Secs.of_blk hbL) (fun x hx => by cases hx; exact hbA.ne hop.gw (by decide)) (fun x hx => by cases hx; exact hbL.ne hop.gw (by decide)) yA.2 yL.2 (by have := HN.out.2.1; omega) (by have := HN.out.2.1; omega) n n (by omega) (by omega)
      rw [lA', lL'] at hch
      have hlh := ld_hd hop.hw
      obtain ⟨R, hR⟩ : ∃ R, bestR A L 2 = R := ⟨_, rfl⟩
      have hR2 := bestR_two A L
      rw [hR] at hch hR2
      have H5 := Lib.hid (And.intro hop (And.intro hbA (And.intro hbL (And.intro hg0 (And.intro hg1' (And.intro hA (And.intro hL (And.intro yA (And.intro yL (And.intro lA' (And.intro lL' (And.intro hR hR2))))))))))))
      clear hop hbA hbL hg0 hg1' hA hL yA yL lA lL lA' lL' hR hR2
      go_wp2_with fail
      refine hch.mono ?_
      rintro e W6 ⟨t, sv, tv, u, rfl, hg6, hch6, hk6⟩
      clear hch hlh
      obtain ⟨hop, hbA, hbL, hg0, hg1', hA, hL, yA, yL, lA, lL, hR, hR2⟩ := H5.out
      have hgf := g_far hop.d hop.gw
      have hD6 := hop.d.apart hk6 (fun i hi => by rw [List.mem_singleton.1 hi]; exact hgf)
      have hw6 := hop.hw.kept hk6 (by rw [List.mem_singleton]; exact hop.hw.ne hop.gw (by decide))
      have hA6 := hbA.kept hk6 (by rw [List.mem_singleton]; exact hbA.ne hop.gw (by decide))
      have hL6 := hbL.kept hk6 (by rw [List.mem_singleton]; exact hbL.ne hop.gw (by decide))
      have hK6 : Kept (fp p pb bv) w W6 := hop.k.trans2 hk6 (fun i hi => by rw [List.mem_singleton.1 hi]; exact .inr hop.lt.1)
      have htn := hch6.turn
      have hus := hch6.used
      have hC6 : ChIs W6 w.heap.size R.1 t sv tv u := hch6.imp (fun e v n xs _ h => own_base h hop.k.size)
      have hgl := hop.lt.1
      clear hop hbA hbL hgf hk6 hch6
      by_cases ht : t = 0
      · have hdt : decide (0 < t) = false := by rw [ht]; rfl
        have hq := open_none HY.out.2.2.1 HZ.out.2.2.1 hA hL hR (htn.trans ht)
        rw [HY.out.2.2.2.1] at hq
        have H6 := Lib.hid (And.intro hD6 (And.intro hK6 hq))
        clear hD6 hw6 hA6 hL6 hK6 htn hus hC6 hgl hq ht hA hL yA yL lA lL hR hR2 hg0 hg1' hg6
        go_wp2_with fail
        go_ret2
        obtain ⟨hD6, hK6, hq⟩ := H6.out
        rw [hq]
        exact ⟨bv, hD6, fun _ => rfl, fun h => absurd (show (140 : Int) = 0 from h) (by decide), hK6, fun k h => .inl h⟩
      · have hdt : decide (0 < t) = true := by simpa using Nat.pos_of_ne_zero ht
        obtain ⟨LR, hLR⟩ : ∃ LR, layM Dc (openL (leftPl A L t u n R.2)) = LR := ⟨_, rfl⟩
        obtain ⟨D4, e4⟩ := LR
        have hq := open_some (D4 := D4) (e := e4) HY.out.2.2.1 HZ.out.2.2.1 hA hL hR (by rw [htn]; exact ht) (by rw [htn, hus]; exact hLR)
        rw [HY.out.2.2.2.1] at hq
        have hlo := leftover_any g (.slice (some ⟨g0, 0, none⟩) n n) (.slice (some ⟨g1', 0, none⟩) n n) W6
        have hlh := ld_hd hw6
        have H6 := Lib.hid (And.intro hD6 (And.intro hK6 (And.intro hq (And.intro hw6 (And.intro hA6 (And.intro hL6 (And.intro hg6 (And.intro hC6 (And.intro hgl (And.intro ht hLR))))))))))
        have H7 := Lib.hid (And.intro yA (And.intro yL (And.intro lA (And.intro lL (And.intro hg0 (And.intro hg1' hR2))))))
        clear hD6 hw6 hA6 hL6 hK6 htn hus hC6 hgl hq ht hA hL yA yL lA lL hR hR2 hg0 hg1' hg6 hLR
        go_wp2_with fail
        refine hlo.mono ?_
        rintro e W7 ⟨rfl, bw, bh, hb67⟩
        clear hlo hlh
        obtain ⟨hD6, hK6, hq, hw6, hA6, hL6, hg6, hC6, hgl, ht, hLR⟩ := H6.out
        obtain ⟨yA, yL, lA, lL, hg0, hg1', hR2⟩ := H7.out
        obtain ⟨P, hP⟩ : ∃ P, leftPl A L t u n R.2 = P := ⟨_, rfl⟩
        obtain ⟨W8, hW8⟩ : ∃ W8, W7.alloc (.cells #[.func (.func 60) #[] #[.pointer (some ⟨W6.heap.size + 1, 0, none⟩), .pointer (some ⟨W6.heap.size, 0, none⟩)]] 95) = W8 := ⟨_, rfl⟩
        have hb78 : Below W7.heap.size W7 W8 := by rw [← hW8]; exact (Below.refl _ _).alloc (Nat.le_refl _) _
        have hb68 : Below W6.heap.size W6 W8 := bel_lat hb67 hb78
        have br : Blk W8 W7.heap.size 95 (rowVals [leftR P (W6.heap.size + 1) W6.heap.size]) := by rw [← hW8]; exact Blk.new _ _ _
        have hD8 := hD6.later hb68
        have hg8 := hg6.kept (Kept.of_below [] hb68) (by simp)
        have hA8 := hA6.kept (Kept.of_below [] hb68) (by simp)
        have hL8 := hL6.kept (Kept.of_below [] hb68) (by simp)
        have bw8 := bw.kept (Kept.of_below [] hb78) (by simp)
        have bh8 := bh.kept (Kept.of_below [] hb78) (by simp)
        have hlat : LoAt [] W8 (W6.heap.size + 1) W6.heap.size g (some ⟨g0, 0, none⟩) (some ⟨g1', 0, none⟩) A L n n t sv tv u p n R.2 :=
          ⟨by rw [lA, lL]; exact bh8, bw8, hg8, Secs.of_blk hA8, Secs.of_blk hL8, safe_blk hA8 (by decide), safe_blk hL8 (by decide), by simp, by simp, by simp⟩
        have htold := told_left hlat yA.2 yL.2 (by have := HN.out.2.1; omega) (by have := HN.out.2.1; omega) HN.out.2.1 hR2
        rw [hP] at htold hLR
        have hfl := fp_lt HY.out.2.2.2.2
        have hs6 := hK6.size
        have hnC : ∀ q, q ∈ fp p pb bv → q ∉ (W6.heap.size + 1) :: W6.heap.size :: g :: (((some (⟨g0, 0, none⟩ : Addr)).map (·.block)).toList ++ ((some (⟨g1', 0, none⟩ : Addr)).map (·.block)).toList) := fun q hq2 hm => by
          have := hfl q hq2
          simp at hm
          omega
        have hwr := wwrite_any hD8 (Nat.le_trans hB (Nat.le_trans hs6 hb68.size)) hg8 rfl rfl [leftR P (W6.heap.size + 1) W6.heap.size] _ (hnC p (by simp [fp])) (hnC pb (by simp [fp])) (fun x hx => by rw [List.mem_singleton.1 hx]; exact htold) br (by simp)
        rw [errs_one, leftR_items, hLR] at hwr
        have hC8 : ChIs W8 w.heap.size R.1 t sv tv u := hC6.imp (fun e v n xs _ h => owns_later2 h hb68)
        have hK8 : Kept (fp p pb bv) w W8 := hK6.trans (Kept.of_below _ hb68)
        have H8 := Lib.hid (And.intro hC8 (And.intro hK8 (And.intro hD8 hg8)))
        clear hD6 hK6 hw6 hA6 hL6 hg6 hC6 yA yL lA lL hg0 hg1' hR2 hb78 hb68 br hD8 hg8 hA8 hL8 bw8 bh8 hlat htold hfl hs6 hnC hC8 hK8 bw bh hb67 hLR hP
        have hq9 := Lib.hid (And.intro hq (And.intro ht hgl))
        clear hq ht hgl
        go_wp2_with fail
        refine hwr.mono ?_
        rintro e W9 ⟨rfl, bv', hD9, hg9, hk9, ho9⟩
        clear hwr
        obtain ⟨hC8, hK8, hD8, hg8⟩ := H8.out
        obtain ⟨hq, ht, hgl⟩ := hq9.out
        have hC9 : ChIs W9 w.heap.size R.1 t sv tv u := hC8.imp (fun e v n xs he h => own_far h hk9 (own_apart h hD8 hg8 he))
        have hK9 : Kept (fp p pb bv) w W9 := hK8.trans2 hk9 (fun i hi => by
          rcases List.mem_cons.1 hi with h9 | h9
          · rw [h9]; exact .inr hgl
          · exact .inl h9)
        have ho9' : ∀ k, bv'.ownBlock = some k → bv.ownBlock = some k ∨ w.heap.size ≤ k := fun k hk => (ho9 k hk).imp id (fun h9 => Nat.le_trans hK8.size h9)
        have hg9' : Blk W9 g 67 (lgcs t sv tv u p n R.2 (decide (e4 ≠ 0))) := hg9
        by_cases he : e4 ≠ 0
        · have heb : (e4 != 0) = true := by simpa using he
          have H9 := Lib.hid (And.intro hC9 (And.intro hK9 (And.intro ho9' (And.intro hD9 (And.intro hq he)))))
          clear hC8 hK8 hD8 hg8 hq ht hgl hC9 hK9 ho9' hg9' hg9 hk9 ho9 hD9 he
          go_wp2_with fail
          go_ret2
          obtain ⟨hC9, hK9, ho9', hD9, hq, he⟩ := H9.out
          rw [hq]
          exact ⟨bv', hD9, fun _ => rfl, fun h => absurd h he, hK9, ho9'⟩
        · obtain rfl : e4 = 0 := Classical.byContradiction he
          have hg9' : Blk W9 g 67 (lgcs t sv tv u p n R.2 false) := hg9'
          have H9 := Lib.hid (And.intro hC9 (And.intro hK9 (And.intro ho9' (And.intro hD9 (And.intro hq (And.intro ht (And.intro hgl hg9')))))))
          clear hC8 hK8 hD8 hg8 hq ht hgl hC9 hK9 ho9' hg9' hg9 hk9 ho9 hD9 he
          go_wp2_with fail
          go_ret2
          obtain ⟨hC9, hK9, ho9', hD9, hq, ht, hgl, hg9'⟩ := H9.out
          rw [hq]
          exact ⟨bv', hD9, fun h => absurd rfl h, fun _ => ⟨g, t, sv, tv, u, rfl, hgl, hg9', hC9, Nat.pos_of_ne_zero ht⟩, hK9, ho9'⟩
end Go.Proofs.Ytelpihlifdfgoaa
namespace Go.Proofs.Ytelpihlifdfgoaa
open Go.RowKit Go.Shelf
set_option linter.unusedVariables false
theorem own_two {w : World} {B C m k : Nat} {e e' : TypeId} {v v' : Value} {xs ys : List Value} (h : w.ownsRow B e 1 v m xs) (h' : w.ownsRow C e' 1 v' k ys) (he : e ≠ e') : ∀ i, v.ownBlock = some i → v'.ownBlock ≠ some i := by
  intro i hi hi'
  rcases h.2 with h9 | ⟨q, cap, cur, h1, h2, h3, h4⟩
  · rw [h9.1] at hi; cases hi
  · rcases h'.2 with h9 | ⟨q', cap', cur', h1', h2', h3', h4'⟩
    · rw [h9.1] at hi'; cases hi'
    · rw [h1] at hi
      rw [h1'] at hi'
      obtain rfl : q = i := by simpa [Value.ownBlock] using hi
      obtain rfl : q' = q := by simpa [Value.ownBlock] using hi'
      rw [h3] at h3'
      have := Option.some.inj h3'
      simp only [Obj.cells.injEq] at this
      exact he this.2.1
theorem own_ge {w : World} {B m : Nat} {e : TypeId} {v : Value} {xs : List Value} (h : w.ownsRow B e 1 v m xs) : ∀ i, v.ownBlock = some i → B ≤ i := by
  intro i hi
  rcases h.2 with h9 | ⟨q, cap, cur, h1, h2, h3, h4⟩
  · rw [h9.1] at hi; cases hi
  · rw [h1] at hi
    obtain rfl : q = i := by simpa [Value.ownBlock] using hi
    exact h2
/-- A disk that does as it is asked lies there, and shows f. -/
def Lk (B : Nat) (W : World) (p pb N : Nat) (bv : Value) (D : Dk) (f : Nat → Bk) : Prop := Dsk W B p pb bv D ∧ D.Well N ∧ D.Byt ∧ showsM D = f
/-- A log lies there, as its sectors say; what it holds by name. -/
def LcX (B : Nat) (W : World) (p g n t c : Nat) (s : List Nat) (txs : List (List Nat)) (sv tv : Value) (vs : List Value) : Prop :=
  Blk W g 67 (lgcs t sv tv (chainB t s txs).length p n c false) ∧ W.ownsRow B 5 1 sv s.length (s.map byc) ∧ W.ownsRow B 29 1 tv txs.length vs ∧ Txs W B vs txs ∧ B ≤ g
/-- A log lies there, as its sectors say. -/
def Lc (B : Nat) (W : World) (p g n t c : Nat) (s : List Nat) (txs : List (List Nat)) : Prop :=
  ∃ (sv tv : Value) (vs : List Value), Blk W g 67 (lgcs t sv tv (chainB t s txs).length p n c false) ∧ W.ownsRow B 5 1 sv s.length (s.map byc) ∧ W.ownsRow B 29 1 tv txs.length vs ∧ Txs W B vs txs ∧ B ≤ g
section
variable {B p pb g n N t c : Nat} {W W' : World} {s : List Nat} {txs : List (List Nat)} {bv : Value} {D : Dk} {f : Nat → Bk}
theorem Lk.later (h : Lk B W p pb N bv D f) (k : Below W.heap.size W W') : Lk B W' p pb N bv D f := ⟨h.1.later k, h.2⟩
theorem Lc.imp (h : Lc B W p g n t c s txs) (hg : ∀ cs, Blk W g 67 cs → Blk W' g 67 cs) (hk : ∀ (e : TypeId) (v : Value) (m : Nat) (xs : List Value), e = 5 ∨ e = 29 → W.ownsRow B e 1 v m xs → W'.ownsRow B e 1 v m xs) : Lc B W' p g n t c s txs := by
  obtain ⟨sv, tv, vs, h1, h2, h3, h4, h5⟩ := h
  exact ⟨sv, tv, vs, hg _ h1, hk _ _ _ _ (.inl rfl) h2, hk _ _ _ _ (.inr rfl) h3, Txs.imp (fun v l h => hk _ _ _ _ (.inl rfl) h) h4, h5⟩
theorem LcX.later {sv tv : Value} {vs : List Value} (h : LcX B W p g n t c s txs sv tv vs) (k : Below W.heap.size W W') : LcX B W' p g n t c s txs sv tv vs :=
  ⟨h.1.kept (Kept.of_below [] k) (by simp), owns_later2 h.2.1 k, owns_later2 h.2.2.1 k, Txs.imp (fun v l h => owns_later2 h k) h.2.2.2.1, h.2.2.2.2⟩
theorem LcX.lc {sv tv : Value} {vs : List Value} (h : LcX B W p g n t c s txs sv tv vs) : Lc B W p g n t c s txs := ⟨sv, tv, vs, h⟩
theorem Lc.later (h : Lc B W p g n t c s txs) (k : Below W.heap.size W W') : Lc B W' p g n t c s txs :=
  h.imp (fun cs h => h.kept (Kept.of_below [] k) (by simp)) (fun e v m xs _ h => owns_later2 h k)
/-- What a call on the disk leaves of a log that lies beside. -/
theorem Lc.beside (h : Lc B W p g n t c s txs) (hD : Dsk W B p pb bv D) (k : Kept (fp p pb bv) W W') : Lc B W' p g n t c s txs := by
  have hh := h
  obtain ⟨sv, tv, vs, h1, _⟩ := hh
  exact h.imp (fun cs hb => hb.kept k (g_far hD hb)) (fun e v m xs he h => own_far h k (fun i hi hm => own_apart h hD h1 he i hi (by simp [hm])))
theorem fp_ge (hD : Dsk W B p pb bv D) : ∀ i ∈ fp p pb bv, B ≤ i := by
  intro i hi
  simp only [fp, List.mem_cons, Option.mem_toList] at hi
  rcases hi with rfl | rfl | h9
  · exact hD.hp
  · exact hD.hpb
  · rcases hD.buf.2 with h8 | ⟨q, cap, cur, e1, e2, e3, e4⟩
    · rw [h8.1] at h9; cases h9
    · rw [e1] at h9
      obtain rfl : q = i := by simpa [Value.ownBlock] using h9
      exact e2
theorem frm_byt {first t m : Nat} {l : List Nat} (ht : t ≤ 4294967295) (hm : m ≤ 4294967295) (hB : Bys l) : ∀ x ∈ frmL first t m l, x.2.Byt := by
  intro x hx
  obtain ⟨k, _, rfl⟩ := List.mem_map.1 hx
  exact part_byt ht hm hB
theorem fmt_byt (n : Nat) : ∀ l ∈ fmtL n, ∀ x ∈ l, x.2.Byt := by
  intro l hl
  simp only [fmtL, List.mem_cons, List.not_mem_nil, or_false] at hl
  rcases hl with rfl | rfl | rfl
  · intro x hx
    obtain ⟨k, _, rfl⟩ := List.mem_map.1 hx
    exact byt_zero
  · exact frm_byt (by omega) (by omega) (by intro x hx; cases hx)
  · intro x hx
    obtain ⟨k, _, rfl⟩ := List.mem_map.1 hx
    exact lab_byt n
theorem nod_of (hD : Dsk W B p pb bv D) (hw : D.Well N) : D.Nod N := by
  have := nod_ok hD.ok
  rwa [hw.len] at this
/-- Bytes that may be handed to a log. -/
structure Give (W : World) (p pb g : Nat) (a : Option Addr) (l : List Nat) : Prop where
  lies : Lies W a l
  len : l.length ≤ 40000
  bys : Bys l
  safe : Safe W a
  apart : ∀ x, a = some x → x.block ≠ p ∧ x.block ≠ pb ∧ x.block ≠ g
  none : a = none → l.length = 0
theorem lc_append (hk : Lk B W p pb N bv D f) {sv tv : Value} {vs : List Value} (h : LcX B W p g n t c s txs sv tv vs) (hf : LogF f n t c s txs) (hN : 2 + 2 * n ≤ N) (hB : B ≤ W.heap.size) {a : Option Addr} {l : List Nat} (hG : Give W p pb g a l) (cp : Nat) (hcp : l.length ≤ cp) (hfit : (chainB t s txs).length + secN l.length ≤ n) :
    Calls Try.prog 29 #[.pointer (some ⟨g, 0, none⟩), .slice a l.length cp] W fun e w' => e = .returned (.int .i64 0) ∧ (∃ bv' D' f', Lk B w' p pb N bv' D' f' ∧ LogF f' n t c s (txs ++ [l]) ∧ Lc B w' p g n t c s (txs ++ [l])) ∧ Below B W w' ∧ Kept (g :: (tv.ownBlock.toList ++ fp p pb bv)) W w' := by
  obtain ⟨hD, hw, hy, hsh⟩ := hk
  obtain ⟨h1, h2, h3, h4, h5⟩ := h
  obtain ⟨ta, tc, rfl⟩ := wown_slice h3
  have hm := hf.more
  have hn := hf.n4
  have hu := hf.fit
  have hc := hf.c2
  have ht := hf.t0
  have hcn := hf.cn
  have har : areaN n c = 2 + c * n := by rcases (show c = 0 ∨ c = 1 by omega) with rfl | rfl <;> simp [areaN]
  have hap := wappend_done hD hB h1 hc hn.2 hu (by omega) ht.2 h3 hB a l.length cp l hG.lies rfl hG.len hcp hG.bys hG.safe hG.apart hG.none (by omega)
  rw [har] at hap
  have hin : ∀ x ∈ frmL (2 + c * n + (chainB t s txs).length) t (txs.length + 1) l, x.1 < N := frm_in (by omega)
  obtain ⟨e0, w2⟩ := lay_well (frmL (2 + c * n + (chainB t s txs).length) t (txs.length + 1) l) hw hin
  obtain ⟨_, s2⟩ := lay_shows (frmL (2 + c * n + (chainB t s txs).length) t (txs.length + 1) l) hw (nod_of hD hw) hin
  have y2 := byt_lay hy (frm_byt (first := 2 + c * n + (chainB t s txs).length) (m := txs.length + 1) (l := l) ht.2 (by omega) hG.bys)
  refine hap.mono ?_
  rintro e w' ⟨rfl, bv', hD', hok, _, hk', ho'⟩
  obtain ⟨v, tv', hv, htv', hg'⟩ := hok e0
  refine ⟨by rw [e0], ⟨bv', _, _, ⟨hD', w2, y2, rfl⟩, ?_, sv, tv', vs ++ [v], ?_, ?_, by simpa using htv', Txs.snoc (own_base hv hB) (Txs.imp (fun v l h => ?_) h4), h5⟩, ?_, hk'⟩
  · rw [s2, hsh]
    exact hf.app hG.len hG.bys hfit
  · have e : (chainB t s (txs ++ [l])).length = (chainB t s txs).length + secN l.length := by rw [chainB_snoc, List.length_append, frameB_len]
    rw [e]; exact hg'
  · refine own_far h2 hk' (fun i hi hm => ?_)
    simp only [List.mem_cons, List.mem_append, Option.mem_toList] at hm
    rcases hm with h9 | h9 | h9
    · exact own_apart h2 hD h1 (.inl rfl) i hi (by simp [h9])
    · exact own_two h2 h3 (by decide) i hi h9
    · exact own_apart h2 hD h1 (.inl rfl) i hi (by simp [h9])
  · refine own_far h hk' (fun i hi hm => ?_)
    simp only [List.mem_cons, List.mem_append, Option.mem_toList] at hm
    rcases hm with h9 | h9 | h9
    · exact own_apart h hD h1 (.inl rfl) i hi (by simp [h9])
    · exact own_two h h3 (by decide) i hi h9
    · exact own_apart h hD h1 (.inl rfl) i hi (by simp [h9])
  · refine hk'.below (fun i hi => ?_) hB
    simp only [List.mem_cons, List.mem_append, Option.mem_toList] at hi
    rcases hi with h9 | h9 | h9
    · rw [h9]; exact h5
    · exact own_ge h3 i h9
    · exact fp_ge hD i h9
theorem lc_check (hk : Lk B W p pb N bv D f) {sv tv : Value} {vs : List Value} (h : LcX B W p g n t c s txs sv tv vs) (hf : LogF f n t c s txs) (hN : 2 + 2 * n ≤ N) (hB : B ≤ W.heap.size) {a : Option Addr} {l : List Nat} (hG : Give W p pb g a l) (cp : Nat) (hcp : l.length ≤ cp) (hfit : secN l.length ≤ n) (htt : t < 4294967295) :
    Calls Try.prog 30 #[.pointer (some ⟨g, 0, none⟩), .slice a l.length cp] W fun e w' => e = .returned (.int .i64 0) ∧ (∃ bv' D' f', Lk B w' p pb N bv' D' f' ∧ LogF f' n (t + 1) (1 - c) l [] ∧ Lc B w' p g n (t + 1) (1 - c) l []) ∧ Below B W w' ∧ Kept (g :: fp p pb bv) W w' := by
  obtain ⟨hD, hw, hy, hsh⟩ := hk
  obtain ⟨h1, h2, h3, h4, h5⟩ := h
  have hn := hf.n4
  have hc := hf.c2
  have hin : ∀ x ∈ frmL (2 + (1 - c) * n) (t + 1) 0 l, x.1 < N := frm_in (by rcases (show c = 0 ∨ c = 1 by omega) with rfl | rfl <;> omega)
  obtain ⟨e0, w2⟩ := lay_well (frmL (2 + (1 - c) * n) (t + 1) 0 l) hw hin
  obtain ⟨_, s2⟩ := lay_shows (frmL (2 + (1 - c) * n) (t + 1) 0 l) hw (nod_of hD hw) hin
  have y2 := byt_lay hy (frm_byt (first := 2 + (1 - c) * n) (m := 0) (l := l) (t := t + 1) (by omega) (by omega) hG.bys)
  have hlf : LogF (showsM (layM D (frmL (2 + (1 - c) * n) (t + 1) 0 l)).1) n (t + 1) (1 - c) l [] := by rw [s2, hsh]; exact hf.chk hG.len hG.bys hfit htt
  have hcl : (chainB (t + 1) l []).length = secN l.length := by rw [chainB_one, frameB_len]
  have hbelow : ∀ w', Kept (g :: fp p pb bv) W w' → Below B W w' := fun w' k => k.below (fun i hi => by
    rcases List.mem_cons.1 hi with h9 | h9
    · rw [h9]; exact h5
    · exact fp_ge hD i h9) hB
  rcases (show c = 0 ∨ c = 1 by omega) with rfl | rfl
  · have hch := wcheck_done0 hD hB h1 hn.2 a l.length cp l hG.lies rfl hG.len hcp hG.bys hG.safe hG.apart hG.none hfit htt
    rw [show 2 + (1 - 0) * n = 2 + n by omega] at e0 w2 y2 hlf
    refine hch.mono ?_
    rintro e w' ⟨rfl, bv', hD', hok, _, hk', ho'⟩
    obtain ⟨v, hv, hg'⟩ := hok e0
    exact ⟨by rw [e0], ⟨bv', _, _, ⟨hD', w2, y2, rfl⟩, hlf, v, .slice none 0 0, [], by rw [hcl]; exact hg', own_base hv hB, World.ownsRow_nil _ _ _ _, trivial, h5⟩, hbelow _ hk', hk'⟩
  · have hch := wcheck_done1 hD hB h1 hn.2 a l.length cp l hG.lies rfl hG.len hcp hG.bys hG.safe hG.apart hG.none hfit htt
    rw [show 2 + (1 - 1) * n = 2 by omega] at e0 w2 y2 hlf
    refine hch.mono ?_
    rintro e w' ⟨rfl, bv', hD', hok, _, hk', ho'⟩
    obtain ⟨v, hv, hg'⟩ := hok e0
    exact ⟨by rw [e0], ⟨bv', _, _, ⟨hD', w2, y2, rfl⟩, hlf, v, .slice none 0 0, [], by rw [hcl]; exact hg', own_base hv hB, World.ownsRow_nil _ _ _ _, trivial, h5⟩, hbelow _ hk', hk'⟩
theorem lc_open (hk : Lk B W p pb N bv D f) (h : Lc B W p g n t c s txs) (hf : LogF f n t c s txs) (hN : 2 + 2 * n ≤ N) (hB : B ≤ W.heap.size) :
    Calls Try.prog 18 #[.pointer (some ⟨p, 0, none⟩)] W fun e w' => ∃ g', e = .returned (.tuple #[.pointer (some ⟨g', 0, none⟩), .int .i64 0]) ∧ (∃ bv' D', Lk B w' p pb N bv' D' f) ∧ Lc B w' p g n t c s txs ∧ Lc B w' p g' n t c s txs ∧ Below B W w' ∧ Kept (fp p pb bv) W w' := by
  obtain ⟨hD, hw, hy, hsh⟩ := hk
  subst hsh
  obtain ⟨E, hE, w2, n2, s2, y2⟩ := hf.opens hw (nod_of hD hw) hN
  have hop := wopen_any hD hB hy
  rw [hE] at hop
  refine hop.mono ?_
  rintro e w' ⟨bv', hD', _, hok, hk', ho'⟩
  obtain ⟨g', t', sv, tv, u, rfl, hg', hb, hch, ht0⟩ := hok rfl
  rcases hch with ⟨h9, _⟩ | ⟨l, txs', vs, h9, h2, h3, h4⟩
  · cases h9
  · simp only [Option.some.injEq, Prod.mk.injEq] at h9
    obtain ⟨rfl, rfl, rfl, rfl⟩ := h9
    exact ⟨g', rfl, ⟨bv', E, hD', w2, y2 hy, s2⟩, h.beside hD hk', ⟨sv, tv, vs, hb, own_base h2 hB, own_base h3 hB, Txs.imp (fun v l h => own_base h hB) h4, Nat.le_trans hB hg'⟩, hk'.below (fp_ge hD) hB, hk'⟩
end
end Go.Proofs.Ytelpihlifdfgoaa
namespace Go.Proofs.Ytelpihlifdfgoaa
open Go.RowKit Go.Shelf
set_option linter.unusedVariables false
section
variable {B p pb g n N t c : Nat} {W W' : World} {s : List Nat} {txs : List (List Nat)} {bv : Value} {D : Dk} {f : Nat → Bk}
theorem lc_format (hk : Lk B W p pb N bv D f) (hn : 4 ≤ n ∧ n ≤ 1000) (hN : 2 + 2 * n ≤ N) (hB : B ≤ W.heap.size) :
    Calls Try.prog 28 #[.pointer (some ⟨p, 0, none⟩), .int .i64 (n : Int)] W fun e w' => ∃ g, e = .returned (.tuple #[.pointer (some ⟨g, 0, none⟩), .int .i64 0]) ∧ (∃ bv' D' f', Lk B w' p pb N bv' D' f' ∧ LogF f' n 1 0 [] []) ∧ Lc B w' p g n 1 0 [] [] ∧ Below B W w' := by
  obtain ⟨hD, hw, hy, hsh⟩ := hk
  have hfo := wformat_done hD hB hn.1 hn.2 (by rw [hw.len]; exact hN)
  have hin := fmt_in (n := n) (N := N) (by omega) hN
  obtain ⟨e0, w2⟩ := lays_well (fmtL n) hw hin
  obtain ⟨_, s2⟩ := lays_shows (fmtL n) hw (nod_of hD hw) hin
  have y2 := byt_lays (fmtL n) hy (fmt_byt n)
  refine hfo.mono ?_
  rintro e w' ⟨bv', hD', hok, _, hk', ho'⟩
  obtain ⟨g, v, rfl, hg, hv, hb⟩ := hok e0
  exact ⟨g, rfl, ⟨bv', _, _, ⟨hD', w2, y2, rfl⟩, by rw [s2]; exact logf_format hn⟩, ⟨v, .slice none 0 0, [], hb, own_base hv hB, World.ownsRow_nil _ _ _ _, trivial, Nat.le_trans hB hg⟩, hk'.below (fp_ge hD) hB⟩
theorem lk_new {w W : World} (n : Nat) (h : Dsk W w.heap.size p pb (.slice none 0 0) (newM n)) : Lk w.heap.size W p pb n (.slice none 0 0) (newM n) (showsM (newM n)) := by
  refine ⟨h, ⟨rfl, rfl, rfl, by simp [newM]⟩, ⟨fun b hb => ?_, fun r hr => ?_⟩, rfl⟩
  · rw [List.eq_of_mem_replicate (show b ∈ List.replicate n Bk.zero from hb)]; exact byt_zero
  · cases hr
end
set_option maxRecDepth 100000 in
set_option maxHeartbeats 2000000 in
theorem made_any (w : World) : Calls Try.prog 7 #[] w fun e w' => ∃ g p pb bv D f, e = .returned (.tuple #[.pointer (some ⟨g, 0, none⟩), .bool true]) ∧ Lk w.heap.size w' p pb 26 bv D f ∧ LogF f 12 1 0 [] [] ∧ Lc w.heap.size w' p g 12 1 0 [] [] ∧ Below w.heap.size w w' := by
  have hnew := new_any 26 (by omega) (by omega) w
  rw [show ((26 : Nat) : Int) = 26 from rfl] at hnew
  go_enter Try.func7, Try.ntmps7
  go_wp2_with fail
  refine hnew.mono ?_
  rintro e W1 ⟨rfl, hD1, hb1⟩
  clear hnew
  have hfo := lc_format (lk_new 26 hD1) (n := 12) ⟨by omega, by omega⟩ (by omega) hb1.size
  rw [show ((12 : Nat) : Int) = 12 from rfl] at hfo
  obtain ⟨p, hp⟩ : ∃ p, w.heap.size + 1 = p := ⟨_, rfl⟩
  rw [hp] at hfo ⊢
  have HB := Lib.hid hb1
  clear hD1 hp hb1
  go_wp2_with fail
  refine hfo.mono ?_
  rintro e W2 ⟨g, rfl, ⟨bv', D', f', hk, hf⟩, hc, hb⟩
  clear hfo
  have HR := Lib.hid (And.intro hk (And.intro hf (And.intro hc hb)))
  clear hk hf hc hb
  go_wp2_with fail
  go_ret2
  exact ⟨g, p, _, bv', D', f', rfl, HR.out.1, HR.out.2.1, HR.out.2.2.1, HB.out.trans HR.out.2.2.2⟩
theorem load_deed_rule (v : Value) : Instr.loadAt 35 v = loadSem 35 v := rfl
theorem s_deed (x0 x1 x2 x3 : Value) : (Try.prog.info? 35).map (·.size) = some #[x0, x1, x2, x3].size := by kernel_rfl
theorem ld_deed {w : World} {g : Nat} {x0 x1 x2 x3 : Value} (h : Blk w g 35 #[x0, x1, x2, x3]) : (loadSem 35 (.pointer (some ⟨g, 0, none⟩))).run Try.prog w = .ok (.agg #[x0, x1, x2, x3]) w :=
  loadRes_of (o := 0) h (fun j hj => by rw [Nat.zero_add]) _ Try.underlying35 rfl (s_deed x0 x1 x2 x3)
set_option maxHeartbeats 1000000 in
theorem kind0_any (x1 x2 x3 : Value) (w : World) : Calls Try.prog 9 #[.agg #[.int .i64 0, x1, x2, x3]] w fun e w' => e = .returned (.int .u64 0) ∧ Below w.heap.size w w' := by
  go_enter Try.func9, Try.ntmps9
  go_wp2
  go_ret
  exact ⟨rfl, (Below.refl _ _).alloc (Nat.le_refl _) _⟩
set_option maxHeartbeats 1000000 in
theorem kind4_any (x1 x2 x3 : Value) (w : World) : Calls Try.prog 9 #[.agg #[.int .i64 4, x1, x2, x3]] w fun e w' => e = .returned (.int .u64 4) ∧ Below w.heap.size w w' := by
  go_enter Try.func9, Try.ntmps9
  go_wp2
  go_ret
  exact ⟨rfl, (Below.refl _ _).alloc (Nat.le_refl _) _⟩
set_option maxRecDepth 100000 in
set_option maxHeartbeats 1000000 in
/-- The bytes of a deed, cloned. -/
theorem dbytes_any (x0 x1 x3 : Value) (a : Option Addr) (len c : Nat) (l : List Nat) (w : World) (hL : Lies w a l) (hl : l.length = len) (hc : len ≤ c) (h0 : a = none → len = 0) (hcb : c ≤ 9223372036854775807) :
    Calls Try.prog 24 #[.agg #[x0, x1, .slice a len c, x3]] w fun e w' => ∃ v, e = .returned v ∧ w'.ownsRow w.heap.size 5 1 v (l.take 400).length ((l.take 400).map byc) ∧ Below w.heap.size w w' := by
  obtain ⟨W1, hW1⟩ : ∃ W1, w.alloc (.cells #[x0, x1, .slice a len c, x3] 35) = W1 := ⟨_, rfl⟩
  have hb1 : Below w.heap.size w W1 := by rw [← hW1]; exact (Below.refl _ _).alloc (Nat.le_refl _) _
  have d2 : W1.cell? ⟨w.heap.size, 2, none⟩ = some (.slice a len c) := by rw [← hW1]; exact (Blk.new w 35 #[x0, x1, .slice a len c, x3]).cell 2
  have hL1 : Lies W1 a (l.take 400) := lies_take (hL.kept hb1) 400
  obtain ⟨m, hm⟩ : ∃ m, (l.take 400).length = m := ⟨_, rfl⟩
  have hm2 : m = if len ≤ 400 then len else 400 := by rw [← hm, List.length_take, hl]; split <;> omega
  have hcl := fun c2 => cloneb_any a m c2 (l.take 400) W1 hL1 hm (by rw [hm2]; split <;> omega) (fun h => by rw [hm2, h0 h]; rfl)
  rw [hm]
  have HB := Lib.hid (And.intro hb1 hm2)
  clear hb1 hL1 hL hl
  by_cases h4 : len ≤ 400
  · have h5 : (len : Int) ≤ 400 := by omega
    have h5b : ¬ (400 : Int) < (len : Int) := by omega
    obtain rfl : m = len := by rw [hm2, if_pos h4]
    clear hm2 hm
    go_enter Try.func24, Try.ntmps24
    go_wp2_with fail
    refine (hcl _).mono ?_
    rintro e w2 ⟨v, rfl, hown, hb2⟩
    have HO := Lib.hid (And.intro hown hb2)
    clear hown hb2 hcl
    go_wp2_with fail
    go_ret
    exact ⟨v, rfl, own_base HO.out.1 HB.out.1.size, bel_lat HB.out.1 HO.out.2⟩
  · have h5 : ¬ (len : Int) ≤ 400 := by omega
    have h5b : (400 : Int) < (len : Int) := by omega
    have h6 : (400 : Int) ≤ (c : Int) := by omega
    have h7 : (400 : Int) ≤ (len : Int) := by omega
    obtain rfl : m = 400 := by rw [hm2, if_neg h4]
    clear hm2 hm
    go_enter Try.func24, Try.ntmps24
    go_wp2_with fail
    refine (hcl _).mono ?_
    rintro e w2 ⟨v, rfl, hown, hb2⟩
    have HO := Lib.hid (And.intro hown hb2)
    clear hown hb2 hcl
    go_wp2_with fail
    go_ret
    exact ⟨v, rfl, own_base HO.out.1 HB.out.1.size, bel_lat HB.out.1 HO.out.2⟩
section
variable {B p pb g n N t c : Nat} {W W' : World} {s : List Nat} {txs : List (List Nat)} {bv : Value} {D : Dk} {f : Nat → Bk}
attribute [local go_sem ↓] load_deed_rule
/-- What was cloned may be handed to a log that was there before. -/
theorem give_own {w : World} (hD : Dsk w B p pb bv D) (hg : g < w.heap.size) {a : Option Addr} {cp : Nat} {l : List Nat} (ho : W.ownsRow w.heap.size 5 1 (.slice a l.length cp) l.length (l.map byc)) (hb : Below w.heap.size w W) (hlen : l.length ≤ 40000) (hB : Bys l) : Give W p pb g a l ∧ l.length ≤ cp := by
  obtain ⟨a', c', he, h1, h2, h3⟩ := own_bytes_lies ho rfl
  simp only [Value.slice.injEq] at he
  obtain ⟨rfl, _, rfl⟩ := he
  refine ⟨⟨h2, hlen, hB, fun x hx => (h3 x hx).2, fun x hx => ?_, fun hn => ?_⟩, h1⟩
  · have h4 := (h3 x hx).1
    have h5 := hD.cells.lt
    have h6 := hD.plate.lt
    exact ⟨by omega, by omega, by omega⟩
  · rcases ho.2 with ⟨_, h0⟩ | ⟨q, cap, cur, e1, _⟩
    · exact h0
    · cases e1; cases hn
set_option maxRecDepth 100000 in
set_option maxHeartbeats 1000000 in
theorem writes_app (hk : Lk B W p pb N bv D f) {sv tv : Value} {vs : List Value} (h : LcX B W p g n t c s txs sv tv vs) (hf : LogF f n t c s txs) (hN : 2 + 2 * n ≤ N) (hB : B ≤ W.heap.size) (x1 x3 : Value) (a : Option Addr) (len cp : Nat) (l : List Nat) (hL : Lies W a l) (hl : l.length = len) (hc : len ≤ cp) (h0 : a = none → len = 0) (hcb : cp ≤ 9223372036854775807) (hBy : Bys l) (hfit : (chainB t s txs).length + secN (l.take 400).length ≤ n) :
    Calls Try.prog 11 #[.pointer (some ⟨g, 0, none⟩), .agg #[.int .i64 0, x1, .slice a len cp, x3]] W fun e w' => e = .returned (.int .i64 0) ∧ (∃ bv' D' f', Lk B w' p pb N bv' D' f' ∧ LogF f' n t c s (txs ++ [l.take 400]) ∧ Lc B w' p g n t c s (txs ++ [l.take 400])) ∧ Below B W w' ∧ Kept (g :: (tv.ownBlock.toList ++ fp p pb bv)) W w' := by
  obtain ⟨q, hq⟩ : ∃ q, l.take 400 = q := ⟨_, rfl⟩
  obtain ⟨m, hm⟩ : ∃ m, q.length = m := ⟨_, rfl⟩
  have hq4 : m ≤ 400 := by rw [← hm, ← hq, List.length_take]; omega
  have hqB : Bys q := by rw [← hq]; exact hBy.take 400
  rw [hq] at hfit ⊢
  rw [hm] at hfit
  have hdb := fun x0 w h => dbytes_any x0 x1 x3 a len cp l w h hl hc h0 hcb
  rw [hq, hm] at hdb
  clear hq
  have hk0 := fun w => kind0_any x1 (.slice a len cp) x3 w
  obtain ⟨W1, hW1⟩ : ∃ W1, W.alloc (.cells #[.int .i64 0, x1, .slice a len cp, x3] 35) = W1 := ⟨_, rfl⟩
  have hb1 : Below W.heap.size W W1 := by rw [← hW1]; exact (Below.refl _ _).alloc (Nat.le_refl _) _
  have hd1 : Blk W1 W.heap.size 35 #[.int .i64 0, x1, .slice a len cp, x3] := by rw [← hW1]; exact Blk.new _ _ _
  have hld := ld_deed hd1
  have HH := Lib.hid (And.intro hk (And.intro h (And.intro hf (And.intro hL (And.intro hl (And.intro h0 (And.intro hqB (And.intro hb1 (And.intro hd1 (And.intro hfit hm))))))))))
  clear hk h hf hL hl h0 hBy hqB hb1 hd1 hfit hm
  go_enter Try.func11, Try.ntmps11
  go_wp2_with fail
  refine (hk0 _).mono ?_
  rintro e W2 ⟨rfl, hb2⟩
  clear hk0 hld
  obtain ⟨hk, h, hf, hL, hl, h0, hqB, hb1, hd1, hfit, hm⟩ := HH.out
  have hb12 := bel_lat hb1 hb2
  have hld := ld_deed (hd1.kept (Kept.of_below [] hb2) (by simp))
  have hby := hdb (.int .i64 0) W2 (hL.kept hb12)
  have HB2 := Lib.hid hb12
  clear hk h hf hL hl h0 hqB hb1 hd1 hfit hb12 hb2 hm hdb
  go_wp2_with fail
  refine hby.mono ?_
  rintro e W3 ⟨v, rfl, hown, hb3⟩
  clear hby hld
  obtain ⟨hk, h, hf, hL, hl, h0, hqB, hb1, hd1, hfit, hm⟩ := HH.out
  obtain ⟨va, vc, rfl⟩ := wown_slice hown
  have hb13 := bel_lat HB2.out hb3
  have hk3 := hk.later hb13
  have h3 := h.later hb13
  have hg : g < W2.heap.size := Nat.lt_of_lt_of_le h.1.lt HB2.out.size
  rw [← hm] at hown
  obtain ⟨hG, hvc⟩ := give_own (hk.1.later HB2.out) hg hown hb3 (by omega) hqB
  have hap := lc_append hk3 h3 hf hN (Nat.le_trans hB hb13.size) hG vc hvc (by rw [hm]; exact hfit)
  rw [hm] at hap
  have HA := Lib.hid (And.intro (hb13.mono hB) (Kept.of_below (g :: (tv.ownBlock.toList ++ fp p pb bv)) hb13))
  clear hk h hf hL hl h0 hqB hb1 hd1 hfit hm hk3 h3 hg hG hvc hown hb3 hb13
  go_wp2_with fail
  refine hap.mono ?_
  rintro e W4 ⟨rfl, hex, hbb, hkk⟩
  have HX := Lib.hid (And.intro hex (And.intro hbb hkk))
  clear hap hex hbb hkk
  go_wp2_with fail
  go_ret
  exact ⟨rfl, HX.out.1, HA.out.1.trans HX.out.2.1, HA.out.2.trans HX.out.2.2⟩
set_option maxRecDepth 100000 in
set_option maxHeartbeats 1000000 in
theorem writes_chk (hk : Lk B W p pb N bv D f) {sv tv : Value} {vs : List Value} (h : LcX B W p g n t c s txs sv tv vs) (hf : LogF f n t c s txs) (hN : 2 + 2 * n ≤ N) (hB : B ≤ W.heap.size) (x1 x3 : Value) (a : Option Addr) (len cp : Nat) (l : List Nat) (hL : Lies W a l) (hl : l.length = len) (hc : len ≤ cp) (h0 : a = none → len = 0) (hcb : cp ≤ 9223372036854775807) (hBy : Bys l) (hfit : secN (l.take 400).length ≤ n) (htt : t < 4294967295) :
    Calls Try.prog 11 #[.pointer (some ⟨g, 0, none⟩), .agg #[.int .i64 4, x1, .slice a len cp, x3]] W fun e w' => e = .returned (.int .i64 0) ∧ (∃ bv' D' f', Lk B w' p pb N bv' D' f' ∧ LogF f' n (t + 1) (1 - c) (l.take 400) [] ∧ Lc B w' p g n (t + 1) (1 - c) (l.take 400) []) ∧ Below B W w' ∧ Kept (g :: fp p pb bv) W w' := by
  obtain ⟨q, hq⟩ : ∃ q, l.take 400 = q := ⟨_, rfl⟩
  obtain ⟨m, hm⟩ : ∃ m, q.length = m := ⟨_, rfl⟩
  have hq4 : m ≤ 400 := by rw [← hm, ← hq, List.length_take]; omega
  have hqB : Bys q := by rw [← hq]; exact hBy.take 400
  rw [hq] at hfit ⊢
  rw [hm] at hfit
  have hdb := fun x0 w h => dbytes_any x0 x1 x3 a len cp l w h hl hc h0 hcb
  rw [hq, hm] at hdb
  clear hq
  have hk0 := fun w => kind4_any x1 (.slice a len cp) x3 w
  obtain ⟨W1, hW1⟩ : ∃ W1, W.alloc (.cells #[.int .i64 4, x1, .slice a len cp, x3] 35) = W1 := ⟨_, rfl⟩
  have hb1 : Below W.heap.size W W1 := by rw [← hW1]; exact (Below.refl _ _).alloc (Nat.le_refl _) _
  have hd1 : Blk W1 W.heap.size 35 #[.int .i64 4, x1, .slice a len cp, x3] := by rw [← hW1]; exact Blk.new _ _ _
  have hld := ld_deed hd1
  have HH := Lib.hid (And.intro hk (And.intro h (And.intro hf (And.intro hL (And.intro hl (And.intro h0 (And.intro hqB (And.intro hb1 (And.intro hd1 (And.intro hfit hm))))))))))
  clear hk h hf hL hl h0 hBy hqB hb1 hd1 hfit hm
  go_enter Try.func11, Try.ntmps11
  go_wp2_with fail
  refine (hk0 _).mono ?_
  rintro e W2 ⟨rfl, hb2⟩
  clear hk0 hld
  obtain ⟨hk, h, hf, hL, hl, h0, hqB, hb1, hd1, hfit, hm⟩ := HH.out
  have hb12 := bel_lat hb1 hb2
  have hld := ld_deed (hd1.kept (Kept.of_below [] hb2) (by simp))
  have hby := hdb (.int .i64 4) W2 (hL.kept hb12)
  have HB2 := Lib.hid hb12
  clear hk h hf hL hl h0 hqB hb1 hd1 hfit hb12 hb2 hm hdb
  go_wp2_with fail
  refine hby.mono ?_
  rintro e W3 ⟨v, rfl, hown, hb3⟩
  clear hby hld
  obtain ⟨hk, h, hf, hL, hl, h0, hqB, hb1, hd1, hfit, hm⟩ := HH.out
  obtain ⟨va, vc, rfl⟩ := wown_slice hown
  have hb13 := bel_lat HB2.out hb3
  have hk3 := hk.later hb13
  have h3 := h.later hb13
  have hg : g < W2.heap.size := Nat.lt_of_lt_of_le h.1.lt HB2.out.size
  rw [← hm] at hown
  obtain ⟨hG, hvc⟩ := give_own (hk.1.later HB2.out) hg hown hb3 (by omega) hqB
  have hap := lc_check hk3 h3 hf hN (Nat.le_trans hB hb13.size) hG vc hvc (by rw [hm]; exact hfit) htt
  rw [hm] at hap
  have HA := Lib.hid (And.intro (hb13.mono hB) (Kept.of_below (g :: fp p pb bv) hb13))
  clear hk h hf hL hl h0 hqB hb1 hd1 hfit hm hk3 h3 hg hG hvc hown hb3 hb13
  go_wp2_with fail
  refine hap.mono ?_
  rintro e W4 ⟨rfl, hex, hbb, hkk⟩
  have HX := Lib.hid (And.intro hex (And.intro hbb hkk))
  clear hap hex hbb hkk
  go_wp2_with fail
  go_ret
  exact ⟨rfl, HX.out.1, HA.out.1.trans HX.out.2.1, HA.out.2.trans HX.out.2.2⟩
end
end Go.Proofs.Ytelpihlifdfgoaa
