/-
  The contracts of prefix's reader: read, Err, refuse, taken, version, bits, addr. Nothing here is a statement of the document.
-/
import Derived.Test.YtikdgbmdepplgaaGreatDoorOctL
import Derived.Laws.CopyOwn
import Derived.Laws.Rows
namespace Go.Proofs.YtikdgbmdepplgaaGreatDoor
open Go.RowKit Go.Shelf
set_option linter.unusedVariables false
attribute [local go_sem ↓] load_b16_rule store_b16_rule load_ad_rule store_ad_rule load_px_rule store_px_rule eq_b16_rule eq_ad_rule eq_px_rule

theorem px_cell {W : World} {g : Nat} {p : Px} (h : Blk W g 46 p.cs) (j : Nat) (hj : j < 16) : ∀ w', Below W.heap.size W w' → w'.cell? ⟨g, 1 + j, none⟩ = some (.int .u8 (p.a.b.at j : Int)) :=
  fun w' k => ((h.later k).cell _).trans ((p.cb j hj).trans (p.a.b.get j hj))
theorem World.size_drew' (w : World) : w.drew.heap.size = w.heap.size := rfl
theorem bel_alloc_all (W : World) : ∀ w' o, Below W.heap.size W w' → Below W.heap.size W (w'.alloc o) := fun w' o h => h.alloc h.size o
/-- A row of ints that lies at the head of a block. -/
def Ints (w : World) (q : Nat) (l : List Nat) : Prop := Blk w q 3 (l.map fun n : Nat => Value.int .i64 (n : Int)).toArray
theorem Ints.cell {w : World} {q : Nat} {l : List Nat} (h : Ints w q l) {i : Nat} (hi : i < l.length) : w.cell? ⟨q, i, none⟩ = some (.int .i64 ((l.getD i 0 : Nat) : Int)) := by
  unfold Ints at h
  rw [h.cell]
  simp [hi]
theorem pown_mono {w : World} {B B' : Nat} {e : TypeId} {z : Nat} {v : Value} {n : Nat} {xs : List Value} (h : w.ownsRow B e z v n xs) (hB : B' ≤ B) : w.ownsRow B' e z v n xs := by
  refine ⟨h.1, ?_⟩
  rcases h.2 with h9 | ⟨g, cap, cur, h1, h2, h3⟩
  · exact .inl h9
  · exact .inr ⟨g, cap, cur, h1, Nat.le_trans hB h2, h3⟩
theorem own_later2 {w w' : World} {b : Nat} {e : TypeId} {size : Nat} {v : Value} {n : Nat} {xs : List Value} (h : w.ownsRow b e size v n xs) (hb : Below w.heap.size w w') : w'.ownsRow b e size v n xs := by
  refine ⟨h.1, ?_⟩
  rcases h.2 with h9 | ⟨g, cap, cur, h1, h2, h3, h4⟩
  · exact .inl h9
  · exact .inr ⟨g, cap, cur, h1, h2, (hb.block g (Array.getElem?_eq_some_iff.1 h3).1).trans h3, h4⟩
/-- A slice of the call's own that holds these bytes. -/
def Gets (w w' : World) (v : Value) (l : List Nat) : Prop := w'.ownsRow w.heap.size 5 1 v l.length (l.map byc)
theorem B16.lies {w : World} {g o : Nat} {b : B16} (h : ∀ j, j < 16 → w.cell? ⟨g, o + j, none⟩ = some (.int .u8 (b.at j : Int))) (hg : g < w.heap.size) (n : Nat) (hn : n ≤ 16) : Lies w (some ⟨g, o, none⟩) (b.l.take n) := by
  refine .inr ⟨g, o, rfl, hg, fun i hi => ?_⟩
  rw [List.length_take, b.len] at hi
  rw [h i (by omega)]
  have e : (b.l.take n).getD i 0 = b.l.getD i 0 := by simp [List.getElem?_take, show i < n by omega]
  rw [e]
  rfl

set_option maxRecDepth 100000 in
set_option maxHeartbeats 1600000 in
theorem laid_any (b : B16) (n : Nat) (hn : n ≤ 128) (q : Nat) (hs : List Nat) (w : World) (hq : Ints w q hs) (hB : Bys hs) (hl : hs.length ≤ 2) :
    Calls Tryz.prog 60 #[.agg b.cs, .int .i64 (n : Int), .slice (some ⟨q, 0, none⟩) hs.length hs.length] w fun e w' => ∃ v, e = .returned v ∧ Gets w w' v (hs ++ b.l.take (fill8 n)) ∧ Below w.heap.size w w' := by
  obtain ⟨i0, hi, hz0, hz1, hz2⟩ := info_parts Tryz.info5
  obtain ⟨W1, hW1⟩ : ∃ W1, w.alloc (.cells b.cs 42) = W1 := ⟨_, rfl⟩
  have hb1 : Below w.heap.size w W1 := by rw [← hW1]; exact (Below.refl _ _).alloc (Nat.le_refl _) _
  have b1 : Blk W1 w.heap.size 42 b.cs := by rw [← hW1]; exact Blk.new w _ _
  have hs1 : W1.heap.size = w.heap.size + 1 := by rw [← hW1]; simp
  have hq1 : Ints W1 q hs := (show Blk w q _ _ from hq).later hb1
  have H1 := Lib.hid (And.intro hb1 (And.intro b1 (And.intro hq1 hs1)))
  obtain ⟨m, hm⟩ : ∃ m, hs.length = m := ⟨_, rfl⟩
  rw [hm] at hl ⊢
  have HM := Lib.hid hm
  clear hb1 b1 hq1 hs1 hq hm
  go_enter Tryz.func60, Tryz.ntmps60
  go_wp2_with fail
  clear hW1
  go_loopw [7, 9, 12] (fun o x i wr => ∃ k : Nat, k ≤ m ∧ i = .int .i64 k ∧ Below W1.heap.size W1 wr ∧ wr.ownsRow W1.heap.size 5 1 o k ((hs.take k).map byc)) (fun o x i _ => m - (intOf i).toNat)
  case atStart => exact ⟨0, Nat.zero_le _, rfl, Below.refl _ _, by simp, .inl ⟨rfl, rfl⟩⟩
  case round =>
    obtain ⟨k, hk, rfl, hb, hown⟩ := hrel
    have hbs := hb.size
    by_cases hlt : k < m
    · have hc : wr.cell? ⟨q, k, none⟩ = some (.int .i64 ((hs.getD k 0 : Nat) : Int)) := ((show Blk W1 q _ _ from H1.out.2.2.1).later hb |> fun h => (show Ints wr q hs from h)).cell (by have := HM.out; omega)
      have hx := hB.at k
      have hsnoc : hs.take (k + 1) = hs.take k ++ [hs.getD k 0] := by
        rw [List.take_add_one]
        have : k < hs.length := by have := HM.out; omega
        simp [this]
      have HS := Lib.hid hsnoc
      have hwx : IntKind.u8.wrap ((hs.getD k 0 : Nat) : Int) = ((hs.getD k 0 : Nat) : Int) := by rw [IntKind.wrap_u8]; omega
      generalize hs.getD k 0 = x at *
      clear hsnoc
      go_wp2_with (at_builtin; refine wpList_append_own _ rfl _ _ 30 rfl W1.heap.size 5 i0 (.int .u8 0) 1 1 Tryz.underlying30 hi hz0 hz1 hz2 rfl (by decide) _ _ _ rfl (hown.alloc _) ⟨wr.heap.size, 0, none⟩ 1 1 [.int .u8 (x : Int)] rfl rfl ?c1 ?c2 ?c3 ?c4 ?c5 ?_)
      case c1 =>
        intro j u hj
        match j, hj with
        | 0, hj => simp at hj; subst hj; simp [Addr.add]
      case c2 => intro u hu; simp at hu; subst hu; rfl
      case c3 => unfold maxLen; omega
      case c4 => omega
      case c5 => simp; omega
      intro v' w1 hown' hgrow _
      have hb2 : Below W1.heap.size W1 w1 := (hb.alloc hbs _).grown hgrow (by simp; omega) (fun j hj => (hown.lt j hj).1)
      have e2 : (hs.map byc).take k ++ [.int .u8 (x : Int)] = (hs.take (k + 1)).map byc := by rw [HS.out]; simp [byc]
      rw [e2] at hown'
      have HX := Lib.hid (And.intro hb2 hown')
      clear hown' hgrow hown hb2 hb
      go_wp2
      go_roundw
      case rel => exact ⟨k + 1, by omega, by go_num, HX.out.1, HX.out.2⟩
      case measure => simp [intOf]; omega
    · obtain rfl : k = m := by omega
      have hfill := filled_any n (by omega)
      have hf16 : fill8 n ≤ 16 := by unfold fill8; omega
      have b3 := H1.out.2.1.later hb
      have hL := B16.lies (w := wr) (g := w.heap.size) (o := 0) (b := b) (fun j hj => by rw [Nat.zero_add]; exact (b3.cell j).trans (b.get j hj)) b3.lt (fill8 n) hf16
      have htl : hs.take k = hs := List.take_of_length_le (by have := HM.out; omega)
      rw [htl] at hown
      have hlen : (b.l.take (fill8 n)).length = fill8 n := by rw [List.length_take, b.len]; omega
      obtain ⟨f, hf⟩ : ∃ f, fill8 n = f := ⟨_, rfl⟩
      rw [hf] at hfill hf16 hL hlen
      have hf2 : (f : Int) ≤ 16 := by omega
      obtain ⟨M, hMM⟩ : ∃ M, M = b.l.take f := ⟨_, rfl⟩
      rw [← hMM] at hL hlen
      have HE := Lib.hid (show hs ++ b.l.take (fill8 n) = hs ++ M by rw [hf, hMM])
      have HL := Lib.hid hL
      have HO := Lib.hid hown
      clear hL hMM hf htl hown b3
      subst hlen
      go_wp2_with (first | (go_at_call 79; refine (hfill _).mono ?_; rintro e w2 ⟨rfl, rfl⟩) | (at_builtin; refine wpList_append_got rfl _ _ rfl W1.heap.size _ _ _ rfl HO.out (some ⟨w.heap.size, 0, none⟩) 16 M rfl HL.out (fun h => by cases h) (by omega) hbs ?_))
      intro v' w1 hown' hgrow
      have hb2 : Below W1.heap.size W1 w1 := hb.grown hgrow hbs (fun j hj => (HO.out.lt j hj).1)
      have HX := Lib.hid (And.intro hb2 hown')
      clear hown' hgrow hb2 hb
      go_wp2
      go_ret
      refine ⟨v', rfl, ?_, bel_trans H1.out.1 HX.out.1⟩
      rw [HE.out]
      unfold Gets
      rw [List.length_append, HM.out, List.map_append]
      exact pown_mono HX.out.2 (by have := H1.out.2.2.2; omega)

/-- The bytes of an address, of a prefix. -/
def encA (a : Ad) : List Nat := a.v.toNat :: a.b.l.take (wid a.v / 8)
def encP (p : Px) : List Nat := [p.a.v.toNat, p.n.toNat] ++ p.a.b.l.take (fill8 p.n.toNat)
theorem wid_cases {v : Int} (h : wid v ≠ 0) : v = 4 ∨ v = 6 := by
  unfold wid at h
  split at h
  · exact .inl ‹_›
  · split at h
    · exact .inr ‹_›
    · exact absurd rfl h
theorem fill_wid (v : Int) : fill8 (wid v) = wid v / 8 := by
  unfold fill8 wid
  split
  · rfl
  · split <;> rfl
theorem bys_one {x : Nat} (h : x < 256) : Bys [x] := fun m hm => by rw [List.mem_singleton.1 hm]; exact h
theorem bys_two {x y : Nat} (h : x < 256) (h2 : y < 256) : Bys [x, y] := fun m hm => by
  rcases List.mem_cons.1 hm with h9 | h9
  · omega
  · rw [List.mem_singleton.1 h9]; exact h2

set_option maxRecDepth 100000 in
set_option maxHeartbeats 1600000 in
theorem encode_any (p : Px) (w : World) (hW : Wid w) :
    Calls Tryz.prog 41 #[.agg p.cs] w fun e w' => ∃ v, e = .returned (.tuple #[v, .int .i64 (eP p)]) ∧ (okP p → Gets w w' v (encP p)) ∧ (¬ okP p → v = .slice none 0 0) ∧ Below w.heap.size w w' := by
  obtain ⟨W1, hW1⟩ : ∃ W1, w.alloc (.cells p.cs 46) = W1 := ⟨_, rfl⟩
  have hb1 : Below w.heap.size w W1 := by rw [← hW1]; exact ((Below.refl w.heap.size w).alloc (Nat.le_refl _) _)
  have b1 : Blk W1 (w.heap.size) 46 p.cs := by
    have h9 := Blk.new w 46 p.cs
    rw [← hW1]; exact h9
  have LP := px_p b1
  have LA := px_a b1
  have LB := px_b b1
  have LV := px_v b1
  have LN := px_n b1
  have HW : ∀ w', Below W1.heap.size W1 w' → Wid w' := fun w' h => (hW.later hb1).later h
  have h0 : Below W1.heap.size W1 W1 := Below.refl _ _
  have HB := Lib.hid hb1
  clear hb1 b1
  have HCA := fun w' h => check_any p w' (HW w' h)
  have LD := bel_drew_all W1
  have LE := bel_alloc_all W1
  by_cases h1 : okP p
  · rw [eP_ok h1] at HCA ⊢
    obtain ⟨x, hx⟩ := Int.eq_ofNat_of_zero_le (show 0 ≤ p.a.v by have := wid_cases h1.1.1; omega)
    obtain ⟨n, hn⟩ := Int.eq_ofNat_of_zero_le h1.2.1
    have hx6 : x ≤ 6 := by have := wid_cases h1.1.1; omega
    have hn128 : n ≤ 128 := by have := okP_le h1; omega
    have HE := Lib.hid (show [x, n] ++ p.a.b.l.take (fill8 n) = encP p by unfold encP; rw [hx, hn]; rfl)
    have HLA := fun q w' h => laid_any p.a.b n hn128 q [x, n] w' h (bys_two (by omega) (by omega)) (by simp)
    rw [hx] at LV
    rw [hn] at LN
    have HO := Lib.hid h1
    clear h1 hx hn
    go_enter Tryz.func41, Tryz.ntmps41
    go_wp2_with (first | (go_at_call 59; refine (HCA _ (by assumption)).mono ?_; rintro e w2 ⟨rfl, hb2⟩; have hk2 : Below W1.heap.size W1 w2 := bel_trans (by assumption) hb2; clear hb2))
    refine (HLA w2.heap.size _ (Blk.new _ _ _)).mono ?_
    rintro e w3 ⟨v, rfl, hgets, hb3⟩
    have hk3 : Below W1.heap.size W1 w3 := bel_trans (LE _ _ (by assumption)) hb3
    have hsz := hk2.size
    go_wp2
    refine bodyPost_ret (results_tmp2 rfl _ _ _) rfl ?_
    exact ⟨v, rfl, fun _ => by rw [← HE.out]; exact pown_mono hgets (Nat.le_trans HB.out.size (by rw [World.size_alloc]; omega)), fun h => absurd HO.out h, bel_trans HB.out hk3⟩
  · rw [eP_no h1] at HCA ⊢
    have HO := Lib.hid h1
    clear h1
    go_enter Tryz.func41, Tryz.ntmps41
    go_wp2_with (first | (go_at_call 59; refine (HCA _ (by assumption)).mono ?_; rintro e w2 ⟨rfl, hb2⟩; have hk2 : Below W1.heap.size W1 w2 := bel_trans (by assumption) hb2; clear hb2) | (refine wp_region_lin (fun w' => Below W1.heap.size W1 w') (by kernel_rfl) (by kernel_rfl) (bel_drew (by assumption)) ?_; (repeat (first | (refine lin_off (by rfl) ?_; (try simp only [Act.put, List.setIfInBounds_toArray, List.set_cons_zero, List.set_cons_succ])) | (refine lin_op (v := ?_) (by rfl) (fun w9 hS9 => ?_) ?_; rotate_left; (focus (((try dsimp only at hS9); go_simp; (try go_bits)) <;> with_reducible rfl)); (try simp only [Act.put, List.setIfInBounds_toArray, List.set_cons_zero, List.set_cons_succ])) | (refine lin_fn (f := 59) (by rfl) rfl rfl (enters_of Tryz.func59 (by kernel_rfl) rfl) (fun w9 hS9 => (HCA w9 hS9).mono (fun e w' h => ⟨h.1, bel_trans hS9 h.2⟩)) ?_ ?_; (focus (simp [Act.eval]; done)); (try simp only [Act.put, List.setIfInBounds_toArray, List.set_cons_zero, List.set_cons_succ])))); refine lin_nil (fun w8 hS8 => ?_)))
    refine bodyPost_ret (results_tmp2 rfl _ _ _) rfl ?_
    exact ⟨_, rfl, fun h => absurd h HO.out, fun _ => rfl, bel_trans HB.out (by assumption)⟩

theorem take_more0 (L : List Nat) (k : Nat) (h : k < L.length) : L.take (k + 1) = L.take k ++ [L.getD k 0] := by
  rw [List.take_add_one]
  simp [h]
theorem own_one (w : World) (x : Nat) : (w.alloc (.cells #[.int .u8 (x : Int)] 5)).ownsRow w.heap.size 5 1 (.slice (some ⟨w.heap.size, 0, none⟩) 1 1) 1 ([x].map byc) :=
  ⟨rfl, .inr ⟨w.heap.size, 1, #[.int .u8 (x : Int)], rfl, Nat.le_refl _, heap_alloc_new _ _, Nat.le_refl _, by unfold maxLen; omega, rfl, rfl⟩⟩
theorem own_two (w : World) (x y : Nat) : (w.alloc (.cells #[.int .u8 (x : Int), .int .u8 (y : Int)] 5)).ownsRow w.heap.size 5 1 (.slice (some ⟨w.heap.size, 0, none⟩) 2 2) 2 ([x, y].map byc) :=
  ⟨rfl, .inr ⟨w.heap.size, 2, #[.int .u8 (x : Int), .int .u8 (y : Int)], rfl, Nat.le_refl _, heap_alloc_new _ _, Nat.le_refl _, by unfold maxLen; omega, rfl, rfl⟩⟩

end Go.Proofs.YtikdgbmdepplgaaGreatDoor
namespace Go.Proofs.YtikdgbmdepplgaaGreatDoor
open Go.RowKit Go.Shelf
set_option linter.unusedVariables false
attribute [local go_sem ↓] load_b16_rule store_b16_rule load_ad_rule store_ad_rule load_px_rule store_px_rule eq_b16_rule eq_ad_rule eq_px_rule build_ad_rule build_px_rule

theorem Wid.kept {w w' : World} {S : List Nat} (h : Wid w) (k : Kept S w w') (h0 : 0 ∉ S) : Wid w' := fun j hj => by
  have h1 := h j hj
  have h2 := cell_lt h1
  have h3 := k.block 0 h2 h0
  rw [← h1]
  unfold World.cell?
  rw [h3]
/-- At block r a reader of prefix lies. -/
structure PR (w : World) (r p g : Nat) (L : List Nat) (j : Nat) (err : Int) (given : Nat) (fault : Int) (wrong : Bool) : Prop where
  rd : Rd w p g L j err
  blk : Blk w r 145 #[.pointer (some ⟨p, 0, none⟩), .int .i64 (given : Int), .int .i64 fault, .bool wrong]
  g0 : g ≠ r
theorem PR.rp {w : World} {r p g : Nat} {L : List Nat} {j : Nat} {err : Int} {given : Nat} {fault : Int} {wrong : Bool} (h : PR w r p g L j err given fault wrong) : r ≠ p := h.blk.ne (show Blk w p 154 _ from h.rd.cells) (by decide)
theorem PR.below {w w' : World} {r p g : Nat} {L : List Nat} {j : Nat} {err : Int} {given : Nat} {fault : Int} {wrong : Bool} (h : PR w r p g L j err given fault wrong) (k : Below w.heap.size w w') : PR w' r p g L j err given fault wrong := ⟨h.rd.below k, h.blk.later k, h.g0⟩
theorem PR.c {w : World} {r p g : Nat} {L : List Nat} {j : Nat} {err : Int} {given : Nat} {fault : Int} {wrong : Bool} (h : PR w r p g L j err given fault wrong) : w.cell? ⟨r, 0, none⟩ = some (.pointer (some ⟨p, 0, none⟩)) ∧ w.cell? ⟨r, 1, none⟩ = some (.int .i64 (given : Int)) ∧ w.cell? ⟨r, 2, none⟩ = some (.int .i64 fault) ∧ w.cell? ⟨r, 3, none⟩ = some (.bool wrong) ∧ w.frozen? ⟨r, 3, none⟩ = false :=
  ⟨h.blk.cell 0, h.blk.cell 1, h.blk.cell 2, h.blk.cell 3, h.blk.free 3⟩
theorem PR.aft {w w' : World} {r p g : Nat} {L : List Nat} {j : Nat} {err n : Int} {given : Nat} {fault : Int} {wrong : Bool} (h : PR w r p g L j err given fault wrong) (ha : Aft w w' p g L j err n) : PR w' r p g L (offTo L.length j err n).1 (offTo L.length j err n).2 given fault wrong ∧ Kept [r, p] w w' :=
  ⟨⟨ha.1, (ha.2.block r h.blk.lt (by intro e; cases e; exact h.rp rfl)).trans h.blk, h.g0⟩, (Kept.refl [r, p] w).grown ha.2 (fun k hk => .inl (by cases hk; simp))⟩
theorem PR.wrongs {w : World} {r p g : Nat} {L : List Nat} {j : Nat} {err : Int} {given : Nat} {fault : Int} {wrong : Bool} (h : PR w r p g L j err given fault wrong) : PR (w.setCell ⟨r, 3, none⟩ (.bool true)) r p g L j err given fault true ∧ Kept [r, p] w (w.setCell ⟨r, 3, none⟩ (.bool true)) :=
  ⟨⟨h.rd.kept (Below.heap_setCell _ _ _ _ (Ne.symm h.rp)) (Below.heap_setCell _ _ _ _ h.g0), h.blk.set 3 _, h.g0⟩, (Kept.refl _ _).setCell (.inl (by simp)) _⟩
theorem offTo_some {len j n : Nat} (h : j + n ≤ len) : offTo len j 0 (n : Int) = (j + n, 0) := by
  unfold offTo
  rw [if_neg (by simp), if_neg (by omega), if_neg (by omega)]
  simp
theorem came_some {L : List Nat} {j n : Nat} (h : j + n ≤ L.length) : came L j 0 (n : Int) = (L.drop j).take n := by
  unfold came
  rw [if_neg (by simp), if_neg (by omega), if_neg (by omega)]
  simp
/-- Is there nothing to come off? -/
def dry (len j : Nat) (err : Int) (n : Nat) : Prop := err ≠ 0 ∨ len < j + n
def dryE (err : Int) : Int := if err = 0 then 7 else err
theorem dryE_ne (err : Int) : dryE err ≠ 0 := by unfold dryE; split <;> omega
theorem offTo_none {len j n : Nat} {err : Int} (hj : j ≤ len) (h : dry len j err n) : offTo len j err (n : Int) = (j, dryE err) := by
  unfold offTo dryE
  by_cases he : err = 0
  · rcases h with h | h
    · exact absurd he h
    · rw [if_neg (by simpa using he), if_neg (by omega), if_pos (by omega), if_pos he]
  · rw [if_pos he, if_neg he]
theorem came_none {L : List Nat} {j n : Nat} {err : Int} (hj : j ≤ L.length) (h : dry L.length j err n) : came L j err (n : Int) = [] := by
  unfold came
  by_cases he : err = 0
  · rcases h with h | h
    · exact absurd he h
    · rw [if_neg (by simpa using he), if_neg (by omega), if_pos (by omega)]
  · rw [if_pos he]
theorem one_more {L : List Nat} {j : Nat} (h : j < L.length) : (L.drop j).take 1 = [L.getD j 0] := by
  have := take_more L j 0 (by omega)
  simpa using this

set_option maxRecDepth 100000 in
set_option maxHeartbeats 1600000 in
theorem preader_err {w : World} {r p g : Nat} {L : List Nat} {j : Nat} {err : Int} {given : Nat} {fault : Int} {wrong : Bool} (h : PR w r p g L j err given fault wrong) : Calls Tryz.prog 84 #[.pointer (some ⟨r, 0, none⟩)] w fun e w' => e = .returned (.int .i64 (if wrong then fault else err)) ∧ w = w' := by
  obtain ⟨c0, c1, c2, c3, _⟩ := h.c
  have he := err_any h.rd
  cases wrong
  all_goals
    go_enter Tryz.func84, Tryz.ntmps84
    go_wp2_with (go_at_call 98; refine he.mono ?_; rintro e w' ⟨rfl, rfl⟩)
    go_ret
    exact ⟨rfl, rfl⟩

set_option maxRecDepth 100000 in
set_option maxHeartbeats 1600000 in
theorem refuse_any {w : World} {r p g : Nat} {L : List Nat} {j : Nat} {err : Int} {given : Nat} {fault : Int} {wrong : Bool} (h : PR w r p g L j err given fault wrong) : Calls Tryz.prog 96 #[.pointer (some ⟨r, 0, none⟩)] w fun e w' => e = .returned (.tuple #[]) ∧ PR w' r p g L j err given fault (if err = 0 then true else wrong) ∧ Kept [r, p] w w' := by
  obtain ⟨c0, c1, c2, c3, f3⟩ := h.c
  have he := err_any h.rd
  by_cases h0 : err = 0
  · have hd : (err == 0) = true := by simpa using h0
    have HX := Lib.hid h.wrongs
    rw [if_pos h0]
    clear h h0
    go_enter Tryz.func96, Tryz.ntmps96
    go_wp2_with (go_at_call 98; refine he.mono ?_; rintro e w' ⟨rfl, rfl⟩)
    go_end0
    exact ⟨rfl, HX.out.1, HX.out.2⟩
  · have hd : (err == 0) = false := by simpa using h0
    rw [if_neg h0]
    have HX := Lib.hid h
    clear h h0
    go_enter Tryz.func96, Tryz.ntmps96
    go_wp2_with (go_at_call 98; refine he.mono ?_; rintro e w' ⟨rfl, rfl⟩)
    go_end0
    exact ⟨rfl, HX.out, Kept.refl _ _⟩

set_option maxRecDepth 100000 in
set_option maxHeartbeats 1600000 in
theorem taken_any {w : World} {r p g : Nat} {L : List Nat} {j : Nat} {err : Int} {given : Nat} {fault : Int} {wrong : Bool} (h : PR w r p g L j err given fault wrong) (hg : given ≤ 1000) (hl : L.length - j ≤ given) : Calls Tryz.prog 85 #[.pointer (some ⟨r, 0, none⟩)] w fun e w' => e = .returned (.int .i64 ((given - (L.length - j) : Nat) : Int)) ∧ Below w.heap.size w w' := by
  have C := fun w' (k : Below w.heap.size w w') => (h.below k).c
  have c0 := fun w' k => (C w' k).1
  have c1 := fun w' k => (C w' k).2.1
  have hlf := fun w' (k : Below w.heap.size w w') => left_any (h.below k).rd
  obtain ⟨n, hn⟩ : ∃ n, L.length - j = n := ⟨_, rfl⟩
  rw [hn] at hlf hl ⊢
  have hq : IntKind.i64.wrap ((given : Int) - (n : Int)) = ((given - n : Nat) : Int) := by rw [show ((given - n : Nat) : Int) = (given : Int) - (n : Int) from by omega]; exact IntWalk.i64_in _ (by omega)
  have h0 : Below w.heap.size w w := Below.refl _ _
  generalize given - n = d at *
  clear hn C h hl hg
  go_enter Tryz.func85, Tryz.ntmps85
  go_wp2_with fail
  refine wp_region_lin (fun w' => Below w.heap.size w w') (by kernel_rfl) (by kernel_rfl) (bel_drew (by assumption)) ?_; (repeat (first | (refine lin_fn (f := 99) (by rfl) rfl rfl (enters_of Tryz.func99 (by kernel_rfl) rfl) (fun w9 hS9 => (hlf w9 hS9).mono (fun e w' h => ⟨h.1, h.2 ▸ hS9⟩)) ?_ ?_; (focus (simp [Act.eval]; done)); (try simp only [Act.put, List.setIfInBounds_toArray, List.set_cons_zero, List.set_cons_succ])) | (refine lin_off (by rfl) ?_; (try simp only [Act.put, List.setIfInBounds_toArray, List.set_cons_zero, List.set_cons_succ])) | (refine lin_op (v := ?_) (by rfl) (fun w9 hS9 => ?_) ?_; rotate_left; (focus (((try dsimp only at hS9); go_simp; (try go_bits)) <;> with_reducible rfl)); (try simp only [Act.put, List.setIfInBounds_toArray, List.set_cons_zero, List.set_cons_succ])) ))
  refine lin_nil (fun w8 hS8 => ?_)
  go_wp2
  go_ret
  exact ⟨rfl, hS8⟩

theorem u8_came {L : List Nat} {j : Nat} (hB : Bys L) (h : j < L.length) : pile 0 (came L j 0 1) % 256 = L.getD j 0 := by
  rw [show (1 : Int) = ((1 : Nat) : Int) from rfl, came_some (n := 1) (by omega), one_more h]
  have := hB.at j
  simp only [pile, List.foldl_cons, List.foldl_nil]
  omega

set_option maxRecDepth 100000 in
set_option maxHeartbeats 1600000 in
theorem version_some {w : World} {r p g : Nat} {L : List Nat} {j : Nat} {given : Nat} {fault : Int} {wrong : Bool} (h : PR w r p g L j 0 given fault wrong) (hB : Bys L) (hlm : L.length ≤ 1000) (hj : j < L.length) (hW : Wid w) (h0 : r ≠ 0 ∧ p ≠ 0) : Calls Tryz.prog 81 #[.pointer (some ⟨r, 0, none⟩)] w fun e w' => e = .returned (.int .i64 ((L.getD j 0 : Nat) : Int)) ∧ PR w' r p g L (j + 1) 0 given fault (wrong || decide (wid ((L.getD j 0 : Nat) : Int) = 0)) ∧ Kept [r, p] w w' := by
  obtain ⟨c0, _⟩ := h.c
  have hu := u8_any h.rd hB (by omega)
  rw [u8_came hB hj] at hu
  have ho := offTo_some (len := L.length) (j := j) (n := 1) (by omega)
  have hx := hB.at j
  obtain ⟨x, hx0⟩ : ∃ x, L.getD j 0 = x := ⟨_, rfl⟩
  rw [hx0] at hu hx ⊢
  obtain ⟨b, hb⟩ : ∃ b, (((wid (x : Int) : Nat) : Int) == 0) = b := ⟨_, rfl⟩
  have hb2 : decide (wid (x : Int) = 0) = b := by rw [← hb, Bool.eq_iff_iff]; simp
  rw [hb2]
  have hchk := fun w' hW' => width_any (x : Int) w' hW'
  clear hb2 hx0
  cases b
  all_goals
    go_enter Tryz.func81, Tryz.ntmps81
    go_wp2_with fail
    refine hu.mono ?_
    rintro e w2 ⟨rfl, hA⟩
    have hP := h.aft hA
    rw [show (1 : Int) = ((1 : Nat) : Int) from rfl, ho] at hP
    have hr := refuse_any hP.1
    rw [if_pos rfl] at hr
    have hW2 : Wid w2 := hW.kept hP.2 (by simp; exact ⟨fun e => h0.1 e.symm, fun e => h0.2 e.symm⟩)
    have HP := Lib.hid hP
    clear hP hA hu ho c0
    go_wp2_with (first | (go_at_call 77; refine (hchk _ hW2).mono ?_; rintro e w3 ⟨rfl, rfl⟩))
  · go_ret
    exact ⟨rfl, by simpa using HP.out.1, HP.out.2⟩
  · refine hr.mono ?_
    rintro e w4 ⟨rfl, hP4, hk4⟩
    have HQ := Lib.hid (And.intro hP4 (HP.out.2.trans hk4))
    clear hP4 hk4
    go_wp2
    go_ret
    exact ⟨rfl, by simpa using HQ.out.1, HQ.out.2⟩

set_option maxRecDepth 100000 in
set_option maxHeartbeats 1600000 in
theorem version_none {w : World} {r p g : Nat} {L : List Nat} {j : Nat} {err : Int} {given : Nat} {fault : Int} {wrong : Bool} (h : PR w r p g L j err given fault wrong) (hB : Bys L) (hlm : L.length ≤ 1000) (hj : j ≤ L.length) (hd : dry L.length j err 1) (hW : Wid w) (h0 : r ≠ 0 ∧ p ≠ 0) : Calls Tryz.prog 81 #[.pointer (some ⟨r, 0, none⟩)] w fun e w' => e = .returned (.int .i64 0) ∧ PR w' r p g L j (dryE err) given fault wrong ∧ Kept [r, p] w w' := by
  obtain ⟨c0, _⟩ := h.c
  have hu := u8_any h.rd hB (by omega)
  have ho := offTo_none (n := 1) hj hd
  have hc := came_none (n := 1) hj hd
  have hE := dryE_ne err
  rw [show ((1 : Nat) : Int) = 1 from rfl] at ho hc
  rw [hc, show ((pile 0 [] % 256 : Nat) : Int) = 0 from rfl] at hu
  have hchk := fun w' hW' => width_any 0 w' hW'
  rw [show wid 0 = 0 from rfl] at hchk
  go_enter Tryz.func81, Tryz.ntmps81
  go_wp2_with fail
  refine hu.mono ?_
  rintro e w2 ⟨rfl, hA⟩
  have hP := h.aft hA
  rw [ho] at hP
  have hr := refuse_any hP.1
  rw [if_neg hE] at hr
  have hW2 : Wid w2 := hW.kept hP.2 (by simp; exact ⟨fun e => h0.1 e.symm, fun e => h0.2 e.symm⟩)
  have HP := Lib.hid hP
  clear hP hA hu ho c0
  go_wp2_with (first | (go_at_call 77; refine (hchk _ hW2).mono ?_; rintro e w3 ⟨rfl, rfl⟩))
  refine hr.mono ?_
  rintro e w4 ⟨rfl, hP4, hk4⟩
  have HQ := Lib.hid (And.intro hP4 (HP.out.2.trans hk4))
  clear hP4 hk4
  go_wp2
  go_ret
  exact ⟨rfl, HQ.out.1, HQ.out.2⟩

set_option maxRecDepth 100000 in
set_option maxHeartbeats 1600000 in
theorem bits_some {w : World} {r p g : Nat} {L : List Nat} {j : Nat} {given : Nat} {fault : Int} {wrong : Bool} (h : PR w r p g L j 0 given fault wrong) (hB : Bys L) (hlm : L.length ≤ 1000) (hj : j < L.length) (n : Nat) : Calls Tryz.prog 82 #[.pointer (some ⟨r, 0, none⟩), .int .i64 (n : Int)] w fun e w' => e = .returned (.int .i64 ((L.getD j 0 : Nat) : Int)) ∧ PR w' r p g L (j + 1) 0 given fault (wrong || decide (n < L.getD j 0)) ∧ Kept [r, p] w w' := by
  obtain ⟨c0, _⟩ := h.c
  have hu := u8_any h.rd hB (by omega)
  rw [u8_came hB hj] at hu
  have ho := offTo_some (len := L.length) (j := j) (n := 1) (by omega)
  have hx := hB.at j
  obtain ⟨x, hx0⟩ : ∃ x, L.getD j 0 = x := ⟨_, rfl⟩
  rw [hx0] at hu hx ⊢
  obtain ⟨b, hb2⟩ : ∃ b, decide (n < x) = b := ⟨_, rfl⟩
  have hb : decide (x ≤ n) = !b := by rw [← hb2, Bool.eq_iff_iff]; simp
  rw [hb2]
  have hchk := fun w' => within_any (x : Int) (n : Int) w'
  clear hb2 hx0
  cases b
  all_goals
    go_enter Tryz.func82, Tryz.ntmps82
    go_wp2_with fail
    refine hu.mono ?_
    rintro e w2 ⟨rfl, hA⟩
    have hP := h.aft hA
    rw [show (1 : Int) = ((1 : Nat) : Int) from rfl, ho] at hP
    have hr := refuse_any hP.1
    rw [if_pos rfl] at hr
    have HP := Lib.hid hP
    clear hP hA hu ho c0
    go_wp2_with (first | (go_at_call 76; refine (hchk _).mono ?_; rintro e w3 ⟨rfl, rfl⟩))
  · go_ret
    exact ⟨rfl, by simpa using HP.out.1, HP.out.2⟩
  · refine hr.mono ?_
    rintro e w4 ⟨rfl, hP4, hk4⟩
    have HQ := Lib.hid (And.intro hP4 (HP.out.2.trans hk4))
    clear hP4 hk4
    go_wp2
    go_ret
    exact ⟨rfl, by simpa using HQ.out.1, HQ.out.2⟩

set_option maxRecDepth 100000 in
set_option maxHeartbeats 1600000 in
theorem bits_none {w : World} {r p g : Nat} {L : List Nat} {j : Nat} {err : Int} {given : Nat} {fault : Int} {wrong : Bool} (h : PR w r p g L j err given fault wrong) (hB : Bys L) (hlm : L.length ≤ 1000) (hj : j ≤ L.length) (hd : dry L.length j err 1) (n : Nat) : Calls Tryz.prog 82 #[.pointer (some ⟨r, 0, none⟩), .int .i64 (n : Int)] w fun e w' => e = .returned (.int .i64 0) ∧ PR w' r p g L j (dryE err) given fault wrong ∧ Kept [r, p] w w' := by
  obtain ⟨c0, _⟩ := h.c
  have hu := u8_any h.rd hB (by omega)
  have ho := offTo_none (n := 1) hj hd
  have hc := came_none (n := 1) hj hd
  have hE := dryE_ne err
  rw [show ((1 : Nat) : Int) = 1 from rfl] at ho hc
  rw [hc, show ((pile 0 [] % 256 : Nat) : Int) = 0 from rfl] at hu
  have hchk := fun w' => within_any 0 (n : Int) w'
  rw [decide_eq_true (show (0 : Int) ≤ 0 ∧ (0 : Int) ≤ (n : Int) by omega)] at hchk
  go_enter Tryz.func82, Tryz.ntmps82
  go_wp2_with fail
  refine hu.mono ?_
  rintro e w2 ⟨rfl, hA⟩
  have hP := h.aft hA
  rw [ho] at hP
  have hr := refuse_any hP.1
  rw [if_neg hE] at hr
  have HP := Lib.hid hP
  clear hP hA hu ho c0
  go_wp2_with (first | (go_at_call 76; refine (hchk _).mono ?_; rintro e w3 ⟨rfl, rfl⟩))
  go_ret
  exact ⟨rfl, HP.out.1, HP.out.2⟩
end Go.Proofs.YtikdgbmdepplgaaGreatDoor
