/-
  What all sectors of a disk show behind a crash (the law's own shown), and a disk behind deeds (played): their contracts. Nothing here is a statement of the document.
-/
import Derived.Test.YtaikgngigaohmaaDoorDskFp
import Derived.Test.YtaikgngigaohmaaDoorDskZ
namespace Go.Proofs.YtaikgngigaohmaaDoor
open Go.RowKit Go.Shelf
set_option linter.unusedVariables false

theorem load_arr_rule (v : Value) : Instr.loadAt 32 v = loadSem 32 v := rfl
theorem store_arr_rule (v x : Value) : Instr.storeAt 32 v x = storeSem 32 v x := rfl
theorem z_arr : (Tryd.prog.info? 32).map (fun i => (i.zero, i.size)) = some (some (.agg (Array.replicate 896 (.int .u8 0))), 896) := by kernel_rfl
/-- Fourteen blocks. -/
def arr (P : List Bk) : Array Value := (pcs P).toArray
theorem arr_size {P : List Bk} (h : P.length = 14) : (arr P).size = 896 := by simp [arr, pcs_length, h]
def z14 : List Bk := List.replicate 14 Bk.zero
theorem z14_len : z14.length = 14 := by unfold z14; exact List.length_replicate
theorem arr_zero : Array.replicate 896 (Value.int .u8 0) = arr z14 := by
  unfold arr z14
  rw [pcs_zero, List.toArray_replicate]
theorem s_arr {P : List Bk} (h : P.length = 14) : (Tryd.prog.info? 32).map (·.size) = some (arr P).size := by rw [arr_size h]; exact (zero_of_info z_arr).2
theorem arr_one (P : List Bk) : (arr P).all (·.oneCell') = true := by
  rw [Array.all_eq_true_iff_forall_mem]
  intro v hv
  exact pcs_one P v (by simpa [arr] using hv)
/-- Of these blocks the first k; behind them zeros. -/
def arrTo (P : List Bk) (k : Nat) : List Bk := P.take k ++ List.replicate (14 - k) Bk.zero
theorem arrTo_len {P : List Bk} (h : P.length = 14) {k : Nat} (hk : k ≤ 14) : (arrTo P k).length = 14 := by simp [arrTo, h]; omega
theorem arrTo_zero (P : List Bk) : arrTo P 0 = z14 := by unfold arrTo z14; rw [List.take_zero, List.nil_append]
theorem arrTo_all {P : List Bk} (h : P.length = 14) : arrTo P 14 = P := by simp [arrTo, List.take_of_length_le (Nat.le_of_eq h)]
theorem arrTo_succ {P : List Bk} (h : P.length = 14) {k : Nat} (hk : k < 14) : (arrTo P k).set k (P.getD k Bk.zero) = arrTo P (k + 1) := by
  unfold arrTo
  have hg : P[k]? = some (P.getD k Bk.zero) := by simp [h, hk]
  rw [List.take_add_one, hg, show 14 - k = (14 - (k + 1)) + 1 by omega, List.replicate_succ]
  have hl : (P.take k).length = k := by simp [h]; omega
  rw [List.set_append_right _ _ (by omega), hl, Nat.sub_self, List.set_cons_zero]
  simp
theorem arr_put {P : List Bk} (h : P.length = 14) {k : Nat} (hk : k < 14) (b : Bk) : over (arr P) (k * 64) b.cs = arr (P.set k b) := by
  unfold over arr
  rw [show (pcs P).toArray.toList = pcs P from rfl, pcs_set b (by omega)]

theorem larr {W : World} {g : Nat} {P : List Bk} (h : Blk W g 32 (arr P)) (h14 : P.length = 14) : (loadSem 32 (.pointer (some ⟨g, 0, none⟩))).run Tryd.prog W = .ok (.agg (arr P)) W :=
  loadRes_of (o := 0) h (fun q _ => by rw [Nat.zero_add]) _ Tryd.underlying32 rfl (s_arr h14)
theorem sarr {W : World} {g : Nat} {P P' : List Bk} (h : Blk W g 32 (arr P)) (h14 : P.length = 14) (h14' : P'.length = 14) : (storeSem 32 (.pointer (some ⟨g, 0, none⟩)) (.agg (arr P'))).run Tryd.prog W = .ok () (W.setRow g (arr P')) := by
  have := storeRes_of (P := Tryd.prog) (ty := 32) (o := 0) (vs := arr P') h (by rw [arr_size h14, arr_size h14']; omega) (s_arr h14') (arr_one P')
  rwa [over_all (by rw [arr_size h14, arr_size h14'])] at this
/-- A block is laid into the array. -/
theorem sarr_at {W : World} {g k : Nat} {P : List Bk} (h : Blk W g 32 (arr P)) (h14 : P.length = 14) (hk : k < 14) (b : Bk) : (storeSem 31 (.pointer (some ⟨g, k * 64, none⟩)) (.agg b.cs)).run Tryd.prog W = .ok () (W.setRow g (arr (P.set k b))) := by
  have := storeRes_of (P := Tryd.prog) (ty := 31) (o := k * 64) (vs := b.cs) h (by rw [arr_size h14, Bk.size]; omega) (s_blk b) b.one
  rwa [arr_put h14 hk] at this
/-- A block is read out of the array. -/
theorem larr_at {W : World} {g k : Nat} {P : List Bk} (h : Blk W g 32 (arr P)) (h14 : P.length = 14) (hk : k < 14) : (loadSem 31 (.pointer (some ⟨g, k * 64, none⟩))).run Tryd.prog W = .ok (.agg (P.getD k Bk.zero).cs) W := by
  refine loadRes_of h (fun q hq => ?_) _ Tryd.underlying31 rfl (s_blk _)
  rw [Bk.size] at hq
  have hg : P[k]? = some (P.getD k Bk.zero) := by simp [h14, hk]
  unfold arr
  rw [List.getElem?_toArray, pcs_get hg hq]

theorem z_arr' : (Tryd.prog.info? 32).map (fun i => (i.zero, i.size)) = some (some (.agg (arr z14)), 896) := by rw [← arr_zero]; exact z_arr
theorem Bools.later {w w' : World} {a : Option Addr} {ks : List Bool} (h : Bools w a ks) (hb : Below w.heap.size w w') : Bools w' a ks := by
  rcases h with h | ⟨b, off, h1, h2, h3⟩
  · exact .inl h
  · exact .inr ⟨b, off, h1, Nat.lt_of_lt_of_le h2 hb.size, fun i hi => (hb.cell (p := ⟨b, off + i, none⟩) h2).trans (h3 i hi)⟩
attribute [local go_sem ↓] load_blk_rule store_blk_rule load_arr_rule store_arr_rule

/-- While a copy is read, sector by sector. -/
structure Seen (w W : World) (B : Nat) (bv : Value) (D : Dk) (P : List Bk) (k : Nat) : Prop where
  hb : Below w.heap.size w W
  dsk : Dsk W B B (B + 1) bv D
  idle : Idle D P
  out : Blk W w.heap.size 32 (arr z14)
  arr : Blk W (w.heap.size + 1) 32 (arr (arrTo P k))
  hB : w.heap.size + 1 < B

set_option maxRecDepth 100000 in
set_option maxHeartbeats 4000000 in
theorem shown_any {w : World} {B p pb : Nat} {bv : Value} {D : Dk} (h : Dsk w B p pb bv D) (h14 : D.plate.length = 14) (a : Option Addr) (cap : Nat) (ks : List Bool) (hks : Bools w a ks) (hkl : ks.length ≤ 9223372036854775807) :
    Calls Tryd.prog 9 #[.pointer (some ⟨p, 0, none⟩), .slice a ks.length cap] w fun e w' => e = .returned (.tuple #[.agg (arr (crashM D ks).plate), .bool true]) ∧ Below w.heap.size w w' := by
  obtain ⟨W1, hW1⟩ : ∃ W1, (w.alloc (.cells (arr z14) 32)).alloc (.cells (arr z14) 32) = W1 := ⟨_, rfl⟩
  have hb1 : Below w.heap.size w W1 := by rw [← hW1]; exact ((Below.refl _ _).alloc (Nat.le_refl _) _).alloc (by simp) _
  have o1 : Blk W1 w.heap.size 32 (arr z14) := by rw [← hW1]; exact (Blk.new w _ _).alloc _
  have q1 : Blk W1 (w.heap.size + 1) 32 (arr z14) := by rw [← hW1]; exact Blk.new2 _ _ _ _
  have hcp := copy_any (h.later hb1)
  have hP14 : (crashM D ks).plate.length = 14 := by rw [crashM_len]; exact h14
  have hid := idle_crash D ks
  obtain ⟨P, hP⟩ : ∃ P, (crashM D ks).plate = P := ⟨_, rfl⟩
  rw [hP] at hP14 hid ⊢
  have HID := Lib.hid hid
  clear hP hid
  obtain ⟨nk, hnk⟩ : ∃ nk, ks.length = nk := ⟨_, rfl⟩
  have HH := Lib.hid (And.intro hb1 (And.intro o1 (And.intro q1 (And.intro (hks.later hb1) (And.intro hkl hnk)))))
  have HK0 := Lib.hid (And.intro hks h14)
  rw [hnk]
  clear hb1 o1 q1 hks hkl hnk h h14
  go_enter Tryd.func9, Tryd.ntmps9
  go_wp2_with (with_reducible refine wpList_alloc_z rfl 32 rfl (arr z14) 896 z_arr' ?_)
  clear hW1
  refine hcp.mono ?_
  rintro e W2 ⟨bv2, rfl, hD2, hb2⟩
  have hks2 := HH.out.2.2.2.1.later hb2
  have hcr := crash_any2 hD2 a cap ks hks2 (fun hne b off ha hm => by
    have h1 := dsk_ge hD2 b hm
    rcases HK0.out.1 with h9 | ⟨b', off', h2, h3, _⟩
    · exact hne h9
    · rw [ha] at h2
      cases h2
      have := HH.out.1.size
      omega) HH.out.2.2.2.2.1
  rw [HH.out.2.2.2.2.2] at hcr
  have hszw : w.heap.size + 1 < W1.heap.size := HH.out.2.2.1.lt
  have o2 := HH.out.2.1.kept (Kept.of_below [] hb2) (by simp)
  have q2 := HH.out.2.2.1.kept (Kept.of_below [] hb2) (by simp)
  have hbb2 := HH.out.1.trans (hb2.mono HH.out.1.size)
  generalize W1.heap.size = B2 at *
  have H2 := Lib.hid (And.intro hD2 (And.intro o2 (And.intro q2 hbb2)))
  clear o2 q2 hbb2
  clear hcp hks2 hD2 hb2
  go_wp2_with fail
  refine hcr.mono ?_
  rintro e W3 ⟨rfl, hD3, hG3⟩
  have n1 : w.heap.size ∉ fp B2 (B2 + 1) bv2 := fun hm => by have := dsk_ge H2.out.1 _ hm; omega
  have n2 : w.heap.size + 1 ∉ fp B2 (B2 + 1) bv2 := fun hm => by have := dsk_ge H2.out.1 _ hm; omega
  have o3 := H2.out.2.1.kept hG3.kept n1
  have q3 := H2.out.2.2.1.kept hG3.kept n2
  have hbb2 := H2.out.2.2.2
  have hsz2 : B2 ≤ W2.heap.size := Nat.le_of_lt H2.out.1.lt
  have hbb3 : Below w.heap.size w W3 := hbb2.trans ((hG3.below H2.out.1 hsz2).mono (by omega))
  have hS3 : Seen w W3 B2 (.slice none 0 0) (crashM D ks) P 0 := ⟨hbb3, hD3, HID.out, o3, by rw [arrTo_zero]; exact q3, hszw⟩
  have HS := Lib.hid hS3
  clear hcr hD3 hG3 n1 n2 o3 q3 hbb2 hsz2 hbb3 hS3
  go_wp2_with fail
  go_loopw [22] (fun i wr => ∃ k : Nat, k ≤ 14 ∧ i = .int .i64 k ∧ ∃ bv D', Seen w wr B2 bv D' P k) (fun i _ => 14 - (intOf i).toNat)
  case atStart => exact ⟨0, Nat.zero_le _, rfl, _, _, HS.out⟩
  case round =>
    obtain ⟨k, hk, rfl, bv3, D3, hS⟩ := hrel
    clear HS
    by_cases hlt : k < 14
    · have hki : (k : Int) < 14 := by omega
      have hrd := hS.idle.read (i := k) (by rw [hP14]; exact hlt)
      have hra := read_any hS.dsk (k : Int)
      generalize readM D3 (k : Int) = RM at hrd hra
      obtain ⟨D4, b4, e4⟩ := RM
      obtain ⟨h3, hi3⟩ := hrd
      simp only [Prod.mk.injEq] at h3
      obtain ⟨rfl, rfl⟩ := h3
      obtain ⟨sb, hsb⟩ : ∃ sb, P.getD k Bk.zero = sb := ⟨_, rfl⟩
      simp only [hsb] at hra
      have HSS := Lib.hid (And.intro hS (And.intro hi3 hsb))
      clear hS hi3 hsb
      go_wp2_with fail
      refine hra.mono ?_
      rintro e W4 ⟨rfl, hD4, hG4⟩
      have hS := HSS.out.1
      have n1 : w.heap.size ∉ fp B2 (B2 + 1) bv3 := fun hm => by have := dsk_ge hS.dsk _ hm; omega
      have n2 : w.heap.size + 1 ∉ fp B2 (B2 + 1) bv3 := fun hm => by have := dsk_ge hS.dsk _ hm; omega
      have o4 := hS.out.kept hG4.kept n1
      have q4 := hS.arr.kept hG4.kept n2
      have hsz : B2 ≤ wr.heap.size := Nat.le_of_lt hS.dsk.lt
      have hbb4 : Below w.heap.size w W4 := hS.hb.trans ((hG4.below hS.dsk hsz).mono (by omega))
      obtain ⟨W5, hW5⟩ : ∃ W5, (W4.alloc (.cells Bk.zero.cs 31)).setRow W4.heap.size sb.cs = W5 := ⟨_, rfl⟩
      have S9 : (storeSem 31 (.pointer (some ⟨W4.heap.size, 0, none⟩)) (.agg sb.cs)).run Tryd.prog (W4.alloc (.cells Bk.zero.cs 31)) = .ok () W5 := by
        have := storeRes_of (P := Tryd.prog) (ty := 31) (o := 0) (vs := sb.cs) (Blk.new W4 31 Bk.zero.cs) (by rw [Bk.size, Bk.size]; omega) (s_blk sb) sb.one
        rw [over_all (by rw [Bk.size, Bk.size]), hW5] at this
        exact this
      have b9 : Blk W5 W4.heap.size 31 sb.cs := by rw [← hW5]; exact (Blk.new W4 31 Bk.zero.cs).row _
      have hb45 : Below W4.heap.size W4 W5 := by rw [← hW5]; exact below_setRow ((Below.refl _ _).alloc (Nat.le_refl _) _) (Nat.le_refl _) _
      have L9 : (loadSem 31 (.pointer (some ⟨W4.heap.size, 0, none⟩))).run Tryd.prog W5 = .ok (.agg sb.cs) W5 := loadRes_of (o := 0) b9 (fun q _ => by rw [Nat.zero_add]) _ Tryd.underlying31 rfl (s_blk sb)
      have q5 := q4.kept (Kept.of_below [] hb45) (by simp)
      have o5 := o4.kept (Kept.of_below [] hb45) (by simp)
      have hD5 := hD4.later hb45
      have hbb5 := hbb4.trans (hb45.mono hbb4.size)
      obtain ⟨W6, hW6⟩ : ∃ W6, W5.setRow (w.heap.size + 1) (arr ((arrTo P k).set k sb)) = W6 := ⟨_, rfl⟩
      have SA : (storeSem 31 (.pointer (some ⟨w.heap.size + 1, k * 64, none⟩)) (.agg sb.cs)).run Tryd.prog W5 = .ok () W6 := by rw [← hW6]; exact sarr_at q5 (arrTo_len hP14 hk) hlt sb
      have k6 : Kept [w.heap.size + 1] W5 W6 := by rw [← hW6]; exact (Kept.refl _ _).setRow (.inl (by simp)) _
      have q6 : Blk W6 (w.heap.size + 1) 32 (arr (arrTo P (k + 1))) := by
        rw [← arrTo_succ hP14 hlt, HSS.out.2.2, ← hW6]; exact q5.row _
      have o6 := o5.kept k6 (by simp)
      have n6 : ∀ i ∈ [w.heap.size + 1], i ∉ fp B2 (B2 + 1) bv3 := fun i hi hm => by
        have h1 := dsk_ge hD5 i hm
        have h2 : i = w.heap.size + 1 := by simpa using hi
        omega
      have hD6 := hD5.apart k6 n6
      have hbb6 := hbb5.trans (k6.below (by simp) hbb5.size)
      have hS6 : Seen w W6 B2 bv3 D4 P (k + 1) := ⟨hbb6, hD6, HSS.out.2.1, o6, q6, hszw⟩
      have HF := Lib.hid hS6
      clear hra hD4 hG4 hS n1 n2 o4 q4 hsz hbb4 b9 hb45 q5 o5 hD5 hbb5 hW6 k6 q6 o6 n6 hD6 hbb6 hS6 hW5
      go_wp2_with (with_reducible refine wpList_alloc_z rfl 31 rfl Bk.zero.cs 64 z_blk ?_)
      go_roundw
      case rel => first | exact ⟨k + 1, by omega, by go_num, _, _, HF.out⟩ | ((repeat apply Exists.intro); exact ⟨⟨k + 1, by omega, by go_num, _, _, HF.out⟩, rfl⟩)
      case measure => simp [intOf]; omega
    · obtain rfl : k = 14 := by omega
      have q7 := hS.arr
      rw [arrTo_all hP14] at q7
      have LA := larr q7 hP14
      have SO := sarr (P' := P) hS.out z14_len hP14
      have HE := Lib.hid (And.intro (hS.out.row (arr P)) (below_setRow hS.hb (Nat.le_refl _) (arr P)))
      have HP14 := Lib.hid hP14
      clear hS q7 hP14
      go_wp2_with fail
      refine bodyPost_ret (results_blk rfl _ _ w.heap.size (arr P) _ rfl HE.out.1 Tryd.underlying32 rfl (s_arr HP14.out)) rfl ?_
      exact ⟨rfl, HE.out.2⟩
end Go.Proofs.YtaikgngigaohmaaDoor
