/-
  The walk of ArenaNone. Nothing here is a statement of the document.
-/
import Derived.Test.YtobnjpdanpjhjaaArnW
import Derived.Test.YtobnjpdanpjhjaaArnK
import Derived.Test.YtobnjpdanpjhjaaOctF
import Derived.Deep.DeepCutAuto
import Derived.Deep.CutBlock
namespace Go.Proofs.Ytobnjpdanpjhjaa
open Go.RowKit Go.Shelf
set_option linter.unusedVariables false

theorem newWs_15 {n : Nat} (h : 64 ≤ n) : (newWs n).getD 15 0 = 16 := by
  unfold newWs
  rw [getD_set _ _ _ _ _ (by simp; omega), if_pos rfl]
theorem newWs_get {n i : Nat} (h : 64 ≤ n) (h0 : i ≠ 0) (h1 : i ≠ 15) : (newWs n).getD i 0 = 0 := by
  unfold newWs
  rw [getD_set _ _ _ _ _ (by simp; omega), if_neg (Ne.symm h1), getD_set _ _ _ _ _ (by simp; omega), if_neg (Ne.symm h0)]
  by_cases hi : i < n <;> simp [hi]
theorem newWs_root {n : Nat} (h : 64 ≤ n) : rootCs (newWs n) = #[.int .u64 0, .int .u64 0, .int .i64 0, .int .i64 0] := by
  unfold rootCs rtcs twoN
  rw [newWs_get h (by omega) (by omega), newWs_get h (by omega) (by omega), newWs_get h (by omega) (by omega), newWs_get h (by omega) (by omega), newWs_get h (by omega) (by omega), newWs_get h (by omega) (by omega)]
  rfl
theorem owns_slice {w : World} {B : Nat} {e : TypeId} {z : Nat} {v : Value} {n : Nat} {xs : List Value} (h : w.ownsRow B e z v n xs) : ∃ a c, v = .slice a n c := by
  rcases h.2 with ⟨h9, h0⟩ | ⟨g, cap, cur, h9, _⟩
  · exact ⟨none, 0, by rw [h9, h0]⟩
  · exact ⟨_, _, h9⟩
set_option maxHeartbeats 400000 in
theorem encode_nil (w : World) : Calls Try.prog 27 #[.pointer none] w fun e w' => e = .returned (.slice none 0 0) ∧ w = w' := by
  go_enter Try.func27, Try.ntmps27
  go_wp2
  go_ret
  exact ⟨rfl, rfl⟩

set_option maxRecDepth 100000 in
set_option maxHeartbeats 2000000 in
theorem none_walk (ra : Option Addr) (len cap : Nat) (zs : List Int) (place i : Int) {w : World} (hz : IsRow .i64 w ra len cap zs) :
    Calls Try.prog 5 #[.slice ra len cap, .int .i64 place, .int .i64 i] w fun e w' => e = .returned (.bool true) ∧ Below w.heap.size w w' := by
  obtain ⟨ys, hyl, hlm, hN, hwf⟩ := hz.nums
  have HN := Lib.hid (And.intro hN hwf)
  have hwk := wakes6_any w
  clear hN hwf hz
  subst hyl
  go_enter Try.func5, Try.ntmps5
  go_wp2_with fail
  refine hwk.mono ?_
  rintro e w1 ⟨rfl, b1⟩
  clear hwk
  go_upto_block 0 with (fail)
  go_cut [] from 7 (fun wc => Below w.heap.size w wc)
  case first =>
    go_wp2_with fail
    go_loopw [22] (fun i wr => ∃ k : Nat, k ≤ ys.length ∧ i = .int .i64 k ∧ Below w.heap.size w wr) (fun i _ => ys.length - (intOf i).toNat)
    case atStart => exact ⟨0, Nat.zero_le _, rfl, b1⟩
    case round =>
      obtain ⟨k, hk, rfl, hbw⟩ := hrel
      clear b1
      by_cases hlt : k < ys.length
      · have hki : (k : Int) < (ys.length : Int) := by omega
        obtain ⟨b, off, rfl, hbl, hc⟩ : ∃ b off, ra = some ⟨b, off, none⟩ ∧ b < w.heap.size ∧ w.cell? ⟨b, off + k, none⟩ = some (.int .i64 (ys.getD k 0)) := by
          rcases HN.out.1 with h9 | ⟨b, off, h1, h2, h3⟩
          · rw [h9] at hlt; simp at hlt
          · exact ⟨b, off, h1, h2, h3 k hlt⟩
        have hc2 : wr.cell? ⟨b, off + k, none⟩ = some (.int .i64 (ys.getD k 0)) := (hbw.cell (p := ⟨b, off + k, none⟩) hbl).trans hc
        clear hc
        generalize ys.getD k 0 = n at *
        by_cases h6 : k = 6
        · subst h6
          go_wp2_with fail
          go_meet
          exact hbw
        · have h6' : ((k : Int) == 6) = false := by simp; omega
          have h6'' : (k == 6) = false := by simpa using h6
          by_cases hn : 64 ≤ n ∧ n ≤ 16384
          · obtain ⟨m, rfl⟩ : ∃ m : Nat, n = (m : Int) := ⟨n.toNat, by omega⟩
            have hm1 : 64 ≤ m := by omega
            have hm2 : m ≤ 16384 := by omega
            have hnew := new_yes m hm1 hm2 wr
            have d1 : decide ((64 : Int) ≤ (m : Int)) = true := decide_eq_true (by omega)
            have d2 : decide ((m : Int) ≤ 16384) = true := decide_eq_true (by omega)
            have d1' : decide (64 ≤ m) = true := decide_eq_true hm1
            have d2' : decide (m ≤ 16384) = true := decide_eq_true hm2
            clear hn
            go_wp2_with fail
            refine hnew.mono ?_
            rintro e w2 ⟨rfl, A2, b2⟩
            have hb2 := bel_later hbw b2
            have hC : Chain (newWs m) 16 [] := (newWs_15 hm1).symm
            have hE : (newWs m).getD 15 0 ≤ (newWs m).length := by rw [newWs_15 hm1, newWs_len]; omega
            have h3 := aleft_any A2 hE
            rw [newWs_15 hm1, newWs_len] at h3
            clear hnew hc2
            go_wp2_with fail
            refine h3.mono ?_
            rintro e w3 ⟨rfl, n3, hw3⟩
            have A3 : Ar w3 (wr.heap.size + 2) wr.heap.size (wr.heap.size + 1) (newWs m) (List.replicate m false) := by rw [hw3]; exact A2.drewN n3
            have hb3 : Below w.heap.size w w3 := by rw [hw3]; exact below_drewN hb2 n3
            clear h3 hw3 A2 b2 hb2
            have h4 := taken_all A3 hC hE
            go_wp2_with fail
            refine h4.mono ?_
            rintro e w4 ⟨v4, rfl, o4, b4⟩
            obtain ⟨a4, c4, rfl⟩ := owns_slice o4
            have A4 := A3.later b4
            have hb4 := bel_later hb3 b4
            clear h4 o4 b4 A3 hb3
            have h5 := spare_all A4 hC hE
            go_wp2_with fail
            refine h5.mono ?_
            rintro e w5 ⟨v5, rfl, o5, b5⟩
            obtain ⟨a5, c5, rfl⟩ := owns_slice o5
            have A5 := A4.later b5
            have hb5 := bel_later hb4 b5
            clear h5 o5 b5 A4 hb4
            have h6 := root_any A5
            rw [newWs_root hm1] at h6
            have hof1 : (ofT true []).length = 0 := rfl
            have hof2 : (ofT false []).length = 0 := rfl
            clear hC hE
            go_wp2_with fail
            refine h6.mono ?_
            rintro e w6 ⟨rfl, b6⟩
            have hb6 := bel_later hb5 b6
            clear h6 b6 A5 hb5
            go_wp2_with fail
            go_roundw
            case rel => exact ⟨k + 1, by omega, by go_num, hb6⟩
            case measure => simp [intOf]; omega
          · have hnew := new_no n hn wr
            by_cases h64 : 64 ≤ n
            · have d1 : decide (64 ≤ n) = true := decide_eq_true h64
              have d2 : decide (n ≤ 16384) = false := decide_eq_false (by omega)
              clear hn
              go_wp2_with fail
              refine hnew.mono ?_
              rintro e w2 ⟨rfl, rfl⟩
              go_wp2_with fail
              go_roundw
              case rel => exact ⟨k + 1, by omega, by go_num, hbw⟩
              case measure => simp [intOf]; omega
            · have d1 : decide (64 ≤ n) = false := decide_eq_false h64
              clear hn
              go_wp2_with fail
              refine hnew.mono ?_
              rintro e w2 ⟨rfl, rfl⟩
              go_wp2_with fail
              go_roundw
              case rel => exact ⟨k + 1, by omega, by go_num, hbw⟩
              case measure => simp [intOf]; omega
      · obtain rfl : k = ys.length := by omega
        go_wp2_with fail
        go_meet
        exact hbw
  case rest =>
    clear b1
    have hbd1 := fun w' => (show (Instr.build 34 #[(0, .int .u64 1)]).run Try.prog w' = .ok (.agg #[.int .u64 1, .int .u64 0, .int .i64 0, .int .i64 0]) w' by kernel_rfl)
    have hbd0 := fun w' => (show (Instr.build 34 #[]).run Try.prog w' = .ok (.agg #[.int .u64 0, .int .u64 0, .int .i64 0, .int .i64 0]) w' by kernel_rfl)
    have hbc := hcut
    clear hcut
    go_wp2_with fail
    refine (alloc_nil place _).mono ?_
    rintro e w2 ⟨rfl, rfl⟩
    go_wp2_with fail
    refine (load_nil place i _).mono ?_
    rintro e w2 ⟨rfl, rfl⟩
    go_wp2_with fail
    refine (class_nil place _).mono ?_
    rintro e w2 ⟨rfl, rfl⟩
    go_wp2_with fail
    refine (free_nil place _).mono ?_
    rintro e w2 ⟨rfl, rfl⟩
    go_wp2_with fail
    refine (store_nil place i 1 _).mono ?_
    rintro e w2 ⟨rfl, rfl⟩
    go_wp2_with fail
    refine (pub_nil 1 0 0 0 _).mono ?_
    rintro e w3 ⟨rfl, b3⟩
    have hb3 := bel_later hbc b3
    clear b3
    go_wp2_with fail
    refine (raise_nil 1 _).mono ?_
    rintro e w2 ⟨rfl, rfl⟩
    go_wp2_with fail
    refine (fence_nil _).mono ?_
    rintro e w2 ⟨rfl, rfl⟩
    go_wp2_with fail
    refine (Calls.mono (R' := fun e w' => e = .returned (.agg #[.int .u64 0, .int .u64 0, .int .i64 0, .int .i64 0]) ∧ Below _ _ w') (root_nil _) (fun _ _ h => h)).mono ?_
    rintro e w4 ⟨rfl, b4⟩
    have hb4 := bel_later hb3 b4
    clear b4 hb3
    go_wp2_with fail
    refine (taken_all_nil _).mono ?_
    rintro e w5 ⟨v5, rfl, o5, b5⟩
    obtain ⟨a5, c5, rfl⟩ := owns_slice o5
    have hb5 := bel_later hb4 b5
    clear o5 b5 hb4
    go_wp2_with fail
    refine (spare_all_nil _).mono ?_
    rintro e w6 ⟨v6, rfl, o6, b6⟩
    obtain ⟨a6, c6, rfl⟩ := owns_slice o6
    have hb6 := bel_later hb5 b6
    clear o6 b6 hb5
    go_wp2_with fail
    refine (aleft_nil _).mono ?_
    rintro e w2 ⟨rfl, rfl⟩
    go_wp2_with fail
    refine (encode_nil _).mono ?_
    rintro e w2 ⟨rfl, rfl⟩
    go_wp2_with fail
    go_ret
    exact ⟨rfl, hb6⟩
end Go.Proofs.Ytobnjpdanpjhjaa
