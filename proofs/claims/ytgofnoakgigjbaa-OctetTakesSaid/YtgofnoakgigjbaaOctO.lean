/-
  The walk of the law on what is taken off. Nothing here is a statement of the document.
-/
import Derived.Test.YtgofnoakgigjbaaOctN
import Derived.Deep.QuietTactic
import Derived.BigQuiet
namespace Go.Proofs.Ytgofnoakgigjbaa
open Go.RowKit
set_option linter.unusedVariables false

/-- A slice of pairs of ints that came in. -/
def IsPairs (w : World) (a : Option Addr) (len : Nat) (K N : Nat → Int) : Prop :=
  len = 0 ∨ ∃ x, a = some x ∧ ∀ i, i < len → w.cell? (x.add (i * 2)) = some (.int .i64 (K i)) ∧ w.cell? (x.add (i * 2 + 1)) = some (.int .i64 (N i)) ∧ (Lit.int .i64 (K i)).wf = true ∧ (Lit.int .i64 (N i)).wf = true

/-- What stands while takes are taken: the reader, and what is still to come as the law keeps it. -/
structure Tk (w0 w : World) (p g : Nat) (L : List Nat) (j : Nat) (err : Int) (ao : Option Addr) : Prop where
  r : Rd w p g L j err
  hb : Below w0.heap.size w0 w
  ht : Lies w0 ao (L.drop j)

theorem Tk.step {w0 w w' : World} {p g j : Nat} {L : List Nat} {err : Int} {ao : Option Addr} (h : Tk w0 w p g L j err ao) (hb : Below w.heap.size w w') : Tk w0 w' p g L j err ao :=
  ⟨h.r.below hb, h.hb.trans (hb.mono h.hb.size), h.ht⟩
theorem Tk.aft {w0 w w' : World} {p g j j' : Nat} {L : List Nat} {err err' n : Int} {ao ao' : Option Addr} (h : Tk w0 w p g L j err ao) (hA : Aft w w' p g L j err n) (e : offTo L.length j err n = (j', err')) (hp : w0.heap.size ≤ p)
    (ht : Lies w0 ao' (L.drop j')) : Tk w0 w' p g L j' err' ao' :=
  ⟨hA.rd e, hA.below h.hb h.hb.size hp, ht⟩

theorem Lies.take {w : World} {a : Option Addr} {l : List Nat} (h : Lies w a l) (m : Nat) : Lies w a (l.take m) := by
  rcases h with rfl | ⟨b, o, rfl, hb, hc⟩
  · exact .inl (by simp)
  · refine .inr ⟨b, o, rfl, hb, fun i hi => ?_⟩
    have h1 : i < m ∧ i < l.length := by rw [List.length_take] at hi; omega
    rw [hc i h1.2]
    simp [h1.1]
theorem Lies.dropAt {w : World} {b o : Nat} {l : List Nat} (h : Lies w (some ⟨b, o, none⟩) l) (m : Nat) (hm : m ≤ l.length) : Lies w (some ⟨b, o + m, none⟩) (l.drop m) := by
  rcases h with rfl | ⟨b2, o2, e, hb, hc⟩
  · exact .inl (by simp)
  · cases e
    refine .inr ⟨b, o + m, rfl, hb, fun i hi => ?_⟩
    rw [List.length_drop] at hi
    rw [Nat.add_assoc, hc (m + i) (by omega)]
    simp [List.getElem?_drop]
theorem Lies.at {w : World} {a : Option Addr} {l : List Nat} (h : Lies w a l) (h0 : 0 < l.length) : ∃ b o, a = some ⟨b, o, none⟩ := by
  rcases h with rfl | ⟨b, o, rfl, _, _⟩
  · simp at h0
  · exact ⟨b, o, rfl⟩

theorem own_add {w : World} {g k len0 : Nat} {t : List Nat} (h : Own w g t) (hl : t.length = len0) (v : Nat) : ∃ t', Own (w.setCell ⟨g, k, none⟩ (.int .u8 (v : Int))) g t' ∧ t'.length = len0 :=
  ⟨t.set k v, h.set v, by simpa using hl⟩

set_option maxHeartbeats 8000000
set_option maxRecDepth 100000
theorem takes_walk (a0 : Option Addr) (len0 cap0 : Nat) (z0 : List Int) (a1 : Option Addr) (len1 cap1 : Nat) (K N : Nat → Int) (w : World) (w0 : IsRow .u8 w a0 len0 cap0 z0) (w1 : IsPairs w a1 len1 K N) :
    Calls Try.prog 5 #[.slice a0 len0 cap0, .slice a1 len1 cap1] w fun e w' => e = .returned (.bool true) ∧ Below w.heap.size w w' := by
  have hcap : len0 ≤ cap0 ∧ cap0 ≤ 9223372036854775807 := by
    rcases w0 with ⟨_, h1, h2, _⟩ | ⟨_, _, h1, h2, _⟩
    · omega
    · unfold maxLen at h2; omega
  obtain ⟨L, hl, hlm, hL, hB⟩ := w0.bytes
  have HL := Lib.hid hl
  have HW := Lib.hid w1
  clear hl w0 w1
  by_cases hbig : 2000 < len0 ∨ 200 < len1
  · by_cases h1 : 2000 < len0
    · have h1' : decide ((2000 : Int) < (len0 : Int)) = true := by simp; omega
      have h1'' : decide (2000 < len0) = true := by simp; omega
      go_enter Try.func5, Try.ntmps5
      go_wp2_with (go_at_call 9; refine (wakes_any _).mono ?_; rintro e w1 ⟨rfl, hb⟩)
      go_ret
      exact ⟨rfl, hb⟩
    · have h1' : decide ((2000 : Int) < (len0 : Int)) = false := by simp; omega
      have h1'' : decide (2000 < len0) = false := by simp; omega
      have h2' : decide ((200 : Int) < (len1 : Int)) = true := by simp; omega
      have h2'' : decide (200 < len1) = true := by simp; omega
      go_enter Try.func5, Try.ntmps5
      go_wp2_with (go_at_call 9; refine (wakes_any _).mono ?_; rintro e w1 ⟨rfl, hb⟩)
      go_ret
      exact ⟨rfl, hb⟩
  · have h1' : decide ((2000 : Int) < (len0 : Int)) = false := by simp; omega
    have h1'' : decide (2000 < len0) = false := by simp; omega
    have h2' : decide ((200 : Int) < (len1 : Int)) = false := by simp; omega
    have h2'' : decide (200 < len1) = false := by simp; omega
    go_enter Try.func5, Try.ntmps5
    go_wp2_with (go_at_call 9; refine (wakes_any _).mono ?_; rintro e w1 ⟨rfl, hb1⟩)
    refine (both_any _ none _ _ 0 0 L [] _ HL.out rfl (by omega) (by omega) (hL.kept hb1) (.inl rfl)).mono ?_
    rintro e w2 ⟨rfl, hO2, hB2⟩
    have hb2 := hb1.trans (hB2.mono hb1.size)
    have hgs : w.heap.size ≤ w1.heap.size := hb1.size
    rw [List.append_nil] at hO2
    go_wp2_with fail
    refine (read_any _ _ _ L _ HL.out (by omega) hO2.lies).mono ?_
    rintro e w3 ⟨p, rfl, hp, hR3, hB3⟩
    have hb3 := hb2.trans (hB3.mono hb2.size)
    have hO3 := hO2.kept' hB3
    have hgl := hO2.lt
    clear hO2 hB2 hB3 hb1 hb2
    generalize w1.heap.size = gs at *
    generalize w2.heap.size = g at *
    have hLL : L.length ≤ 2000 := by rw [HL.out]; omega
    go_wp2_with fail
    go_loopw [33] (fun i wr => ∃ k : Nat, k ≤ len0 ∧ i = .int .i64 k ∧ (∃ t, Own wr gs t ∧ t.length = len0) ∧ Rd wr p g L 0 0 ∧ Below w.heap.size w wr) (fun i _ => len0 - (intOf i).toNat)
    case atStart => exact ⟨0, Nat.zero_le _, rfl, ⟨L, hO3, HL.out⟩, hR3, hb3⟩
    case round =>
      obtain ⟨k, hk, rfl, ⟨t, hO, ht⟩, hR, hb⟩ := hrel
      clear hO3 hR3 hb3
      by_cases hlt : k < len0
      · have hc := hO.cell (i := k) (by omega)
        have hf := hO.free k
        have hx := hB
        obtain ⟨x, ex⟩ : ∃ x, t.getD k 0 = x := ⟨_, rfl⟩
        rw [ex] at hc
        have HT := Lib.hid ht
        clear ht ex hx
        have e : ((x : Int) + 101) % 256 = (((x + 101) % 256 : Nat) : Int) := by omega
        have H1 : Hid (∃ t', Own (wr.setCell ⟨gs, k, none⟩ (.int .u8 (((x : Int) + 101) % 256))) gs t' ∧ t'.length = len0) := by
          rw [e]; exact own_add hO HT.out _
        have H2 : Rd (wr.setCell ⟨gs, k, none⟩ (.int .u8 (((x : Int) + 101) % 256))) p g L 0 0 := hR.kept (Below.heap_setCell _ _ _ _ (by show p ≠ gs; omega)) (Below.heap_setCell _ _ _ _ (by show g ≠ gs; omega))
        have H3 : Below w.heap.size w (wr.setCell ⟨gs, k, none⟩ (.int .u8 (((x : Int) + 101) % 256))) := hb.setCell hgs _
        clear e hO hR hb
        go_wp2
        go_roundw
        case rel => exact ⟨k + 1, by omega, by go_num, H1.out, H2, H3⟩
        case measure => simp [intOf]; omega
      · obtain rfl : len0 = k := by omega
        clear hO ht
        have hTk : Tk w wr p g L 0 0 a0 := ⟨hR, hb, by simpa using hL⟩
        clear hR hb
        have hL0 : Hid (L.length - 0 = len0) := by have := HL.out; show _ = _; omega
        go_wp2_with fail
        go_loopw [8, 9, 46] (fun tv sv i wr => ∃ (k j : Nat) (err : Int) (ao : Option Addr) (ct : Nat), k ≤ len1 ∧ i = .int .i64 k ∧ tv = .slice ao (L.length - j) ct ∧ sv = .int .i64 err ∧ L.length - j ≤ ct ∧ ct ≤ 9223372036854775807 ∧ Tk w wr p g L j err ao) (fun _ _ i _ => len1 - (intOf i).toNat)
        case atStart => exact ⟨0, 0, 0, a0, cap0, Nat.zero_le _, rfl, by rw [hL0.out], rfl, by rw [hL0.out]; exact hcap.1, hcap.2, hTk⟩
        case round =>
          obtain ⟨k, j, err, ao, ct, hk, rfl, rfl, rfl, hct, hcm, hT⟩ := hrel
          clear hTk
          by_cases hlt : k < len1
          · rcases HW.out with h0 | ⟨x, rfl, hcc⟩
            · omega
            obtain ⟨c0, c1, f0, f1⟩ := hcc k hlt
            obtain ⟨b, off, spot⟩ := x
            have hspot : spot = none := by simpa [Addr.add] using World.cell?_spot (hcc 0 (by omega)).1
            subst hspot
            rw [Addr.add_lit] at c0 c1
            have lb := World.block_lt_of_cell? w _ c0
            have c0 := (hT.hb.cell (p := ⟨b, off + k * 2, none⟩) lb).trans c0
            have c1 := (hT.hb.cell (p := ⟨b, off + (k * 2 + 1), none⟩) lb).trans c1
            have c1 : wr.cell? ⟨b, off + k * 2 + 1, none⟩ = some (.int .i64 (N k)) := by rw [Nat.add_assoc]; exact c1
            have r0 := bounds_i64 f0
            have r1 := bounds_i64 f1
            clear hcc f0 f1
            generalize K k = kd at *
            generalize N k = n at *
            have hTA := hT.step ((Below.refl _ _).alloc (Nat.le_refl _) (.cells #[.int .i64 kd, .int .i64 n] 42))
            clear hT
            by_cases hk0 : kd < 0
            · have q0 : decide (0 ≤ kd) = false := by simpa using hk0
              have s0 : (kd == 0) = false := by simp; omega
              have s1 : (kd == 1) = false := by simp; omega
              have s2 : (kd == 2) = false := by simp; omega
              have s3 : (kd == 3) = false := by simp; omega
              by_cases hez : err = 0
              · subst hez
                by_cases hn : n < 0
                · have E1 := Lib.hid (show came L j 0 (n : Int) = [] by simp [came, hn])
                  have E2 := Lib.hid (show offTo L.length j 0 (n : Int) = (j, 2) by simp [offTo, hn])
                  go_wp2_with fail
                  refine (off_neg _ _ _ hn).mono ?_
                  rintro e w' ⟨rfl, rfl⟩
                  go_wp2_with fail
                  refine (refnumber_any none 0 0 [] _ rfl (by omega) (by intro q hq; cases hq) (.inl rfl)).mono ?_
                  rintro e w' ⟨he, rfl⟩
                  obtain rfl : e = .returned (.int .u64 0) := he
                  go_wp2_with fail
                  refine (raw_any hTA.r hB (by omega)).mono ?_
                  rintro e w5 ⟨v, rfl, hH, hA⟩
                  rw [E1.out] at hH
                  obtain ⟨av, cv, rfl, hLv, _, _⟩ := hH
                  have hT5 := hTA.aft hA E2.out (by omega) hTA.ht
                  clear hA hTA
                  go_wp2_with fail
                  refine (same_any _ none _ _ 0 0 [] [] _ rfl rfl (by simp) (by simp) hLv (.inl rfl)).mono ?_
                  rintro e w6 ⟨he, hD⟩
                  obtain rfl : e = .returned (.bool true) := he
                  have hT5 := hT5.step (hD.below _)
                  clear hD hLv
                  go_wp2_with fail
                  refine (left_any hT5.r).mono ?_
                  rintro e w' ⟨rfl, rfl⟩
                  go_wp2_with fail
                  refine (err_any hT5.r).mono ?_
                  rintro e w' ⟨rfl, rfl⟩
                  go_wp2
                  go_roundw
                  case rel => exact ⟨k + 1, j, 2, ao, ct, by omega, by go_num, rfl, rfl, hct, hcm, hT5⟩
                  case measure => simp [intOf]; omega
                · by_cases hs : ((L.length - j : Nat) : Int) < n
                  · have E1 := Lib.hid (show came L j 0 (n : Int) = [] by unfold came; rw [if_neg (by simp), if_neg (by omega), if_pos (by omega)])
                    have E2 := Lib.hid (show offTo L.length j 0 (n : Int) = (j, 7) by unfold offTo; rw [if_neg (by simp), if_neg (by omega), if_pos (by omega)])
                    go_wp2_with fail
                    refine (off_short _ _ _ (by omega) (by omega)).mono ?_
                    rintro e w' ⟨rfl, rfl⟩
                    go_wp2_with fail
                    refine (refnumber_any none 0 0 [] _ rfl (by omega) (by intro q hq; cases hq) (.inl rfl)).mono ?_
                    rintro e w' ⟨he, rfl⟩
                    obtain rfl : e = .returned (.int .u64 0) := he
                    go_wp2_with fail
                    refine (raw_any hTA.r hB (by omega)).mono ?_
                    rintro e w5 ⟨v, rfl, hH, hA⟩
                    rw [E1.out] at hH
                    obtain ⟨av, cv, rfl, hLv, _, _⟩ := hH
                    have hT5 := hTA.aft hA E2.out (by omega) hTA.ht
                    clear hA hTA
                    go_wp2_with fail
                    refine (same_any _ none _ _ 0 0 [] [] _ rfl rfl (by simp) (by simp) hLv (.inl rfl)).mono ?_
                    rintro e w6 ⟨he, hD⟩
                    obtain rfl : e = .returned (.bool true) := he
                    have hT5 := hT5.step (hD.below _)
                    clear hD hLv
                    go_wp2_with fail
                    refine (left_any hT5.r).mono ?_
                    rintro e w' ⟨rfl, rfl⟩
                    go_wp2_with fail
                    refine (err_any hT5.r).mono ?_
                    rintro e w' ⟨rfl, rfl⟩
                    go_wp2
                    go_roundw
                    case rel => exact ⟨k + 1, j, 7, ao, ct, by omega, by go_num, rfl, rfl, hct, hcm, hT5⟩
                    case measure => simp [intOf]; omega
                  · by_cases hz : L.length - j = 0
                    · obtain rfl : n = 0 := by omega
                      have E1 := Lib.hid (show came L j 0 0 = [] by unfold came; rw [if_neg (by simp), if_neg (by omega), if_neg (by omega)]; rfl)
                      have E2 := Lib.hid (show offTo L.length j 0 0 = (j, 0) by unfold offTo; rw [if_neg (by simp), if_neg (by omega), if_neg (by omega)]; rfl)
                      have HLn : Hid (L.drop j = []) := List.drop_eq_nil_of_le (by omega)
                      have HZ := Lib.hid hz
                      have hz1 : L.length - j ≤ 0 := by omega
                      clear hz hs hn
                      by_cases hce : ct = 0
                      · subst hce
                        go_wp2_with fail
                        refine (off_ok _ _ _ (by omega) (by omega)).mono ?_
                        rintro e w' ⟨rfl, rfl⟩
                        go_wp2_with fail
                        go_quiet (fail)
                        go_wp2_with fail
                        refine (refnumber_any _ _ _ [] _ rfl (by simp) (by intro q hq; cases hq) (.inl rfl)).mono ?_
                        rintro e w' ⟨he, rfl⟩
                        obtain rfl : e = .returned (.int .u64 0) := he
                        go_wp2_with fail
                        refine (raw_any (hTA.r.below (Drawn.below ⟨_, rfl⟩ _)) hB (by omega)).mono ?_
                        rintro e w5 ⟨v, rfl, hH, hA⟩
                        rw [E1.out] at hH
                        obtain ⟨av, cv, rfl, hLv, _, _⟩ := hH
                        have hT5 := Tk.aft (hTA.step (Drawn.below ⟨_, rfl⟩ _)) hA E2.out (by omega) (ao' := none) (.inl HLn.out)
                        clear hA hTA
                        go_wp2_with fail
                        refine (same_any _ _ _ _ _ _ [] [] _ rfl rfl (by simp) (by simp) hLv (.inl rfl)).mono ?_
                        rintro e w6 ⟨he, hD⟩
                        obtain rfl : e = .returned (.bool true) := he
                        have hT5 := hT5.step (hD.below _)
                        clear hD hLv
                        go_wp2_with fail
                        refine (left_any hT5.r).mono ?_
                        rintro e w' ⟨rfl, rfl⟩
                        go_wp2_with fail
                        refine (err_any hT5.r).mono ?_
                        rintro e w' ⟨rfl, rfl⟩
                        go_wp2
                        go_roundw
                        case rel => exact ⟨k + 1, j, 0, _, _, by omega, by go_num, by rw [HZ.out], rfl, by omega, by omega, ⟨hT5.r, hT5.hb, .inl HLn.out⟩⟩
                        case measure => simp [intOf]; omega
                      · have hadd : ∀ a : Addr, a.add 0 = a := fun a => by cases a; simp [Addr.add]
                        cases ao with
                        | none =>
                          go_wp2_with fail
                          refine (off_ok _ _ _ (by omega) (by omega)).mono ?_
                          rintro e w' ⟨rfl, rfl⟩
                          go_wp2_with fail
                          go_quiet (fail)
                          go_wp2_with fail
                          refine (refnumber_any _ _ _ [] _ rfl (by simp) (by intro q hq; cases hq) (.inl rfl)).mono ?_
                          rintro e w' ⟨he, rfl⟩
                          obtain rfl : e = .returned (.int .u64 0) := he
                          go_wp2_with fail
                          refine (raw_any (hTA.r.below (Drawn.below ⟨_, rfl⟩ _)) hB (by omega)).mono ?_
                          rintro e w5 ⟨v, rfl, hH, hA⟩
                          rw [E1.out] at hH
                          obtain ⟨av, cv, rfl, hLv, _, _⟩ := hH
                          have hT5 := Tk.aft (hTA.step (Drawn.below ⟨_, rfl⟩ _)) hA E2.out (by omega) (ao' := none) (.inl HLn.out)
                          clear hA hTA
                          go_wp2_with fail
                          refine (same_any _ _ _ _ _ _ [] [] _ rfl rfl (by simp) (by simp) hLv (.inl rfl)).mono ?_
                          rintro e w6 ⟨he, hD⟩
                          obtain rfl : e = .returned (.bool true) := he
                          have hT5 := hT5.step (hD.below _)
                          clear hD hLv
                          go_wp2_with fail
                          refine (left_any hT5.r).mono ?_
                          rintro e w' ⟨rfl, rfl⟩
                          go_wp2_with fail
                          refine (err_any hT5.r).mono ?_
                          rintro e w' ⟨rfl, rfl⟩
                          go_wp2
                          go_roundw
                          case rel => exact ⟨k + 1, j, 0, _, _, by omega, by go_num, by rw [HZ.out], rfl, by omega, by omega, ⟨hT5.r, hT5.hb, .inl HLn.out⟩⟩
                          case measure => simp [intOf]; omega
                        | some ad =>
                          go_wp2_with fail
                          refine (off_ok _ _ _ (by omega) (by omega)).mono ?_
                          rintro e w' ⟨rfl, rfl⟩
                          go_wp2_with fail
                          go_quiet (fail)
                          go_wp2_with fail
                          refine (refnumber_any _ _ _ [] _ rfl (by simp) (by intro q hq; cases hq) (.inl rfl)).mono ?_
                          rintro e w' ⟨he, rfl⟩
                          obtain rfl : e = .returned (.int .u64 0) := he
                          go_wp2_with fail
                          refine (raw_any (hTA.r.below (Drawn.below ⟨_, rfl⟩ _)) hB (by omega)).mono ?_
                          rintro e w5 ⟨v, rfl, hH, hA⟩
                          rw [E1.out] at hH
                          obtain ⟨av, cv, rfl, hLv, _, _⟩ := hH
                          have hT5 := Tk.aft (hTA.step (Drawn.below ⟨_, rfl⟩ _)) hA E2.out (by omega) (ao' := none) (.inl HLn.out)
                          clear hA hTA
                          go_wp2_with fail
                          refine (same_any _ _ _ _ _ _ [] [] _ rfl rfl (by simp) (by simp) hLv (.inl rfl)).mono ?_
                          rintro e w6 ⟨he, hD⟩
                          obtain rfl : e = .returned (.bool true) := he
                          have hT5 := hT5.step (hD.below _)
                          clear hD hLv
                          go_wp2_with fail
                          refine (left_any hT5.r).mono ?_
                          rintro e w' ⟨rfl, rfl⟩
                          go_wp2_with fail
                          refine (err_any hT5.r).mono ?_
                          rintro e w' ⟨rfl, rfl⟩
                          go_wp2
                          go_roundw
                          case rel => exact ⟨k + 1, j, 0, _, _, by omega, by go_num, by rw [HZ.out], rfl, by omega, by omega, ⟨hT5.r, hT5.hb, .inl HLn.out⟩⟩
                          case measure => simp [intOf]; omega
                    · obtain ⟨n, rfl⟩ := Int.eq_ofNat_of_zero_le (by omega : 0 ≤ n)
                      obtain ⟨c, hc⟩ : ∃ c, (L.drop j).take n = c := ⟨_, rfl⟩
                      have hcl : c.length = n := by rw [← hc, List.length_take, List.length_drop]; omega
                      have hBc : Bys c := fun q hq => hB q (List.mem_of_mem_drop (List.mem_of_mem_take (by rw [hc]; exact hq)))
                      have E1 := Lib.hid (show came L j 0 (n : Int) = c by rw [← hc]; unfold came; rw [if_neg (by simp), if_neg (by omega), if_neg (by omega)]; rfl)
                      have E2 := Lib.hid (show offTo L.length j 0 (n : Int) = (j + n, 0) by unfold offTo; rw [if_neg (by simp), if_neg (by omega), if_neg (by omega)]; rfl)
                      have HJ := Lib.hid (show L.length - (j + n) = L.length - j - n from by omega)
                      have HC := Lib.hid hcl
                      obtain ⟨u, hu⟩ : ∃ u, pile 0 c = u := ⟨_, rfl⟩
                      have HP := Lib.hid hu
                      have hpu : u ≤ 18446744073709551615 := by rw [← hu]; exact pile_le 0 c hBc (by omega)
                      have hd0 : Lies w ao (L.drop j) := hTA.ht
                      have hLc : Lies w ao c := by rw [← hc]; exact hd0.take n
                      have hLA := hLc.kept hTA.hb
                      clear hcl hc hu
                      rcases hd0.at (by rw [List.length_drop]; omega) with ⟨b', o', rfl⟩
                      by_cases hce : ct = n
                      · subst hce
                        have hLn : Lies w (some ⟨b', o', none⟩) (L.drop (j + ct)) := .inl (List.drop_eq_nil_of_le (by omega))
                        go_wp2_with fail
                        refine (off_ok _ _ _ (by omega) (by omega)).mono ?_
                        rintro e w' ⟨rfl, rfl⟩
                        go_wp2_with fail
                        go_quiet (fail)
                        go_wp2_with fail
                        refine (refnumber_any _ _ _ c _ HC.out (by omega) hBc (by exact hLA)).mono ?_
                        rintro e w' ⟨he, rfl⟩
                        rw [HP.out] at he
                        subst he
                        go_wp2_with fail
                        refine (raw_any (hTA.r.below (Drawn.below ⟨_, rfl⟩ _)) hB (by omega)).mono ?_
                        rintro e w5 ⟨v, rfl, hH, hA⟩
                        rw [E1.out] at hH
                        obtain ⟨av, cv, rfl, hLv, _, _⟩ := hH
                        rw [HC.out]
                        have hT5 := Tk.aft (hTA.step (Drawn.below ⟨_, rfl⟩ _)) hA E2.out (by omega) hLn
                        clear hA hTA
                        go_wp2_with fail
                        refine (same_any _ _ _ _ _ _ c c _ HC.out HC.out (by omega) (by omega) hLv (hLc.kept hT5.hb)).mono ?_
                        rintro e w6 ⟨he, hD⟩
                        rw [beq_self_eq_true] at he
                        subst he
                        have hT5 := hT5.step (hD.below _)
                        clear hD hLv
                        go_wp2_with fail
                        refine (left_any hT5.r).mono ?_
                        rintro e w' ⟨he, rfl⟩
                        rw [HJ.out] at he
                        subst he
                        go_wp2_with fail
                        refine (err_any hT5.r).mono ?_
                        rintro e w' ⟨rfl, rfl⟩
                        go_wp2
                        go_roundw
                        case rel => exact ⟨k + 1, j + ct, 0, _, _, by omega, by go_num, by rw [show L.length - (j + ct) = 0 from by omega], rfl, by omega, by omega, hT5⟩
                        case measure => simp [intOf]; omega
                      · have hLn : Lies w (some ⟨b', o' + n, none⟩) (L.drop (j + n)) := by rw [← List.drop_drop]; exact hd0.dropAt n (by rw [List.length_drop]; omega)
                        go_wp2_with fail
                        refine (off_ok _ _ _ (by omega) (by omega)).mono ?_
                        rintro e w' ⟨rfl, rfl⟩
                        go_wp2_with fail
                        go_quiet (fail)
                        go_wp2_with fail
                        refine (refnumber_any _ _ _ c _ HC.out (by omega) hBc (by exact hLA)).mono ?_
                        rintro e w' ⟨he, rfl⟩
                        rw [HP.out] at he
                        subst he
                        go_wp2_with fail
                        refine (raw_any (hTA.r.below (Drawn.below ⟨_, rfl⟩ _)) hB (by omega)).mono ?_
                        rintro e w5 ⟨v, rfl, hH, hA⟩
                        rw [E1.out] at hH
                        obtain ⟨av, cv, rfl, hLv, _, _⟩ := hH
                        rw [HC.out]
                        have hT5 := Tk.aft (hTA.step (Drawn.below ⟨_, rfl⟩ _)) hA E2.out (by omega) hLn
                        clear hA hTA
                        go_wp2_with fail
                        refine (same_any _ _ _ _ _ _ c c _ HC.out HC.out (by omega) (by omega) hLv (hLc.kept hT5.hb)).mono ?_
                        rintro e w6 ⟨he, hD⟩
                        rw [beq_self_eq_true] at he
                        subst he
                        have hT5 := hT5.step (hD.below _)
                        clear hD hLv
                        go_wp2_with fail
                        refine (left_any hT5.r).mono ?_
                        rintro e w' ⟨he, rfl⟩
                        rw [HJ.out] at he
                        subst he
                        go_wp2_with fail
                        refine (err_any hT5.r).mono ?_
                        rintro e w' ⟨rfl, rfl⟩
                        go_wp2
                        go_roundw
                        case rel => exact ⟨k + 1, j + n, 0, _, _, by omega, by go_num, by rw [HJ.out], rfl, by omega, by omega, hT5⟩
                        case measure => simp [intOf]; omega
              · have he1 : (err == 0) = false := by simpa using hez
                have E1 := Lib.hid (show came L j err (n : Int) = [] by simp [came, hez])
                have E2 := Lib.hid (show offTo L.length j err (n : Int) = (j, err) by simp [offTo, hez])
                go_wp2_with fail
                refine (refnumber_any none 0 0 [] _ rfl (by omega) (by intro q hq; cases hq) (.inl rfl)).mono ?_
                rintro e w' ⟨he, rfl⟩
                obtain rfl : e = .returned (.int .u64 0) := he
                go_wp2_with fail
                refine (raw_any hTA.r hB (by omega)).mono ?_
                rintro e w5 ⟨v, rfl, hH, hA⟩
                rw [E1.out] at hH
                obtain ⟨av, cv, rfl, hLv, _, _⟩ := hH
                have hT5 := hTA.aft hA E2.out (by omega) hTA.ht
                clear hA hTA
                go_wp2_with fail
                refine (same_any _ none _ _ 0 0 [] [] _ rfl rfl (by simp) (by simp) hLv (.inl rfl)).mono ?_
                rintro e w6 ⟨he, hD⟩
                obtain rfl : e = .returned (.bool true) := he
                have hT5 := hT5.step (hD.below _)
                clear hD hLv
                go_wp2_with fail
                refine (left_any hT5.r).mono ?_
                rintro e w' ⟨rfl, rfl⟩
                go_wp2_with fail
                refine (err_any hT5.r).mono ?_
                rintro e w' ⟨rfl, rfl⟩
                go_wp2
                go_roundw
                case rel => exact ⟨k + 1, j, err, ao, ct, by omega, by go_num, rfl, rfl, hct, hcm, hT5⟩
                case measure => simp [intOf]; omega
            · by_cases hk3 : 3 < kd
              · have q0 : decide (0 ≤ kd) = true := by simp; omega
                have q1 : decide (kd ≤ 3) = false := by simp; omega
                have s0 : (kd == 0) = false := by simp; omega
                have s1 : (kd == 1) = false := by simp; omega
                have s2 : (kd == 2) = false := by simp; omega
                have s3 : (kd == 3) = false := by simp; omega
                by_cases hez : err = 0
                · subst hez
                  by_cases hn : n < 0
                  · have E1 := Lib.hid (show came L j 0 (n : Int) = [] by simp [came, hn])
                    have E2 := Lib.hid (show offTo L.length j 0 (n : Int) = (j, 2) by simp [offTo, hn])
                    go_wp2_with fail
                    refine (off_neg _ _ _ hn).mono ?_
                    rintro e w' ⟨rfl, rfl⟩
                    go_wp2_with fail
                    refine (refnumber_any none 0 0 [] _ rfl (by omega) (by intro q hq; cases hq) (.inl rfl)).mono ?_
                    rintro e w' ⟨he, rfl⟩
                    obtain rfl : e = .returned (.int .u64 0) := he
                    go_wp2_with fail
                    refine (raw_any hTA.r hB (by omega)).mono ?_
                    rintro e w5 ⟨v, rfl, hH, hA⟩
                    rw [E1.out] at hH
                    obtain ⟨av, cv, rfl, hLv, _, _⟩ := hH
                    have hT5 := hTA.aft hA E2.out (by omega) hTA.ht
                    clear hA hTA
                    go_wp2_with fail
                    refine (same_any _ none _ _ 0 0 [] [] _ rfl rfl (by simp) (by simp) hLv (.inl rfl)).mono ?_
                    rintro e w6 ⟨he, hD⟩
                    obtain rfl : e = .returned (.bool true) := he
                    have hT5 := hT5.step (hD.below _)
                    clear hD hLv
                    go_wp2_with fail
                    refine (left_any hT5.r).mono ?_
                    rintro e w' ⟨rfl, rfl⟩
                    go_wp2_with fail
                    refine (err_any hT5.r).mono ?_
                    rintro e w' ⟨rfl, rfl⟩
                    go_wp2
                    go_roundw
                    case rel => exact ⟨k + 1, j, 2, ao, ct, by omega, by go_num, rfl, rfl, hct, hcm, hT5⟩
                    case measure => simp [intOf]; omega
                  · by_cases hs : ((L.length - j : Nat) : Int) < n
                    · have E1 := Lib.hid (show came L j 0 (n : Int) = [] by unfold came; rw [if_neg (by simp), if_neg (by omega), if_pos (by omega)])
                      have E2 := Lib.hid (show offTo L.length j 0 (n : Int) = (j, 7) by unfold offTo; rw [if_neg (by simp), if_neg (by omega), if_pos (by omega)])
                      go_wp2_with fail
                      refine (off_short _ _ _ (by omega) (by omega)).mono ?_
                      rintro e w' ⟨rfl, rfl⟩
                      go_wp2_with fail
                      refine (refnumber_any none 0 0 [] _ rfl (by omega) (by intro q hq; cases hq) (.inl rfl)).mono ?_
                      rintro e w' ⟨he, rfl⟩
                      obtain rfl : e = .returned (.int .u64 0) := he
                      go_wp2_with fail
                      refine (raw_any hTA.r hB (by omega)).mono ?_
                      rintro e w5 ⟨v, rfl, hH, hA⟩
                      rw [E1.out] at hH
                      obtain ⟨av, cv, rfl, hLv, _, _⟩ := hH
                      have hT5 := hTA.aft hA E2.out (by omega) hTA.ht
                      clear hA hTA
                      go_wp2_with fail
                      refine (same_any _ none _ _ 0 0 [] [] _ rfl rfl (by simp) (by simp) hLv (.inl rfl)).mono ?_
                      rintro e w6 ⟨he, hD⟩
                      obtain rfl : e = .returned (.bool true) := he
                      have hT5 := hT5.step (hD.below _)
                      clear hD hLv
                      go_wp2_with fail
                      refine (left_any hT5.r).mono ?_
                      rintro e w' ⟨rfl, rfl⟩
                      go_wp2_with fail
                      refine (err_any hT5.r).mono ?_
                      rintro e w' ⟨rfl, rfl⟩
                      go_wp2
                      go_roundw
                      case rel => exact ⟨k + 1, j, 7, ao, ct, by omega, by go_num, rfl, rfl, hct, hcm, hT5⟩
                      case measure => simp [intOf]; omega
                    · by_cases hz : L.length - j = 0
                      · obtain rfl : n = 0 := by omega
                        have E1 := Lib.hid (show came L j 0 0 = [] by unfold came; rw [if_neg (by simp), if_neg (by omega), if_neg (by omega)]; rfl)
                        have E2 := Lib.hid (show offTo L.length j 0 0 = (j, 0) by unfold offTo; rw [if_neg (by simp), if_neg (by omega), if_neg (by omega)]; rfl)
                        have HLn : Hid (L.drop j = []) := List.drop_eq_nil_of_le (by omega)
                        have HZ := Lib.hid hz
                        have hz1 : L.length - j ≤ 0 := by omega
                        clear hz hs hn
                        by_cases hce : ct = 0
                        · subst hce
                          go_wp2_with fail
                          refine (off_ok _ _ _ (by omega) (by omega)).mono ?_
                          rintro e w' ⟨rfl, rfl⟩
                          go_wp2_with fail
                          go_quiet (fail)
                          go_wp2_with fail
                          refine (refnumber_any _ _ _ [] _ rfl (by simp) (by intro q hq; cases hq) (.inl rfl)).mono ?_
                          rintro e w' ⟨he, rfl⟩
                          obtain rfl : e = .returned (.int .u64 0) := he
                          go_wp2_with fail
                          refine (raw_any (hTA.r.below (Drawn.below ⟨_, rfl⟩ _)) hB (by omega)).mono ?_
                          rintro e w5 ⟨v, rfl, hH, hA⟩
                          rw [E1.out] at hH
                          obtain ⟨av, cv, rfl, hLv, _, _⟩ := hH
                          have hT5 := Tk.aft (hTA.step (Drawn.below ⟨_, rfl⟩ _)) hA E2.out (by omega) (ao' := none) (.inl HLn.out)
                          clear hA hTA
                          go_wp2_with fail
                          refine (same_any _ _ _ _ _ _ [] [] _ rfl rfl (by simp) (by simp) hLv (.inl rfl)).mono ?_
                          rintro e w6 ⟨he, hD⟩
                          obtain rfl : e = .returned (.bool true) := he
                          have hT5 := hT5.step (hD.below _)
                          clear hD hLv
                          go_wp2_with fail
                          refine (left_any hT5.r).mono ?_
                          rintro e w' ⟨rfl, rfl⟩
                          go_wp2_with fail
                          refine (err_any hT5.r).mono ?_
                          rintro e w' ⟨rfl, rfl⟩
                          go_wp2
                          go_roundw
                          case rel => exact ⟨k + 1, j, 0, _, _, by omega, by go_num, by rw [HZ.out], rfl, by omega, by omega, ⟨hT5.r, hT5.hb, .inl HLn.out⟩⟩
                          case measure => simp [intOf]; omega
                        · have hadd : ∀ a : Addr, a.add 0 = a := fun a => by cases a; simp [Addr.add]
                          cases ao with
                          | none =>
                            go_wp2_with fail
                            refine (off_ok _ _ _ (by omega) (by omega)).mono ?_
                            rintro e w' ⟨rfl, rfl⟩
                            go_wp2_with fail
                            go_quiet (fail)
                            go_wp2_with fail
                            refine (refnumber_any _ _ _ [] _ rfl (by simp) (by intro q hq; cases hq) (.inl rfl)).mono ?_
                            rintro e w' ⟨he, rfl⟩
                            obtain rfl : e = .returned (.int .u64 0) := he
                            go_wp2_with fail
                            refine (raw_any (hTA.r.below (Drawn.below ⟨_, rfl⟩ _)) hB (by omega)).mono ?_
                            rintro e w5 ⟨v, rfl, hH, hA⟩
                            rw [E1.out] at hH
                            obtain ⟨av, cv, rfl, hLv, _, _⟩ := hH
                            have hT5 := Tk.aft (hTA.step (Drawn.below ⟨_, rfl⟩ _)) hA E2.out (by omega) (ao' := none) (.inl HLn.out)
                            clear hA hTA
                            go_wp2_with fail
                            refine (same_any _ _ _ _ _ _ [] [] _ rfl rfl (by simp) (by simp) hLv (.inl rfl)).mono ?_
                            rintro e w6 ⟨he, hD⟩
                            obtain rfl : e = .returned (.bool true) := he
                            have hT5 := hT5.step (hD.below _)
                            clear hD hLv
                            go_wp2_with fail
                            refine (left_any hT5.r).mono ?_
                            rintro e w' ⟨rfl, rfl⟩
                            go_wp2_with fail
                            refine (err_any hT5.r).mono ?_
                            rintro e w' ⟨rfl, rfl⟩
                            go_wp2
                            go_roundw
                            case rel => exact ⟨k + 1, j, 0, _, _, by omega, by go_num, by rw [HZ.out], rfl, by omega, by omega, ⟨hT5.r, hT5.hb, .inl HLn.out⟩⟩
                            case measure => simp [intOf]; omega
                          | some ad =>
                            go_wp2_with fail
                            refine (off_ok _ _ _ (by omega) (by omega)).mono ?_
                            rintro e w' ⟨rfl, rfl⟩
                            go_wp2_with fail
                            go_quiet (fail)
                            go_wp2_with fail
                            refine (refnumber_any _ _ _ [] _ rfl (by simp) (by intro q hq; cases hq) (.inl rfl)).mono ?_
                            rintro e w' ⟨he, rfl⟩
                            obtain rfl : e = .returned (.int .u64 0) := he
                            go_wp2_with fail
                            refine (raw_any (hTA.r.below (Drawn.below ⟨_, rfl⟩ _)) hB (by omega)).mono ?_
                            rintro e w5 ⟨v, rfl, hH, hA⟩
                            rw [E1.out] at hH
                            obtain ⟨av, cv, rfl, hLv, _, _⟩ := hH
                            have hT5 := Tk.aft (hTA.step (Drawn.below ⟨_, rfl⟩ _)) hA E2.out (by omega) (ao' := none) (.inl HLn.out)
                            clear hA hTA
                            go_wp2_with fail
                            refine (same_any _ _ _ _ _ _ [] [] _ rfl rfl (by simp) (by simp) hLv (.inl rfl)).mono ?_
                            rintro e w6 ⟨he, hD⟩
                            obtain rfl : e = .returned (.bool true) := he
                            have hT5 := hT5.step (hD.below _)
                            clear hD hLv
                            go_wp2_with fail
                            refine (left_any hT5.r).mono ?_
                            rintro e w' ⟨rfl, rfl⟩
                            go_wp2_with fail
                            refine (err_any hT5.r).mono ?_
                            rintro e w' ⟨rfl, rfl⟩
                            go_wp2
                            go_roundw
                            case rel => exact ⟨k + 1, j, 0, _, _, by omega, by go_num, by rw [HZ.out], rfl, by omega, by omega, ⟨hT5.r, hT5.hb, .inl HLn.out⟩⟩
                            case measure => simp [intOf]; omega
                      · obtain ⟨n, rfl⟩ := Int.eq_ofNat_of_zero_le (by omega : 0 ≤ n)
                        obtain ⟨c, hc⟩ : ∃ c, (L.drop j).take n = c := ⟨_, rfl⟩
                        have hcl : c.length = n := by rw [← hc, List.length_take, List.length_drop]; omega
                        have hBc : Bys c := fun q hq => hB q (List.mem_of_mem_drop (List.mem_of_mem_take (by rw [hc]; exact hq)))
                        have E1 := Lib.hid (show came L j 0 (n : Int) = c by rw [← hc]; unfold came; rw [if_neg (by simp), if_neg (by omega), if_neg (by omega)]; rfl)
                        have E2 := Lib.hid (show offTo L.length j 0 (n : Int) = (j + n, 0) by unfold offTo; rw [if_neg (by simp), if_neg (by omega), if_neg (by omega)]; rfl)
                        have HJ := Lib.hid (show L.length - (j + n) = L.length - j - n from by omega)
                        have HC := Lib.hid hcl
                        obtain ⟨u, hu⟩ : ∃ u, pile 0 c = u := ⟨_, rfl⟩
                        have HP := Lib.hid hu
                        have hpu : u ≤ 18446744073709551615 := by rw [← hu]; exact pile_le 0 c hBc (by omega)
                        have hd0 : Lies w ao (L.drop j) := hTA.ht
                        have hLc : Lies w ao c := by rw [← hc]; exact hd0.take n
                        have hLA := hLc.kept hTA.hb
                        clear hcl hc hu
                        rcases hd0.at (by rw [List.length_drop]; omega) with ⟨b', o', rfl⟩
                        by_cases hce : ct = n
                        · subst hce
                          have hLn : Lies w (some ⟨b', o', none⟩) (L.drop (j + ct)) := .inl (List.drop_eq_nil_of_le (by omega))
                          go_wp2_with fail
                          refine (off_ok _ _ _ (by omega) (by omega)).mono ?_
                          rintro e w' ⟨rfl, rfl⟩
                          go_wp2_with fail
                          go_quiet (fail)
                          go_wp2_with fail
                          refine (refnumber_any _ _ _ c _ HC.out (by omega) hBc (by exact hLA)).mono ?_
                          rintro e w' ⟨he, rfl⟩
                          rw [HP.out] at he
                          subst he
                          go_wp2_with fail
                          refine (raw_any (hTA.r.below (Drawn.below ⟨_, rfl⟩ _)) hB (by omega)).mono ?_
                          rintro e w5 ⟨v, rfl, hH, hA⟩
                          rw [E1.out] at hH
                          obtain ⟨av, cv, rfl, hLv, _, _⟩ := hH
                          rw [HC.out]
                          have hT5 := Tk.aft (hTA.step (Drawn.below ⟨_, rfl⟩ _)) hA E2.out (by omega) hLn
                          clear hA hTA
                          go_wp2_with fail
                          refine (same_any _ _ _ _ _ _ c c _ HC.out HC.out (by omega) (by omega) hLv (hLc.kept hT5.hb)).mono ?_
                          rintro e w6 ⟨he, hD⟩
                          rw [beq_self_eq_true] at he
                          subst he
                          have hT5 := hT5.step (hD.below _)
                          clear hD hLv
                          go_wp2_with fail
                          refine (left_any hT5.r).mono ?_
                          rintro e w' ⟨he, rfl⟩
                          rw [HJ.out] at he
                          subst he
                          go_wp2_with fail
                          refine (err_any hT5.r).mono ?_
                          rintro e w' ⟨rfl, rfl⟩
                          go_wp2
                          go_roundw
                          case rel => exact ⟨k + 1, j + ct, 0, _, _, by omega, by go_num, by rw [show L.length - (j + ct) = 0 from by omega], rfl, by omega, by omega, hT5⟩
                          case measure => simp [intOf]; omega
                        · have hLn : Lies w (some ⟨b', o' + n, none⟩) (L.drop (j + n)) := by rw [← List.drop_drop]; exact hd0.dropAt n (by rw [List.length_drop]; omega)
                          go_wp2_with fail
                          refine (off_ok _ _ _ (by omega) (by omega)).mono ?_
                          rintro e w' ⟨rfl, rfl⟩
                          go_wp2_with fail
                          go_quiet (fail)
                          go_wp2_with fail
                          refine (refnumber_any _ _ _ c _ HC.out (by omega) hBc (by exact hLA)).mono ?_
                          rintro e w' ⟨he, rfl⟩
                          rw [HP.out] at he
                          subst he
                          go_wp2_with fail
                          refine (raw_any (hTA.r.below (Drawn.below ⟨_, rfl⟩ _)) hB (by omega)).mono ?_
                          rintro e w5 ⟨v, rfl, hH, hA⟩
                          rw [E1.out] at hH
                          obtain ⟨av, cv, rfl, hLv, _, _⟩ := hH
                          rw [HC.out]
                          have hT5 := Tk.aft (hTA.step (Drawn.below ⟨_, rfl⟩ _)) hA E2.out (by omega) hLn
                          clear hA hTA
                          go_wp2_with fail
                          refine (same_any _ _ _ _ _ _ c c _ HC.out HC.out (by omega) (by omega) hLv (hLc.kept hT5.hb)).mono ?_
                          rintro e w6 ⟨he, hD⟩
                          rw [beq_self_eq_true] at he
                          subst he
                          have hT5 := hT5.step (hD.below _)
                          clear hD hLv
                          go_wp2_with fail
                          refine (left_any hT5.r).mono ?_
                          rintro e w' ⟨he, rfl⟩
                          rw [HJ.out] at he
                          subst he
                          go_wp2_with fail
                          refine (err_any hT5.r).mono ?_
                          rintro e w' ⟨rfl, rfl⟩
                          go_wp2
                          go_roundw
                          case rel => exact ⟨k + 1, j + n, 0, _, _, by omega, by go_num, by rw [HJ.out], rfl, by omega, by omega, hT5⟩
                          case measure => simp [intOf]; omega
                · have he1 : (err == 0) = false := by simpa using hez
                  have E1 := Lib.hid (show came L j err (n : Int) = [] by simp [came, hez])
                  have E2 := Lib.hid (show offTo L.length j err (n : Int) = (j, err) by simp [offTo, hez])
                  go_wp2_with fail
                  refine (refnumber_any none 0 0 [] _ rfl (by omega) (by intro q hq; cases hq) (.inl rfl)).mono ?_
                  rintro e w' ⟨he, rfl⟩
                  obtain rfl : e = .returned (.int .u64 0) := he
                  go_wp2_with fail
                  refine (raw_any hTA.r hB (by omega)).mono ?_
                  rintro e w5 ⟨v, rfl, hH, hA⟩
                  rw [E1.out] at hH
                  obtain ⟨av, cv, rfl, hLv, _, _⟩ := hH
                  have hT5 := hTA.aft hA E2.out (by omega) hTA.ht
                  clear hA hTA
                  go_wp2_with fail
                  refine (same_any _ none _ _ 0 0 [] [] _ rfl rfl (by simp) (by simp) hLv (.inl rfl)).mono ?_
                  rintro e w6 ⟨he, hD⟩
                  obtain rfl : e = .returned (.bool true) := he
                  have hT5 := hT5.step (hD.below _)
                  clear hD hLv
                  go_wp2_with fail
                  refine (left_any hT5.r).mono ?_
                  rintro e w' ⟨rfl, rfl⟩
                  go_wp2_with fail
                  refine (err_any hT5.r).mono ?_
                  rintro e w' ⟨rfl, rfl⟩
                  go_wp2
                  go_roundw
                  case rel => exact ⟨k + 1, j, err, ao, ct, by omega, by go_num, rfl, rfl, hct, hcm, hT5⟩
                  case measure => simp [intOf]; omega
              · have hkk : kd = 0 ∨ kd = 1 ∨ kd = 2 ∨ kd = 3 := by omega
                rcases hkk with rfl | rfl | rfl | rfl
                · by_cases hez : err = 0
                  · subst hez
                    by_cases hs : ((L.length - j : Nat) : Int) < 1
                    · have E1 := Lib.hid (show came L j 0 (1 : Int) = [] by unfold came; rw [if_neg (by simp), if_neg (by omega), if_pos (by omega)])
                      have E2 := Lib.hid (show offTo L.length j 0 (1 : Int) = (j, 7) by unfold offTo; rw [if_neg (by simp), if_neg (by omega), if_pos (by omega)])
                      go_wp2_with fail
                      refine (off_short _ _ _ (by omega) (by omega)).mono ?_
                      rintro e w' ⟨rfl, rfl⟩
                      go_wp2_with fail
                      refine (refnumber_any none 0 0 [] _ rfl (by omega) (by intro q hq; cases hq) (.inl rfl)).mono ?_
                      rintro e w' ⟨he, rfl⟩
                      obtain rfl : e = .returned (.int .u64 0) := he
                      go_wp2_with fail
                      refine (u8_any hTA.r hB (by omega)).mono ?_
                      rintro e w5 ⟨he, hA⟩
                      rw [E1.out] at he
                      obtain rfl : e = .returned (.int .u8 0) := he
                      have hT5 := hTA.aft hA E2.out (by omega) hTA.ht
                      clear hA hTA
                      go_wp2_with fail
                      refine (left_any hT5.r).mono ?_
                      rintro e w' ⟨rfl, rfl⟩
                      go_wp2_with fail
                      refine (err_any hT5.r).mono ?_
                      rintro e w' ⟨rfl, rfl⟩
                      go_wp2
                      go_roundw
                      case rel => exact ⟨k + 1, j, 7, ao, ct, by omega, by go_num, rfl, rfl, hct, hcm, hT5⟩
                      case measure => simp [intOf]; omega
                    · obtain ⟨c, hc⟩ : ∃ c, (L.drop j).take 1 = c := ⟨_, rfl⟩
                      have hcl : c.length = 1 := by rw [← hc, List.length_take, List.length_drop]; omega
                      have hBc : Bys c := fun q hq => hB q (List.mem_of_mem_drop (List.mem_of_mem_take (by rw [hc]; exact hq)))
                      have E1 := Lib.hid (show came L j 0 (1 : Int) = c by rw [← hc]; unfold came; rw [if_neg (by simp), if_neg (by omega), if_neg (by omega)]; rfl)
                      have E2 := Lib.hid (show offTo L.length j 0 (1 : Int) = (j + 1, 0) by unfold offTo; rw [if_neg (by simp), if_neg (by omega), if_neg (by omega)]; rfl)
                      have HJ := Lib.hid (show L.length - (j + 1) = L.length - j - 1 from by omega)
                      have HC := Lib.hid hcl
                      obtain ⟨u, hu⟩ : ∃ u, pile 0 c = u := ⟨_, rfl⟩
                      have HP := Lib.hid hu
                      have hpu : u ≤ 18446744073709551615 := by rw [← hu]; exact pile_le 0 c hBc (by omega)
                      have HS := Lib.hid (show u % 256 = u by rw [← hu]; exact pile_small c 1 hBc (by omega))
                      have hd0 : Lies w ao (L.drop j) := hTA.ht
                      have hLc : Lies w ao c := by rw [← hc]; exact hd0.take 1
                      have hLA := hLc.kept hTA.hb
                      clear hcl hc hu
                      rcases hd0.at (by rw [List.length_drop]; omega) with ⟨b', o', rfl⟩
                      by_cases hce : ct = 1
                      · subst hce
                        have hLn : Lies w (some ⟨b', o', none⟩) (L.drop (j + 1)) := .inl (List.drop_eq_nil_of_le (by omega))
                        go_wp2_with fail
                        refine (off_ok _ _ _ (by omega) (by omega)).mono ?_
                        rintro e w' ⟨rfl, rfl⟩
                        go_wp2_with fail
                        go_quiet (fail)
                        go_wp2_with fail
                        refine (refnumber_any _ _ _ c _ HC.out (by omega) hBc (by exact hLA)).mono ?_
                        rintro e w' ⟨he, rfl⟩
                        rw [HP.out] at he
                        subst he
                        go_wp2_with fail
                        refine (u8_any (hTA.r.below (Drawn.below ⟨_, rfl⟩ _)) hB (by omega)).mono ?_
                        rintro e w5 ⟨he, hA⟩
                        rw [E1.out, HP.out, HS.out] at he
                        subst he
                        have hT5 := Tk.aft (hTA.step (Drawn.below ⟨_, rfl⟩ _)) hA E2.out (by omega) hLn
                        clear hA hTA
                        go_wp2_with fail
                        refine (left_any hT5.r).mono ?_
                        rintro e w' ⟨he, rfl⟩
                        rw [HJ.out] at he
                        subst he
                        go_wp2_with fail
                        refine (err_any hT5.r).mono ?_
                        rintro e w' ⟨rfl, rfl⟩
                        go_wp2
                        go_roundw
                        case rel => exact ⟨k + 1, j + 1, 0, _, _, by omega, by go_num, by rw [show L.length - (j + 1) = 0 from by omega], rfl, by omega, by omega, hT5⟩
                        case measure => simp [intOf]; omega
                      · have hLn : Lies w (some ⟨b', o' + 1, none⟩) (L.drop (j + 1)) := by rw [← List.drop_drop]; exact hd0.dropAt 1 (by rw [List.length_drop]; omega)
                        go_wp2_with fail
                        refine (off_ok _ _ _ (by omega) (by omega)).mono ?_
                        rintro e w' ⟨rfl, rfl⟩
                        go_wp2_with fail
                        go_quiet (fail)
                        go_wp2_with fail
                        refine (refnumber_any _ _ _ c _ HC.out (by omega) hBc (by exact hLA)).mono ?_
                        rintro e w' ⟨he, rfl⟩
                        rw [HP.out] at he
                        subst he
                        go_wp2_with fail
                        refine (u8_any (hTA.r.below (Drawn.below ⟨_, rfl⟩ _)) hB (by omega)).mono ?_
                        rintro e w5 ⟨he, hA⟩
                        rw [E1.out, HP.out, HS.out] at he
                        subst he
                        have hT5 := Tk.aft (hTA.step (Drawn.below ⟨_, rfl⟩ _)) hA E2.out (by omega) hLn
                        clear hA hTA
                        go_wp2_with fail
                        refine (left_any hT5.r).mono ?_
                        rintro e w' ⟨he, rfl⟩
                        rw [HJ.out] at he
                        subst he
                        go_wp2_with fail
                        refine (err_any hT5.r).mono ?_
                        rintro e w' ⟨rfl, rfl⟩
                        go_wp2
                        go_roundw
                        case rel => exact ⟨k + 1, j + 1, 0, _, _, by omega, by go_num, by rw [HJ.out], rfl, by omega, by omega, hT5⟩
                        case measure => simp [intOf]; omega
                  · have he1 : (err == 0) = false := by simpa using hez
                    have E1 := Lib.hid (show came L j err (1 : Int) = [] by simp [came, hez])
                    have E2 := Lib.hid (show offTo L.length j err (1 : Int) = (j, err) by simp [offTo, hez])
                    go_wp2_with fail
                    refine (refnumber_any none 0 0 [] _ rfl (by omega) (by intro q hq; cases hq) (.inl rfl)).mono ?_
                    rintro e w' ⟨he, rfl⟩
                    obtain rfl : e = .returned (.int .u64 0) := he
                    go_wp2_with fail
                    refine (u8_any hTA.r hB (by omega)).mono ?_
                    rintro e w5 ⟨he, hA⟩
                    rw [E1.out] at he
                    obtain rfl : e = .returned (.int .u8 0) := he
                    have hT5 := hTA.aft hA E2.out (by omega) hTA.ht
                    clear hA hTA
                    go_wp2_with fail
                    refine (left_any hT5.r).mono ?_
                    rintro e w' ⟨rfl, rfl⟩
                    go_wp2_with fail
                    refine (err_any hT5.r).mono ?_
                    rintro e w' ⟨rfl, rfl⟩
                    go_wp2
                    go_roundw
                    case rel => exact ⟨k + 1, j, err, ao, ct, by omega, by go_num, rfl, rfl, hct, hcm, hT5⟩
                    case measure => simp [intOf]; omega
                · by_cases hez : err = 0
                  · subst hez
                    by_cases hs : ((L.length - j : Nat) : Int) < 2
                    · have E1 := Lib.hid (show came L j 0 (2 : Int) = [] by unfold came; rw [if_neg (by simp), if_neg (by omega), if_pos (by omega)])
                      have E2 := Lib.hid (show offTo L.length j 0 (2 : Int) = (j, 7) by unfold offTo; rw [if_neg (by simp), if_neg (by omega), if_pos (by omega)])
                      go_wp2_with fail
                      refine (off_short _ _ _ (by omega) (by omega)).mono ?_
                      rintro e w' ⟨rfl, rfl⟩
                      go_wp2_with fail
                      refine (refnumber_any none 0 0 [] _ rfl (by omega) (by intro q hq; cases hq) (.inl rfl)).mono ?_
                      rintro e w' ⟨he, rfl⟩
                      obtain rfl : e = .returned (.int .u64 0) := he
                      go_wp2_with fail
                      refine (u16_any hTA.r hB (by omega)).mono ?_
                      rintro e w5 ⟨he, hA⟩
                      rw [E1.out] at he
                      obtain rfl : e = .returned (.int .u16 0) := he
                      have hT5 := hTA.aft hA E2.out (by omega) hTA.ht
                      clear hA hTA
                      go_wp2_with fail
                      refine (left_any hT5.r).mono ?_
                      rintro e w' ⟨rfl, rfl⟩
                      go_wp2_with fail
                      refine (err_any hT5.r).mono ?_
                      rintro e w' ⟨rfl, rfl⟩
                      go_wp2
                      go_roundw
                      case rel => exact ⟨k + 1, j, 7, ao, ct, by omega, by go_num, rfl, rfl, hct, hcm, hT5⟩
                      case measure => simp [intOf]; omega
                    · obtain ⟨c, hc⟩ : ∃ c, (L.drop j).take 2 = c := ⟨_, rfl⟩
                      have hcl : c.length = 2 := by rw [← hc, List.length_take, List.length_drop]; omega
                      have hBc : Bys c := fun q hq => hB q (List.mem_of_mem_drop (List.mem_of_mem_take (by rw [hc]; exact hq)))
                      have E1 := Lib.hid (show came L j 0 (2 : Int) = c by rw [← hc]; unfold came; rw [if_neg (by simp), if_neg (by omega), if_neg (by omega)]; rfl)
                      have E2 := Lib.hid (show offTo L.length j 0 (2 : Int) = (j + 2, 0) by unfold offTo; rw [if_neg (by simp), if_neg (by omega), if_neg (by omega)]; rfl)
                      have HJ := Lib.hid (show L.length - (j + 2) = L.length - j - 2 from by omega)
                      have HC := Lib.hid hcl
                      obtain ⟨u, hu⟩ : ∃ u, pile 0 c = u := ⟨_, rfl⟩
                      have HP := Lib.hid hu
                      have hpu : u ≤ 18446744073709551615 := by rw [← hu]; exact pile_le 0 c hBc (by omega)
                      have HS := Lib.hid (show u % 65536 = u by rw [← hu]; exact pile_small c 2 hBc (by omega))
                      have hd0 : Lies w ao (L.drop j) := hTA.ht
                      have hLc : Lies w ao c := by rw [← hc]; exact hd0.take 2
                      have hLA := hLc.kept hTA.hb
                      clear hcl hc hu
                      rcases hd0.at (by rw [List.length_drop]; omega) with ⟨b', o', rfl⟩
                      by_cases hce : ct = 2
                      · subst hce
                        have hLn : Lies w (some ⟨b', o', none⟩) (L.drop (j + 2)) := .inl (List.drop_eq_nil_of_le (by omega))
                        go_wp2_with fail
                        refine (off_ok _ _ _ (by omega) (by omega)).mono ?_
                        rintro e w' ⟨rfl, rfl⟩
                        go_wp2_with fail
                        go_quiet (fail)
                        go_wp2_with fail
                        refine (refnumber_any _ _ _ c _ HC.out (by omega) hBc (by exact hLA)).mono ?_
                        rintro e w' ⟨he, rfl⟩
                        rw [HP.out] at he
                        subst he
                        go_wp2_with fail
                        refine (u16_any (hTA.r.below (Drawn.below ⟨_, rfl⟩ _)) hB (by omega)).mono ?_
                        rintro e w5 ⟨he, hA⟩
                        rw [E1.out, HP.out, HS.out] at he
                        subst he
                        have hT5 := Tk.aft (hTA.step (Drawn.below ⟨_, rfl⟩ _)) hA E2.out (by omega) hLn
                        clear hA hTA
                        go_wp2_with fail
                        refine (left_any hT5.r).mono ?_
                        rintro e w' ⟨he, rfl⟩
                        rw [HJ.out] at he
                        subst he
                        go_wp2_with fail
                        refine (err_any hT5.r).mono ?_
                        rintro e w' ⟨rfl, rfl⟩
                        go_wp2
                        go_roundw
                        case rel => exact ⟨k + 1, j + 2, 0, _, _, by omega, by go_num, by rw [show L.length - (j + 2) = 0 from by omega], rfl, by omega, by omega, hT5⟩
                        case measure => simp [intOf]; omega
                      · have hLn : Lies w (some ⟨b', o' + 2, none⟩) (L.drop (j + 2)) := by rw [← List.drop_drop]; exact hd0.dropAt 2 (by rw [List.length_drop]; omega)
                        go_wp2_with fail
                        refine (off_ok _ _ _ (by omega) (by omega)).mono ?_
                        rintro e w' ⟨rfl, rfl⟩
                        go_wp2_with fail
                        go_quiet (fail)
                        go_wp2_with fail
                        refine (refnumber_any _ _ _ c _ HC.out (by omega) hBc (by exact hLA)).mono ?_
                        rintro e w' ⟨he, rfl⟩
                        rw [HP.out] at he
                        subst he
                        go_wp2_with fail
                        refine (u16_any (hTA.r.below (Drawn.below ⟨_, rfl⟩ _)) hB (by omega)).mono ?_
                        rintro e w5 ⟨he, hA⟩
                        rw [E1.out, HP.out, HS.out] at he
                        subst he
                        have hT5 := Tk.aft (hTA.step (Drawn.below ⟨_, rfl⟩ _)) hA E2.out (by omega) hLn
                        clear hA hTA
                        go_wp2_with fail
                        refine (left_any hT5.r).mono ?_
                        rintro e w' ⟨he, rfl⟩
                        rw [HJ.out] at he
                        subst he
                        go_wp2_with fail
                        refine (err_any hT5.r).mono ?_
                        rintro e w' ⟨rfl, rfl⟩
                        go_wp2
                        go_roundw
                        case rel => exact ⟨k + 1, j + 2, 0, _, _, by omega, by go_num, by rw [HJ.out], rfl, by omega, by omega, hT5⟩
                        case measure => simp [intOf]; omega
                  · have he1 : (err == 0) = false := by simpa using hez
                    have E1 := Lib.hid (show came L j err (2 : Int) = [] by simp [came, hez])
                    have E2 := Lib.hid (show offTo L.length j err (2 : Int) = (j, err) by simp [offTo, hez])
                    go_wp2_with fail
                    refine (refnumber_any none 0 0 [] _ rfl (by omega) (by intro q hq; cases hq) (.inl rfl)).mono ?_
                    rintro e w' ⟨he, rfl⟩
                    obtain rfl : e = .returned (.int .u64 0) := he
                    go_wp2_with fail
                    refine (u16_any hTA.r hB (by omega)).mono ?_
                    rintro e w5 ⟨he, hA⟩
                    rw [E1.out] at he
                    obtain rfl : e = .returned (.int .u16 0) := he
                    have hT5 := hTA.aft hA E2.out (by omega) hTA.ht
                    clear hA hTA
                    go_wp2_with fail
                    refine (left_any hT5.r).mono ?_
                    rintro e w' ⟨rfl, rfl⟩
                    go_wp2_with fail
                    refine (err_any hT5.r).mono ?_
                    rintro e w' ⟨rfl, rfl⟩
                    go_wp2
                    go_roundw
                    case rel => exact ⟨k + 1, j, err, ao, ct, by omega, by go_num, rfl, rfl, hct, hcm, hT5⟩
                    case measure => simp [intOf]; omega
                · by_cases hez : err = 0
                  · subst hez
                    by_cases hs : ((L.length - j : Nat) : Int) < 4
                    · have E1 := Lib.hid (show came L j 0 (4 : Int) = [] by unfold came; rw [if_neg (by simp), if_neg (by omega), if_pos (by omega)])
                      have E2 := Lib.hid (show offTo L.length j 0 (4 : Int) = (j, 7) by unfold offTo; rw [if_neg (by simp), if_neg (by omega), if_pos (by omega)])
                      go_wp2_with fail
                      refine (off_short _ _ _ (by omega) (by omega)).mono ?_
                      rintro e w' ⟨rfl, rfl⟩
                      go_wp2_with fail
                      refine (refnumber_any none 0 0 [] _ rfl (by omega) (by intro q hq; cases hq) (.inl rfl)).mono ?_
                      rintro e w' ⟨he, rfl⟩
                      obtain rfl : e = .returned (.int .u64 0) := he
                      go_wp2_with fail
                      refine (u32_any hTA.r hB (by omega)).mono ?_
                      rintro e w5 ⟨he, hA⟩
                      rw [E1.out] at he
                      obtain rfl : e = .returned (.int .u32 0) := he
                      have hT5 := hTA.aft hA E2.out (by omega) hTA.ht
                      clear hA hTA
                      go_wp2_with fail
                      refine (left_any hT5.r).mono ?_
                      rintro e w' ⟨rfl, rfl⟩
                      go_wp2_with fail
                      refine (err_any hT5.r).mono ?_
                      rintro e w' ⟨rfl, rfl⟩
                      go_wp2
                      go_roundw
                      case rel => exact ⟨k + 1, j, 7, ao, ct, by omega, by go_num, rfl, rfl, hct, hcm, hT5⟩
                      case measure => simp [intOf]; omega
                    · obtain ⟨c, hc⟩ : ∃ c, (L.drop j).take 4 = c := ⟨_, rfl⟩
                      have hcl : c.length = 4 := by rw [← hc, List.length_take, List.length_drop]; omega
                      have hBc : Bys c := fun q hq => hB q (List.mem_of_mem_drop (List.mem_of_mem_take (by rw [hc]; exact hq)))
                      have E1 := Lib.hid (show came L j 0 (4 : Int) = c by rw [← hc]; unfold came; rw [if_neg (by simp), if_neg (by omega), if_neg (by omega)]; rfl)
                      have E2 := Lib.hid (show offTo L.length j 0 (4 : Int) = (j + 4, 0) by unfold offTo; rw [if_neg (by simp), if_neg (by omega), if_neg (by omega)]; rfl)
                      have HJ := Lib.hid (show L.length - (j + 4) = L.length - j - 4 from by omega)
                      have HC := Lib.hid hcl
                      obtain ⟨u, hu⟩ : ∃ u, pile 0 c = u := ⟨_, rfl⟩
                      have HP := Lib.hid hu
                      have hpu : u ≤ 18446744073709551615 := by rw [← hu]; exact pile_le 0 c hBc (by omega)
                      have HS := Lib.hid (show u % 4294967296 = u by rw [← hu]; exact pile_small c 4 hBc (by omega))
                      have hd0 : Lies w ao (L.drop j) := hTA.ht
                      have hLc : Lies w ao c := by rw [← hc]; exact hd0.take 4
                      have hLA := hLc.kept hTA.hb
                      clear hcl hc hu
                      rcases hd0.at (by rw [List.length_drop]; omega) with ⟨b', o', rfl⟩
                      by_cases hce : ct = 4
                      · subst hce
                        have hLn : Lies w (some ⟨b', o', none⟩) (L.drop (j + 4)) := .inl (List.drop_eq_nil_of_le (by omega))
                        go_wp2_with fail
                        refine (off_ok _ _ _ (by omega) (by omega)).mono ?_
                        rintro e w' ⟨rfl, rfl⟩
                        go_wp2_with fail
                        go_quiet (fail)
                        go_wp2_with fail
                        refine (refnumber_any _ _ _ c _ HC.out (by omega) hBc (by exact hLA)).mono ?_
                        rintro e w' ⟨he, rfl⟩
                        rw [HP.out] at he
                        subst he
                        go_wp2_with fail
                        refine (u32_any (hTA.r.below (Drawn.below ⟨_, rfl⟩ _)) hB (by omega)).mono ?_
                        rintro e w5 ⟨he, hA⟩
                        rw [E1.out, HP.out, HS.out] at he
                        subst he
                        have hT5 := Tk.aft (hTA.step (Drawn.below ⟨_, rfl⟩ _)) hA E2.out (by omega) hLn
                        clear hA hTA
                        go_wp2_with fail
                        refine (left_any hT5.r).mono ?_
                        rintro e w' ⟨he, rfl⟩
                        rw [HJ.out] at he
                        subst he
                        go_wp2_with fail
                        refine (err_any hT5.r).mono ?_
                        rintro e w' ⟨rfl, rfl⟩
                        go_wp2
                        go_roundw
                        case rel => exact ⟨k + 1, j + 4, 0, _, _, by omega, by go_num, by rw [show L.length - (j + 4) = 0 from by omega], rfl, by omega, by omega, hT5⟩
                        case measure => simp [intOf]; omega
                      · have hLn : Lies w (some ⟨b', o' + 4, none⟩) (L.drop (j + 4)) := by rw [← List.drop_drop]; exact hd0.dropAt 4 (by rw [List.length_drop]; omega)
                        go_wp2_with fail
                        refine (off_ok _ _ _ (by omega) (by omega)).mono ?_
                        rintro e w' ⟨rfl, rfl⟩
                        go_wp2_with fail
                        go_quiet (fail)
                        go_wp2_with fail
                        refine (refnumber_any _ _ _ c _ HC.out (by omega) hBc (by exact hLA)).mono ?_
                        rintro e w' ⟨he, rfl⟩
                        rw [HP.out] at he
                        subst he
                        go_wp2_with fail
                        refine (u32_any (hTA.r.below (Drawn.below ⟨_, rfl⟩ _)) hB (by omega)).mono ?_
                        rintro e w5 ⟨he, hA⟩
                        rw [E1.out, HP.out, HS.out] at he
                        subst he
                        have hT5 := Tk.aft (hTA.step (Drawn.below ⟨_, rfl⟩ _)) hA E2.out (by omega) hLn
                        clear hA hTA
                        go_wp2_with fail
                        refine (left_any hT5.r).mono ?_
                        rintro e w' ⟨he, rfl⟩
                        rw [HJ.out] at he
                        subst he
                        go_wp2_with fail
                        refine (err_any hT5.r).mono ?_
                        rintro e w' ⟨rfl, rfl⟩
                        go_wp2
                        go_roundw
                        case rel => exact ⟨k + 1, j + 4, 0, _, _, by omega, by go_num, by rw [HJ.out], rfl, by omega, by omega, hT5⟩
                        case measure => simp [intOf]; omega
                  · have he1 : (err == 0) = false := by simpa using hez
                    have E1 := Lib.hid (show came L j err (4 : Int) = [] by simp [came, hez])
                    have E2 := Lib.hid (show offTo L.length j err (4 : Int) = (j, err) by simp [offTo, hez])
                    go_wp2_with fail
                    refine (refnumber_any none 0 0 [] _ rfl (by omega) (by intro q hq; cases hq) (.inl rfl)).mono ?_
                    rintro e w' ⟨he, rfl⟩
                    obtain rfl : e = .returned (.int .u64 0) := he
                    go_wp2_with fail
                    refine (u32_any hTA.r hB (by omega)).mono ?_
                    rintro e w5 ⟨he, hA⟩
                    rw [E1.out] at he
                    obtain rfl : e = .returned (.int .u32 0) := he
                    have hT5 := hTA.aft hA E2.out (by omega) hTA.ht
                    clear hA hTA
                    go_wp2_with fail
                    refine (left_any hT5.r).mono ?_
                    rintro e w' ⟨rfl, rfl⟩
                    go_wp2_with fail
                    refine (err_any hT5.r).mono ?_
                    rintro e w' ⟨rfl, rfl⟩
                    go_wp2
                    go_roundw
                    case rel => exact ⟨k + 1, j, err, ao, ct, by omega, by go_num, rfl, rfl, hct, hcm, hT5⟩
                    case measure => simp [intOf]; omega
                · by_cases hez : err = 0
                  · subst hez
                    by_cases hs : ((L.length - j : Nat) : Int) < 8
                    · have E1 := Lib.hid (show came L j 0 (8 : Int) = [] by unfold came; rw [if_neg (by simp), if_neg (by omega), if_pos (by omega)])
                      have E2 := Lib.hid (show offTo L.length j 0 (8 : Int) = (j, 7) by unfold offTo; rw [if_neg (by simp), if_neg (by omega), if_pos (by omega)])
                      go_wp2_with fail
                      refine (off_short _ _ _ (by omega) (by omega)).mono ?_
                      rintro e w' ⟨rfl, rfl⟩
                      go_wp2_with fail
                      refine (refnumber_any none 0 0 [] _ rfl (by omega) (by intro q hq; cases hq) (.inl rfl)).mono ?_
                      rintro e w' ⟨he, rfl⟩
                      obtain rfl : e = .returned (.int .u64 0) := he
                      go_wp2_with fail
                      refine (u64_any hTA.r hB (by omega)).mono ?_
                      rintro e w5 ⟨he, hA⟩
                      rw [E1.out] at he
                      obtain rfl : e = .returned (.int .u64 0) := he
                      have hT5 := hTA.aft hA E2.out (by omega) hTA.ht
                      clear hA hTA
                      go_wp2_with fail
                      refine (left_any hT5.r).mono ?_
                      rintro e w' ⟨rfl, rfl⟩
                      go_wp2_with fail
                      refine (err_any hT5.r).mono ?_
                      rintro e w' ⟨rfl, rfl⟩
                      go_wp2
                      go_roundw
                      case rel => exact ⟨k + 1, j, 7, ao, ct, by omega, by go_num, rfl, rfl, hct, hcm, hT5⟩
                      case measure => simp [intOf]; omega
                    · obtain ⟨c, hc⟩ : ∃ c, (L.drop j).take 8 = c := ⟨_, rfl⟩
                      have hcl : c.length = 8 := by rw [← hc, List.length_take, List.length_drop]; omega
                      have hBc : Bys c := fun q hq => hB q (List.mem_of_mem_drop (List.mem_of_mem_take (by rw [hc]; exact hq)))
                      have E1 := Lib.hid (show came L j 0 (8 : Int) = c by rw [← hc]; unfold came; rw [if_neg (by simp), if_neg (by omega), if_neg (by omega)]; rfl)
                      have E2 := Lib.hid (show offTo L.length j 0 (8 : Int) = (j + 8, 0) by unfold offTo; rw [if_neg (by simp), if_neg (by omega), if_neg (by omega)]; rfl)
                      have HJ := Lib.hid (show L.length - (j + 8) = L.length - j - 8 from by omega)
                      have HC := Lib.hid hcl
                      obtain ⟨u, hu⟩ : ∃ u, pile 0 c = u := ⟨_, rfl⟩
                      have HP := Lib.hid hu
                      have hpu : u ≤ 18446744073709551615 := by rw [← hu]; exact pile_le 0 c hBc (by omega)
                      have hd0 : Lies w ao (L.drop j) := hTA.ht
                      have hLc : Lies w ao c := by rw [← hc]; exact hd0.take 8
                      have hLA := hLc.kept hTA.hb
                      clear hcl hc hu
                      rcases hd0.at (by rw [List.length_drop]; omega) with ⟨b', o', rfl⟩
                      by_cases hce : ct = 8
                      · subst hce
                        have hLn : Lies w (some ⟨b', o', none⟩) (L.drop (j + 8)) := .inl (List.drop_eq_nil_of_le (by omega))
                        go_wp2_with fail
                        refine (off_ok _ _ _ (by omega) (by omega)).mono ?_
                        rintro e w' ⟨rfl, rfl⟩
                        go_wp2_with fail
                        go_quiet (fail)
                        go_wp2_with fail
                        refine (refnumber_any _ _ _ c _ HC.out (by omega) hBc (by exact hLA)).mono ?_
                        rintro e w' ⟨he, rfl⟩
                        rw [HP.out] at he
                        subst he
                        go_wp2_with fail
                        refine (u64_any (hTA.r.below (Drawn.below ⟨_, rfl⟩ _)) hB (by omega)).mono ?_
                        rintro e w5 ⟨he, hA⟩
                        rw [E1.out, HP.out] at he
                        subst he
                        have hT5 := Tk.aft (hTA.step (Drawn.below ⟨_, rfl⟩ _)) hA E2.out (by omega) hLn
                        clear hA hTA
                        go_wp2_with fail
                        refine (left_any hT5.r).mono ?_
                        rintro e w' ⟨he, rfl⟩
                        rw [HJ.out] at he
                        subst he
                        go_wp2_with fail
                        refine (err_any hT5.r).mono ?_
                        rintro e w' ⟨rfl, rfl⟩
                        go_wp2
                        go_roundw
                        case rel => exact ⟨k + 1, j + 8, 0, _, _, by omega, by go_num, by rw [show L.length - (j + 8) = 0 from by omega], rfl, by omega, by omega, hT5⟩
                        case measure => simp [intOf]; omega
                      · have hLn : Lies w (some ⟨b', o' + 8, none⟩) (L.drop (j + 8)) := by rw [← List.drop_drop]; exact hd0.dropAt 8 (by rw [List.length_drop]; omega)
                        go_wp2_with fail
                        refine (off_ok _ _ _ (by omega) (by omega)).mono ?_
                        rintro e w' ⟨rfl, rfl⟩
                        go_wp2_with fail
                        go_quiet (fail)
                        go_wp2_with fail
                        refine (refnumber_any _ _ _ c _ HC.out (by omega) hBc (by exact hLA)).mono ?_
                        rintro e w' ⟨he, rfl⟩
                        rw [HP.out] at he
                        subst he
                        go_wp2_with fail
                        refine (u64_any (hTA.r.below (Drawn.below ⟨_, rfl⟩ _)) hB (by omega)).mono ?_
                        rintro e w5 ⟨he, hA⟩
                        rw [E1.out, HP.out] at he
                        subst he
                        have hT5 := Tk.aft (hTA.step (Drawn.below ⟨_, rfl⟩ _)) hA E2.out (by omega) hLn
                        clear hA hTA
                        go_wp2_with fail
                        refine (left_any hT5.r).mono ?_
                        rintro e w' ⟨he, rfl⟩
                        rw [HJ.out] at he
                        subst he
                        go_wp2_with fail
                        refine (err_any hT5.r).mono ?_
                        rintro e w' ⟨rfl, rfl⟩
                        go_wp2
                        go_roundw
                        case rel => exact ⟨k + 1, j + 8, 0, _, _, by omega, by go_num, by rw [HJ.out], rfl, by omega, by omega, hT5⟩
                        case measure => simp [intOf]; omega
                  · have he1 : (err == 0) = false := by simpa using hez
                    have E1 := Lib.hid (show came L j err (8 : Int) = [] by simp [came, hez])
                    have E2 := Lib.hid (show offTo L.length j err (8 : Int) = (j, err) by simp [offTo, hez])
                    go_wp2_with fail
                    refine (refnumber_any none 0 0 [] _ rfl (by omega) (by intro q hq; cases hq) (.inl rfl)).mono ?_
                    rintro e w' ⟨he, rfl⟩
                    obtain rfl : e = .returned (.int .u64 0) := he
                    go_wp2_with fail
                    refine (u64_any hTA.r hB (by omega)).mono ?_
                    rintro e w5 ⟨he, hA⟩
                    rw [E1.out] at he
                    obtain rfl : e = .returned (.int .u64 0) := he
                    have hT5 := hTA.aft hA E2.out (by omega) hTA.ht
                    clear hA hTA
                    go_wp2_with fail
                    refine (left_any hT5.r).mono ?_
                    rintro e w' ⟨rfl, rfl⟩
                    go_wp2_with fail
                    refine (err_any hT5.r).mono ?_
                    rintro e w' ⟨rfl, rfl⟩
                    go_wp2
                    go_roundw
                    case rel => exact ⟨k + 1, j, err, ao, ct, by omega, by go_num, rfl, rfl, hct, hcm, hT5⟩
                    case measure => simp [intOf]; omega
          · obtain rfl : len1 = k := by omega
            have hb := hT.hb
            clear hT
            go_wp2_with fail
            refine (err_nil _).mono ?_
            rintro e w' ⟨rfl, rfl⟩
            go_wp2_with fail
            refine (left_nil _).mono ?_
            rintro e w' ⟨rfl, rfl⟩
            go_wp2_with fail
            refine (u8_nil).mono ?_
            rintro e wa ⟨rfl, ha⟩
            have hba := hb.trans (ha.mono hb.size)
            clear ha hb
            go_wp2_with fail
            refine (u16_nil).mono ?_
            rintro e wb ⟨rfl, hb⟩
            have hbb := hba.trans (hb.mono hba.size)
            clear hb hba
            go_wp2_with fail
            refine (u32_nil).mono ?_
            rintro e wc ⟨rfl, hc⟩
            have hbc := hbb.trans (hc.mono hbb.size)
            clear hc hbb
            go_wp2_with fail
            refine (u64_nil).mono ?_
            rintro e wd ⟨rfl, hd⟩
            have hbd := hbc.trans (hd.mono hbc.size)
            clear hd hbc
            go_wp2_with fail
            refine (raw_nil).mono ?_
            rintro e we ⟨rfl, he⟩
            have hbe := hbd.trans (he.mono hbd.size)
            clear he hbd
            go_wp2
            go_ret
            exact ⟨rfl, hbe⟩
end Go.Proofs.Ytgofnoakgigjbaa
