/-
  The walk of BitmapBack. Nothing here is a statement of the document.
-/
import Derived.Test.YtcehdjpjniemjaaBmpI
import Derived.Test.YtcehdjpjniemjaaLinB
namespace Go.Proofs.Ytcehdjpjniemjaa
open Go.RowKit
set_option linter.unusedVariables false
attribute [local go_sem ↓] load_nd_rule store_nd_rule eq_nd_rule

theorem own_ge {w : World} {base : Nat} {v : Value} {n : Nat} {xs : List Value} (h : w.ownsRow base 22 1 v n xs) {k : Nat} (hk : v.ownBlock = some k) : base ≤ k := by
  rcases h.2 with ⟨rfl, _⟩ | ⟨g, cap, cur, rfl, hb, _⟩
  · cases hk
  · simp [Value.ownBlock] at hk; omega
theorem ws_row {W : World} {g : Nat} {n : Nd} (hok : n.ok) (b : Blk W g 22 n.ws) : R32 W (some ⟨g, 0, none⟩) [n.o * 65536 + n.i, n.r, n.c] := by
  have h1 := hok.1
  have h2 := hok.2.1
  refine ⟨?_, .inr ⟨g, 0, rfl, b.lt, fun i hi => ?_⟩⟩
  · intro x hx
    simp at hx
    rcases hx with rfl | rfl | rfl
    · omega
    · exact n.hr
    · exact n.hc
  · rw [Nat.zero_add, b.cell]
    match i, hi with
    | 0, _ => rfl
    | 1, _ => rfl
    | 2, _ => rfl
theorem ws_dec {n : Nd} (hok : n.ok) (l : List Nat) : DecIs ([n.o * 65536 + n.i, n.r, n.c] ++ l) n 0 := by
  have h1 := hok.1
  have h2 := hok.2.1
  have e : ndOf (n.o * 65536 + n.i) n.r n.c (by omega) n.hr n.hc = n := by
    obtain ⟨i, o, r, c, _, _, _, _⟩ := n
    have h1 : i < 32768 := h1
    have h2 : o < 65536 := h2
    have e1 : (o * 65536 + i) % 65536 = i := by omega
    have e2 : (o * 65536 + i) / 65536 = o := by omega
    simp only [ndOf, e1, e2]
  refine .inr ⟨by simp, by show n.o * 65536 + n.i < _; omega, n.hr, n.hc, .inl ⟨?_, ?_, rfl⟩⟩
  · show (ndOf (n.o * 65536 + n.i) n.r n.c _ _ _).ok
    rw [e]; exact hok
  · exact e.symm

set_option maxRecDepth 100000 in
set_option maxHeartbeats 4000000 in
theorem back_walk (n : Nd) (a : Option Addr) (len cap : Nat) (l : List Nat) (hl : l.length = len) (hlm : len ≤ 9223372036854775807) (w : World) (hR : R32 w a l) (hcap : a = none → cap = 0) :
    Calls Try.prog 5 #[.agg n.cs, .slice a len cap] w fun e w' => e = .returned (.bool true) ∧ Below w.heap.size w w' := by
  obtain ⟨W1, hW1⟩ : ∃ W1, w.alloc (.cells n.cs 24) = W1 := ⟨_, rfl⟩
  have hb1 : Below w.heap.size w W1 := by rw [← hW1]; exact below_alloc w _
  have b1 : Blk W1 w.heap.size 24 n.cs := by rw [← hW1]; exact Blk.new w _ _
  have LT : ∀ W, Below W1.heap.size W1 W → (loadSem 24 (.pointer (some ⟨w.heap.size, 0, none⟩))).run Try.prog W = .ok (.agg n.cs) W := fun W h => ld_nd ((h.block _ b1.lt).trans b1)
  have HRR : ∀ W, Below W1.heap.size W1 W → R32 W a l := fun W h => (hR.later hb1).later h
  have s1 : w.heap.size < W1.heap.size := b1.lt

  have HL := Lib.hid hl
  have HB1 := Lib.hid hb1
  have HS := Lib.hid s1
  have H1 := Lib.hid hR.1
  have HC := Lib.hid hcap
  clear hl hb1 b1 s1 hR hcap
  by_cases h100 : 100 < len
  · have d1 : decide ((100 : Int) < (len : Int)) = true := by simp; omega
    have d2 : decide (100 < len) = true := by simp; omega
    go_enter Try.func5, Try.ntmps5
    go_wp2_with (go_at_call 7; refine (wakes7_any _).mono ?_; rintro e w2 ⟨rfl, hb2⟩)
    go_ret
    exact ⟨rfl, bel_tr HB1.out hb2⟩
  · have d1 : decide ((100 : Int) < (len : Int)) = false := by simp; omega
    have d2 : decide (100 < len) = false := by simp; omega
    by_cases hok : n.ok
    · have hE : ∀ W, Calls Try.prog 10 #[.agg n.cs] W fun e w' => e = .returned (.tuple #[.slice (some ⟨W.heap.size + 2, 0, none⟩) 3 3, .int .i64 0]) ∧ Blk w' (W.heap.size + 2) 22 n.ws ∧ Below W.heap.size W w' := fun W =>
        (nenc_any n W).mono fun e w' h => ⟨(h.1 hok).1, (h.1 hok).2, h.2.2⟩
      have hD := Lib.hid (ws_dec hok l)
      have hO := Lib.hid hok
      have hbd : ∀ x ∈ [n.o * 65536 + n.i, n.r, n.c] ++ l, x < 4294967296 := by
        intro x hx
        have h1 := hok.1
        have h2 := hok.2.1
        have h3 := n.hr
        have h4 := n.hc
        simp at hx
        rcases hx with rfl | rfl | rfl | hx
        · omega
        · exact h3
        · exact h4
        · exact H1.out x hx
      have hBD := Lib.hid hbd
      clear hok hbd
      go_enter Try.func5, Try.ntmps5
      go_wp2_with fail
      refine (wakes7_any _).mono ?_
      rintro e w2 ⟨rfl, hb2⟩
      have lt2 := LT w2 hb2
      go_wp2_with fail
      refine (hE w2).mono ?_
      rintro e w3 ⟨rfl, bws, hb3⟩
      have hB3 := bel_tr hb2 hb3
      have RW : ∀ W, Below w3.heap.size w3 W → R32 W (some ⟨w2.heap.size + 2, 0, none⟩) [n.o * 65536 + n.i, n.r, n.c] := fun W h => (ws_row hO.out bws).later h
      have hb33 : Below w3.heap.size w3 w3 := Below.refl _ _
      clear hb3 bws hE
      go_wp2_with (at_builtin; refine wpList_append_32 (w := World.alloc _ _) rfl _ _ rfl w3.heap.size _ _ _ rfl (World.ownsRow_made _ #[] 0 (Nat.le_refl _) (Nat.zero_le _) rfl) (some ⟨w2.heap.size + 2, 0, none⟩) 3 3 [n.o * 65536 + n.i, n.r, n.c] rfl rfl (RW _ (bel_al hb33 _)) (fun h => by cases h) (by omega) (by simp) ?_)
      intro v4 w4 hown hgrow
      have hown : w4.ownsRow w3.heap.size 22 1 v4 3 ([n.o * 65536 + n.i, n.r, n.c].map w32) := by simpa using hown
      have hb4 : Below w3.heap.size w3 w4 := (bel_al hb33 _).grown hgrow (by simp) (by intro k hk; simp [Value.ownBlock] at hk; omega)
      have hB4 := bel_tr hB3 hb4
      go_wp2_with (at_builtin; refine wpList_append_32 rfl _ _ rfl w3.heap.size _ _ _ rfl hown a len cap l HL.out rfl (HRR _ hB4) HC.out (by omega) hb4.size ?_)
      intro v5 w5 hown5 hgrow5
      have hb5 : Below w3.heap.size w3 w5 := hb4.grown hgrow5 hb4.size (by intro k hk; exact own_ge hown hk)
      have hB5 := bel_tr hB3 hb5
      have hown5 : w5.ownsRow w3.heap.size 22 1 v5 (3 + len) (([n.o * 65536 + n.i, n.r, n.c] ++ l).map w32) := by simpa using hown5
      obtain ⟨a', cap', rfl, hl5, hR5, _, _⟩ := own_32 hown5 hBD.out
      clear hown hgrow hown5 hgrow5
      go_wp2_with fail
      refine (ndec_all hR5 hD.out (3 + len) cap' hl5 (by omega)).mono ?_
      rintro e w6 ⟨rfl, hb6⟩
      have hB6 := bel_tr hB5 hb6
      have s6 := st_new n w6
      obtain ⟨w7, hw7⟩ : ∃ w7, w6.alloc (.cells n.cs 24) = w7 := ⟨_, rfl⟩
      rw [hw7] at s6
      have b7 : Blk w7 w6.heap.size 24 n.cs := by rw [← hw7]; exact Blk.new w6 _ _
      have hB7 : Below W1.heap.size W1 w7 := by rw [← hw7]; exact bel_al hB6 _
      have lx := ld_nd b7
      have lt := LT w7 hB7
      have heq := eq_nd_self n w7
      go_wp2
      go_ret
      exact ⟨rfl, bel_tr HB1.out hB7⟩
    · have hE : ∀ W, Calls Try.prog 10 #[.agg n.cs] W fun e w' => e = .returned (.tuple #[.slice none 0 0, .int .i64 170]) ∧ Below W.heap.size W w' := fun W =>
        (nenc_any n W).mono fun e w' h => ⟨h.2.1 hok, h.2.2⟩
      clear hok
      go_enter Try.func5, Try.ntmps5
      go_wp2_with fail
      refine (wakes7_any _).mono ?_
      rintro e w2 ⟨rfl, hb2⟩
      have lt2 := LT w2 hb2
      go_wp2_with (go_at_call 10; refine (hE _).mono ?_; rintro e w3 ⟨rfl, hb3⟩)
      go_ret
      exact ⟨rfl, bel_tr HB1.out (bel_tr hb2 hb3)⟩
end Go.Proofs.Ytcehdjpjniemjaa
