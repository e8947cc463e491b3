/-
  The walk of PrefixOf. Nothing here is a statement of the document.
-/
import Derived.Test.YtdbdmnahgkkjiaaDoorPfxP
namespace Go.Proofs.YtdbdmnahgkkjiaaDoor
open Go.RowKit Go.Shelf
set_option linter.unusedVariables false
attribute [local go_sem ↓] load_b16_rule store_b16_rule load_ad_rule store_ad_rule load_px_rule store_px_rule eq_b16_rule eq_ad_rule eq_px_rule build_ad_rule build_px_rule build_b16_rule

theorem of_okA {a : Ad} {n : Int} (h : okA a) (h0 : 0 ≤ n) (h1 : n ≤ (wid a.v : Int)) : ofE a n = 0 ∧ ofP a n = ⟨⟨a.v, keptB a.b n.toNat⟩, n⟩ := by
  unfold ofE ofP
  exact ⟨by rw [if_pos h, if_pos ⟨h0, h1⟩], if_pos ⟨h, h0, h1⟩⟩
theorem kept_okA {a : Ad} (h : okA a) (n : Nat) : okA ⟨a.v, keptB a.b n⟩ := ⟨h.1, fun i h1 h2 => by
  rw [bt_kept _ _ _ h2, h.2 i h1 h2, Bool.and_false]⟩
theorem of_okP {a : Ad} {n : Int} (h : okA a) (h0 : 0 ≤ n) (h1 : n ≤ (wid a.v : Int)) : okP ⟨⟨a.v, keptB a.b n.toNat⟩, n⟩ :=
  ⟨kept_okA h _, h0, h1, kept_clear _ _⟩
theorem of_has {a : Ad} {n : Int} (h : okA a) (h0 : 0 ≤ n) (h1 : n ≤ (wid a.v : Int)) : hasM ⟨⟨a.v, keptB a.b n.toNat⟩, n⟩ a := ⟨of_okP h h0 h1, h, rfl, rfl⟩
theorem of_bit {a : Ad} (h : okA a) (n : Nat) (i : Nat) (hi : i < wid a.v) : bitV ⟨a.v, keptB a.b n⟩ (i : Int) = if i < n then bitV a (i : Int) else 0 := by
  have hw := wid_le a.v
  have e1 : bitV ⟨a.v, keptB a.b n⟩ (i : Int) = btI (keptB a.b n) i := by
    unfold bitV
    rw [if_pos ⟨kept_okA h n, by omega, by exact_mod_cast hi⟩, Int.toNat_natCast]
  have e2 : bitV a (i : Int) = btI a.b i := by
    unfold bitV
    rw [if_pos ⟨h, by omega, by exact_mod_cast hi⟩, Int.toNat_natCast]
  rw [e1, e2]
  unfold btI
  rw [bt_kept _ _ _ (by omega)]
  by_cases hn : i < n
  · rw [if_pos hn, decide_eq_true hn, Bool.true_and]
  · rw [if_neg hn, decide_eq_false hn, Bool.false_and]; rfl
theorem kept_kept (b : B16) {n m : Nat} (h : n ≤ m) : keptB (keptB b m) n = keptB b n := bt_ext fun i hi => by
  rw [bt_kept _ _ _ hi, bt_kept _ _ _ hi, bt_kept _ _ _ hi]
  by_cases h1 : i < n
  · rw [decide_eq_true (show i < m by omega), Bool.true_and]
  · rw [decide_eq_false h1, Bool.false_and, Bool.false_and]
theorem of_holds {a : Ad} {n m : Int} (h : okA a) (h0 : 0 ≤ n) (h1 : n ≤ (wid a.v : Int)) (h2 : 0 ≤ m) (h3 : m ≤ (wid a.v : Int)) :
    decide (holdsM ⟨⟨a.v, keptB a.b n.toNat⟩, n⟩ ⟨⟨a.v, keptB a.b m.toNat⟩, m⟩) = decide (n ≤ m) := by
  rw [decide_eq_decide]
  constructor
  · exact fun k => k.2.1
  · intro k
    exact ⟨of_okP h h2 h3, k, of_okP h h0 h1, kept_okA h _, rfl, (kept_kept _ (by omega)).symm⟩

end Go.Proofs.YtdbdmnahgkkjiaaDoor
