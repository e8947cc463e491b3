/-
  The contracts of prefix.hasPlace, Bit, Nibble and of the reference's Bit, Nibble. Nothing here is a statement of the document.
-/
import Derived.Test.YtfnagfmbhcaphaaDoorPfxD
namespace Go.Proofs.YtfnagfmbhcaphaaDoor
open Go.RowKit Go.Shelf
set_option linter.unusedVariables false
attribute [local go_sem ↓] load_b16_rule store_b16_rule load_ad_rule store_ad_rule load_px_rule store_px_rule eq_b16_rule eq_ad_rule eq_px_rule

/-- A bit of an address; its nibble. -/
noncomputable def bitV (a : Ad) (i : Int) : Int := if okA a ∧ 0 ≤ i ∧ i < (wid a.v : Int) then btI a.b i.toNat else 0
noncomputable def nibV (a : Ad) (i : Int) : Int := 8 * bitV a (4 * i) + 4 * bitV a (4 * i + 1) + 2 * bitV a (4 * i + 2) + bitV a (4 * i + 3)
noncomputable def nibW (a : Ad) (i : Int) : Int := if 0 ≤ i ∧ i ≤ 31 then nibV a i else 0
theorem bit_and (b : B16) (i : Nat) : bits .and .u8 ((b.at (i / 8) : Int) / 2 ^ (7 - i % 8)) 1 = btI b i := by
  have hd : b.at (i / 8) / 2 ^ (7 - i % 8) < 256 := Nat.lt_of_le_of_lt (Nat.div_le_self _ _) (b.lt _)
  have e := u8_and_nat (b.at (i / 8) / 2 ^ (7 - i % 8)) 1 hd (by omega)
  have e2 : ((b.at (i / 8) / 2 ^ (7 - i % 8) : Nat) : Int) = (b.at (i / 8) : Int) / 2 ^ (7 - i % 8) := by simp
  rw [e2] at e
  have e1 : ((1 : Nat) : Int) = 1 := rfl
  rw [e1] at e
  rw [e, Nat.and_one_is_mod, bit_num]
  rfl
theorem nib_num : ∀ x, x < 256 → ∀ r, r < 2 → (x / 2 ^ (4 - r * 4)) &&& 15 = 8 * (x / 2 ^ (7 - 4 * r) % 2) + 4 * (x / 2 ^ (7 - (4 * r + 1)) % 2) + 2 * (x / 2 ^ (7 - (4 * r + 2)) % 2) + (x / 2 ^ (7 - (4 * r + 3)) % 2) := by decide +kernel
theorem nib_and (b : B16) (i : Nat) : bits .and .u8 ((b.at (i / 2) : Int) / 2 ^ (4 - i % 2 * 4)) 15 = 8 * btI b (4 * i) + 4 * btI b (4 * i + 1) + 2 * btI b (4 * i + 2) + btI b (4 * i + 3) := by
  have hd : b.at (i / 2) / 2 ^ (4 - i % 2 * 4) < 256 := Nat.lt_of_le_of_lt (Nat.div_le_self _ _) (b.lt _)
  have e := u8_and_nat (b.at (i / 2) / 2 ^ (4 - i % 2 * 4)) 15 hd (by omega)
  have e2 : ((b.at (i / 2) / 2 ^ (4 - i % 2 * 4) : Nat) : Int) = (b.at (i / 2) : Int) / 2 ^ (4 - i % 2 * 4) := by simp
  rw [e2] at e
  have e1 : ((15 : Nat) : Int) = 15 := rfl
  rw [e1] at e
  rw [e, nib_num _ (b.lt _) (i % 2) (by omega)]
  unfold btI bt
  rw [← bit_num, ← bit_num, ← bit_num, ← bit_num]
  rw [show 4 * i / 8 = i / 2 from by omega, show (4 * i + 1) / 8 = i / 2 from by omega, show (4 * i + 2) / 8 = i / 2 from by omega, show (4 * i + 3) / 8 = i / 2 from by omega]
  rw [show 4 * i % 8 = 4 * (i % 2) from by omega, show (4 * i + 1) % 8 = 4 * (i % 2) + 1 from by omega, show (4 * i + 2) % 8 = 4 * (i % 2) + 2 from by omega, show (4 * i + 3) % 8 = 4 * (i % 2) + 3 from by omega]
  omega
theorem btI_01 (b : B16) (i : Nat) : 0 ≤ btI b i ∧ btI b i ≤ 1 := by
  unfold btI
  cases bt b i <;> simp
theorem bitV_01 (a : Ad) (i : Int) : 0 ≤ bitV a i ∧ bitV a i ≤ 1 := by
  unfold bitV
  split
  · exact btI_01 _ _
  · omega
theorem ad_cell {W : World} {g : Nat} {a : Ad} (h : Blk W g 27 a.cs) (j : Nat) (hj : j < 16) : ∀ w', Below W.heap.size W w' → w'.cell? ⟨g, 1 + j, none⟩ = some (.int .u8 (a.b.at j : Int)) :=
  fun w' k => ((h.later k).cell _).trans ((a.c1 j).trans (a.b.get j hj))

end Go.Proofs.YtfnagfmbhcaphaaDoor
