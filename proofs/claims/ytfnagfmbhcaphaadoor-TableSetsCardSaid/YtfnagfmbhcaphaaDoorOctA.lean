/-
  Words for rows of bytes, and the contracts of octet.Bit and of the reference's Bit, Same, Both, over one translation. Nothing here is a statement of the document.
-/
import Derived.Test.YtfnagfmbhcaphaaDoorRows
import Derived.WalkKit
import Derived.ProofKit
import Derived.Lib.Hide
import Derived.Outline
import Derived.Laws.BitsAllLaws
namespace Go.Proofs.YtfnagfmbhcaphaaDoor
open Go.RowKit
set_option linter.unusedVariables false

/-- Numbers that are bytes. -/
def Bys (l : List Nat) : Prop := ∀ n ∈ l, n < 256

/-- At this address these bytes lie; of none no cell is asked. -/
def Lies (w : World) (a : Option Addr) (l : List Nat) : Prop :=
  l = [] ∨ ∃ b off, a = some ⟨b, off, none⟩ ∧ b < w.heap.size ∧ ∀ i, i < l.length → w.cell? ⟨b, off + i, none⟩ = some (.int .u8 ((l.getD i 0 : Nat) : Int))

theorem Bys.at {l : List Nat} (h : Bys l) (i : Nat) : l.getD i 0 < 256 := by
  by_cases hi : i < l.length
  · have : l.getD i 0 = l[i] := by simp [hi]
    rw [this]; exact h _ (List.getElem_mem hi)
  · have : l.getD i 0 = 0 := by simp [List.getElem?_eq_none (by omega : l.length ≤ i)]
    omega

theorem Lies.below {B : Nat} {w w' : World} {a : Option Addr} {l : List Nat} (h : Lies w a l) (hb : Below B w w') (ha : ∀ x, a = some x → x.block < B) : Lies w' a l := by
  rcases h with h | ⟨b, off, rfl, hlt, hc⟩
  · exact .inl h
  · exact .inr ⟨b, off, rfl, Nat.lt_of_lt_of_le hlt hb.size, fun i hi => (hb.cell (p := ⟨b, off + i, none⟩) (ha ⟨b, off, none⟩ rfl)).trans (hc i hi)⟩

/-- Is the bit k of these bytes, as they go on the wire, 1? -/
def bitB (l : List Nat) (k : Int) : Bool :=
  decide (0 ≤ k) && (decide (k.toNat / 8 < l.length) && (l.getD (l.length - 1 - k.toNat / 8) 0 / 2 ^ (k.toNat % 8) % 2 == 1))

theorem bitB_neg {l : List Nat} {k : Int} (h : k < 0) : bitB l k = false := by
  have : decide (0 ≤ k) = false := by simp; omega
  rw [bitB, this]; rfl
theorem bitB_none {l : List Nat} {k : Int} (h : l.length ≤ k.toNat / 8) : bitB l k = false := by
  have : decide (k.toNat / 8 < l.length) = false := by simp; omega
  rw [bitB, this]; simp
theorem bitB_some {l : List Nat} {k : Nat} (h : k / 8 < l.length) : bitB l (k : Int) = (l.getD (l.length - 1 - k / 8) 0 / 2 ^ (k % 8) % 2 == 1) := by
  have h0 : decide ((0 : Int) ≤ (k : Int)) = true := by simp
  have h1 : decide ((k : Int).toNat / 8 < l.length) = true := by simpa using h
  rw [bitB, h0, h1]; simp

theorem mask_u8 (x i : Nat) (hx : x < 256) : (bits .and .u8 ((x : Int) / 2 ^ i) 1 == 1) = (x / 2 ^ i % 2 == 1) := by
  have hd : x / 2 ^ i < 256 := Nat.lt_of_le_of_lt (Nat.div_le_self _ _) hx
  have e := u8_and_nat (x / 2 ^ i) 1 hd (by omega)
  have e2 : ((x / 2 ^ i : Nat) : Int) = (x : Int) / 2 ^ i := by simp
  rw [e2] at e
  have e1 : ((1 : Nat) : Int) = 1 := rfl
  rw [e1] at e
  rw [e, Nat.and_one_is_mod]
  rw [Bool.eq_iff_iff]; simp; omega

end Go.Proofs.YtfnagfmbhcaphaaDoor
