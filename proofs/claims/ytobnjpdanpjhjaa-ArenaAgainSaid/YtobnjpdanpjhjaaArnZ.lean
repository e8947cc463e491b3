/-
  Contains, of a number that is not there; and rows of places of the call's own. Nothing here is a statement of the document.
-/
import Derived.Test.YtobnjpdanpjhjaaArnX
import Derived.Test.YtobnjpdanpjhjaaArnY
namespace Go.Proofs.Ytobnjpdanpjhjaa
open Go.RowKit Go.Shelf
set_option linter.unusedVariables false

set_option maxHeartbeats 1000000 in
theorem index_none (a : Option Addr) (n cap : Nat) (zs : List Int) (x : Int) {w : World} (hl : zs.length = n) (hn : n ≤ 1000) (h : Nums .i64 w a zs) (hx : x ∉ zs) :
    Calls Try.prog 73 #[.slice a n cap, .int .i64 x] w fun e w' => e = .returned (.int .i64 (-1)) ∧ w = w' := by
  have HN := Lib.hid (And.intro h (And.intro hx hl))
  clear h hx hl
  go_enter Try.func73, Try.ntmps73
  go_wp2_with fail
  go_loopw [8] (fun i wr => ∃ k : Nat, k ≤ n ∧ i = .int .i64 k ∧ wr = w) (fun i _ => n - (intOf i).toNat)
  case atStart => exact ⟨0, Nat.zero_le _, rfl, rfl⟩
  case round =>
    obtain ⟨k, hk, rfl, rfl⟩ := hrel
    by_cases hlt : k < n
    · have hki : (k : Int) < (n : Int) := by omega
      obtain ⟨b, off, rfl, hc⟩ : ∃ b off, a = some ⟨b, off, none⟩ ∧ wr.cell? ⟨b, off + k, none⟩ = some (.int .i64 (zs.getD k 0)) := by
        rcases HN.out.1 with h9 | ⟨b, off, h1, h2, h3⟩
        · have := HN.out.2.2; rw [h9] at this; simp at this; omega
        · exact ⟨b, off, h1, h3 k (by rw [HN.out.2.2]; exact hlt)⟩
      have hne : ¬ x = zs.getD k 0 := fun e => HN.out.2.1 (by
        rw [e]
        have h9 : k < zs.length := by rw [HN.out.2.2]; exact hlt
        simp [List.getD_eq_getElem?_getD, h9])
      generalize zs.getD k 0 = y at *
      have hnb : (x == y) = false := by simpa using hne
      go_wp2_with fail
      go_roundw
      case rel => exact ⟨k + 1, by omega, by go_num, trivial⟩
      case measure => simp [intOf]; omega
    · obtain rfl : k = n := by omega
      go_wp2_with fail
      go_ret
      exact ⟨rfl, rfl⟩
set_option maxHeartbeats 1000000 in
theorem contains_none (a : Option Addr) (n cap : Nat) (zs : List Int) (x : Int) {w : World} (hl : zs.length = n) (hn : n ≤ 1000) (h : Nums .i64 w a zs) (hx : x ∉ zs) :
    Calls Try.prog 32 #[.slice a n cap, .int .i64 x] w fun e w' => e = .returned (.bool false) ∧ w = w' := by
  have hi := index_none a n cap zs x hl hn h hx
  clear h hl hx
  go_enter Try.func32, Try.ntmps32
  go_wp2_with fail
  refine hi.mono ?_
  rintro e w' ⟨rfl, rfl⟩
  clear hi
  go_wp2
  go_ret
  exact ⟨rfl, rfl⟩

/-- A place as a cell. -/
def pv (b : Bl) : Value := .int .i64 (b.x : Int)
theorem i_int : (Try.prog.info? 3).map (fun i => (i.zero, i.size, i.bytes)) = some (some (.int .i64 0), 1, 8) := by kernel_rfl
theorem owns_nums {w : World} {B : Nat} {v : Value} {n : Nat} {L : List Bl} (h : w.ownsRow B 3 1 v n (L.map pv)) : ∃ a c, v = .slice a n c ∧ L.length = n ∧ Nums .i64 w a (L.map fun b => (b.x : Int)) := by
  have hn : L.length = n := by simpa using h.1
  by_cases h0 : 0 < n
  · obtain ⟨g, c, rfl, _, _, hcl⟩ := owns_cell h h0
    refine ⟨_, c, rfl, hn, .inr ⟨g, 0, rfl, (h.lt g rfl).2, fun i hi => ?_⟩⟩
    rw [Nat.zero_add]
    refine hcl i _ ?_
    simp at hi
    simp [hi, pv]
  · obtain ⟨a, c, rfl⟩ := owns_sl h
    have : L = [] := List.length_eq_zero_iff.1 (by omega)
    exact ⟨a, c, rfl, hn, .inl (by rw [this]; rfl)⟩
theorem owns_kept {w w' : World} {B : Nat} {e : TypeId} {z : Nat} {v : Value} {n : Nat} {xs : List Value} {S : List Nat} (h : w.ownsRow B e z v n xs) (k : Kept S w w') (hS : ∀ i ∈ S, i < B) : w'.ownsRow B e z v n xs := by
  refine ⟨h.1, h.2.imp id ?_⟩
  rintro ⟨g, cap, cur, h1, h2, h3, r⟩
  exact ⟨g, cap, cur, h1, h2, k.blk h3 (fun hm => by have := hS g hm; omega), r⟩
theorem Ar.appended {w w' : World} {g p q : Nat} {ws : List Nat} {bs : List Bool} {B : Nat} {e : TypeId} {z : Nat} {v : Value} {n : Nat} {xs : List Value} (h : Ar w g p q ws bs) (ho : w.ownsRow B e z v n xs) (hg : w.grownBy w' v.ownBlock) (hB : g < B ∧ p < B ∧ q < B) : Ar w' g p q ws bs := by
  cases hv : v.ownBlock with
  | none => rw [hv] at hg; exact h.kept ((Kept.refl [] _).grown hg (by simp)) (by simp) (by simp) (by simp)
  | some k =>
    rw [hv] at hg
    have := (ho.lt k hv).1
    exact h.kept ((Kept.refl [k] _).grown hg (fun j hj => by cases hj; simp)) (by simp; omega) (by simp; omega) (by simp; omega)
theorem kept_appended {w0 w w' : World} {S : List Nat} {B : Nat} {e : TypeId} {z : Nat} {v : Value} {n : Nat} {xs : List Value} (k : Kept S w0 w) (ho : w.ownsRow B e z v n xs) (hg : w.grownBy w' v.ownBlock) (hB : w0.heap.size ≤ B) : Kept S w0 w' :=
  k.grown hg fun j hj => .inr (by have := (ho.lt j hj).1; omega)
theorem lies_kept {w w' : World} {S : List Nat} {b : Nat} {l : List Nat} (h : Lies w (some ⟨b, 0, none⟩) l) (k : Kept S w w') (hb : b ∉ S) : Lies w' (some ⟨b, 0, none⟩) l := by
  rcases h with h | ⟨b', off, e, hlt, hc⟩
  · exact .inl h
  · obtain ⟨rfl, rfl⟩ : b = b' ∧ 0 = off := by injection e with e; injection e; exact ⟨by assumption, by assumption⟩
    refine .inr ⟨b, 0, rfl, Nat.lt_of_lt_of_le hlt k.size, fun i hi => ?_⟩
    rw [← hc i hi]
    have := k.block b hlt hb
    simp only [World.cell?, this]
theorem place_6 (a : Int) : ∃ k : Nat, k < 6 ∧ (IntKind.u64.wrap a).tmod 6 = (k : Int) ∧ IntKind.u64.wrap a % 6 = (k : Int) := by
  have hw : 0 ≤ IntKind.u64.wrap a := by rw [IntKind.wrap_u64]; exact Int.emod_nonneg _ (by decide)
  generalize IntKind.u64.wrap a = t at *
  refine ⟨(t % 6).toNat, by omega, ?_, by omega⟩
  rw [Int.tmod_eq_emod_of_nonneg hw]; omega
theorem half_zero (B : List Bl) : half B 0 = B.map fun b => b.mark false := by
  apply List.ext_getElem?
  intro i
  rw [half_get, List.getElem?_map]
  simp
theorem half_zero_taken (B : List Bl) : ofT true (half B 0) = [] := by
  rw [half_zero]
  unfold ofT
  simp [List.filter_eq_nil_iff, Bl.mark]
theorem half_zero_spare (B : List Bl) : ofT false (half B 0) = half B 0 := by
  rw [half_zero]
  unfold ofT
  rw [List.filter_eq_self]
  simp [Bl.mark]
end Go.Proofs.Ytobnjpdanpjhjaa
