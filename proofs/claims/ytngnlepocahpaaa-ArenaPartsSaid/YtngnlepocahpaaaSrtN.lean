/-
  Blocks, put in order, are all words: the contract of the law's own 'parted', where block stands behind block. Nothing here is a statement of the document.
-/
import Derived.Test.YtngnlepocahpaaaSrtM
import Derived.Test.YtngnlepocahpaaaArnQ
import Derived.Laws.AppendOwnNone
namespace Go.Proofs.Ytngnlepocahpaaa
open Go.RowKit Go.Shelf
set_option linter.unusedVariables false

/-! ### What is in order is the chain -/
/-- Each block's place is above those ahead of it. -/
theorem chain_up {ws : List Nat} : ∀ {B : List Bl} {a0 : Nat}, Chain ws a0 B → (∀ b ∈ B, a0 < b.x) ∧ B.Pairwise (fun a b => a.x < b.x)
  | [], _, _ => ⟨fun b hb => by simp at hb, List.Pairwise.nil⟩
  | c :: r, a0, h => by
    obtain ⟨h1, h2, h3, h4, h5⟩ := h
    obtain ⟨g1, g2⟩ := chain_up h5
    have hp : 1 ≤ 2 ^ c.c := (pow5 h2).1
    refine ⟨fun b hb => ?_, List.Pairwise.cons (fun b hb => ?_) g2⟩
    · rcases List.mem_cons.1 hb with rfl | hb
      · omega
      · have := g1 b hb; omega
    · have := g1 b hb; omega
theorem chain_top {ws : List Nat} {B : List Bl} {a0 : Nat} (h : Chain ws a0 B) (h0 : 16 ≤ a0) {b : Bl} (hb : b ∈ B) : b.x ≤ ws.getD 15 0 := by
  obtain ⟨k, hk⟩ := List.mem_iff_getElem?.1 hb
  have := (chain_get h h0 hk).2.2.2.1
  exact Nat.le_trans (Nat.le_add_right _ _) this
theorem ofT_perm (B : List Bl) : (ofT true B ++ ofT false B).Perm B := by
  have h := List.filter_append_perm (fun b : Bl => b.t == true) B
  have e : (fun b : Bl => !(b.t == true)) = fun b : Bl => b.t == false := by funext b; cases b.t <;> rfl
  unfold ofT
  rw [← e]
  exact h
theorem in_order {ws : List Nat} {B D : List Bl} {a0 : Nat} (h : Chain ws a0 B) (hp : D.Perm B) (hs : ∀ i j (hi : i < D.length) (hj : j < D.length), i < j → D[i].x ≤ D[j].x) : D = B := by
  obtain ⟨_, hw⟩ := chain_up h
  have hinj : ∀ a ∈ B, ∀ b ∈ B, a.x = b.x → a = b := by
    intro a ha b hb hab
    obtain ⟨i, hi, rfl⟩ := List.mem_iff_getElem.1 ha
    obtain ⟨j, hj, rfl⟩ := List.mem_iff_getElem.1 hb
    rcases Nat.lt_trichotomy i j with hij | hij | hij
    · have := List.pairwise_iff_getElem.1 hw i j hi hj hij; omega
    · subst hij; rfl
    · have := List.pairwise_iff_getElem.1 hw j i hj hi hij; omega
  refine List.Perm.eq_of_pairwise (le := fun a b : Bl => a.x ≤ b.x) (fun a b ha hb h1 h2 => hinj a (hp.mem_iff.1 ha) b hb (by omega)) ?_ (hw.imp fun h => Nat.le_of_lt h) hp
  exact List.pairwise_iff_getElem.2 fun i j hi hj hij => hs i j hi hj hij

/-! ### Nothing to put in order -/
theorem insertion_none (cap : Nat) (w : World) : Calls Try.prog 95 #[.slice none 0 cap, .int .i64 0, .int .i64 0, cmpF] w fun e w' => e = .returned (.tuple #[]) ∧ w' = w := by
  unfold cmpF
  go_enter Try.func95, Try.ntmps95
  go_wp2
  refine wp_loop_rounds 1 ?_
  rw [rounds_succ]
  go_wp2
  go_end0
  exact ⟨rfl, rfl⟩
theorem pdq_none (cap : Nat) (lim : Int) (w : World) : Calls Try.prog 81 #[.slice none 0 cap, .int .i64 0, .int .i64 0, .int .i64 lim, cmpF] w fun e w' => e = .returned (.tuple #[]) ∧ w' = w := by
  have hi := fun w => insertion_none cap w
  unfold cmpF at *
  go_enter Try.func81, Try.ntmps81
  go_wp2
  refine wp_loop_rounds 1 ?_
  rw [rounds_succ]
  go_wp2_with (go_at_call 95; refine (hi _).mono ?_; rintro e w' ⟨rfl, rfl⟩)
  (try simp only [Exit.inBlock, Exit.then]); refine bodyPost_ret (results_none rfl _ _ _) rfl ?_
  exact ⟨rfl, rfl⟩
theorem sort_none (cap : Nat) (w : World) : Calls Try.prog 56 #[.slice none 0 cap, cmpF] w fun e w' => e = .returned (.tuple #[]) ∧ w' = w := by
  have hp := fun lim w => pdq_none cap lim w
  have hl : ∀ W, Calls Try.prog 82 #[.int .u64 0] W fun e w' => e = .returned (.int .i64 (Lib.bitLen 0 : Nat)) ∧ w' = W := fun W =>
    Any.bits_Len (SlLaysF0.n15.bits (P := Try.prog) (ρ := sortL_ren) { sortL with }) 0 W (by omega) (by omega)
  unfold cmpF at *
  go_enter Try.func56, Try.ntmps56
  go_wp2_with (first | (go_at_call 82; refine (hl _).mono ?_; rintro e w' ⟨rfl, rfl⟩) | (go_at_call 81; refine (hp _ _).mono ?_; rintro e w' ⟨rfl, rfl⟩))
  go_end0
  exact ⟨rfl, rfl⟩
end Go.Proofs.Ytngnlepocahpaaa
