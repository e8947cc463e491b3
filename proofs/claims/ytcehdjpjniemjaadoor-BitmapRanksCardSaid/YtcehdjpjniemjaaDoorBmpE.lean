/-
  How many bits are set, and the contracts of math/bits.OnesCount32, bitmap.Rank and the reference's Rank. Nothing here is a statement of the document.
-/
import Derived.Test.YtcehdjpjniemjaaDoorBmpB
import Derived.Test.YtcehdjpjniemjaaDoorLin
import Derived.Lib.BitFns
namespace Go.Proofs.YtcehdjpjniemjaaDoor
open Go.RowKit
set_option linter.unusedVariables false

set_option maxRecDepth 100000 in
set_option maxHeartbeats 1600000 in
theorem ones_walk (a b c d pa pb pc pd s2 s3 s4 : Nat) (ha : (a : Int) ≤ 255) (hb : (b : Int) ≤ 255) (hc : (c : Int) ≤ 255) (hd : (d : Int) ≤ 255) (x : Nat)
    (ea : (x : Int) / 16777216 = (a : Int)) (eb : bits .and .u32 ((x : Int) / 65536) 255 = (b : Int)) (ec : bits .and .u32 ((x : Int) / 256) 255 = (c : Int)) (ed : bits .and .u32 (x : Int) 255 = (d : Int))
    (ga : Lib.pop8 (a : Int) = (pa : Int)) (gb : Lib.pop8 (b : Int) = (pb : Int)) (gc : Lib.pop8 (c : Int) = (pc : Int)) (gd : Lib.pop8 (d : Int) = (pd : Int))
    (f2 : ((pa : Int) + pb) % 256 = (s2 : Int)) (f3 : ((s2 : Int) + pc) % 256 = (s3 : Int)) (f4 : ((s3 : Int) + pd) % 256 = (s4 : Int)) (hs : wrap64 (s4 : Int) = (s4 : Int)) (w : World) :
    Calls Tryd.prog 19 #[.int .u32 x] w fun e w' => e = .returned (.int .i64 s4) ∧ w' = w.drew := by
  have a0 : (0 : Int) ≤ (a : Int) := by omega
  have b0 : (0 : Int) ≤ (b : Int) := by omega
  have c0 : (0 : Int) ≤ (c : Int) := by omega
  have d0 : (0 : Int) ≤ (d : Int) := by omega
  go_enter Tryd.func19, Tryd.ntmps19
  simp only [List.append, Lib.fold_pop8tab]
  go_wp2_with fail
  refine wp_region_lin (fun w' => w' = w.drew) (by kernel_rfl) (by kernel_rfl) rfl ?_
  (repeat (refine lin_op (v := ?_) (by rfl) (fun w9 hS9 => ?_) ?_; rotate_left; (focus ((subst hS9; go_simp; (try go_bits)) <;> with_reducible rfl)); (try simp only [Act.put, List.setIfInBounds_toArray, List.set_cons_zero, List.set_cons_succ])))
  refine lin_nil (fun w8 hS8 => ?_)
  subst hS8
  go_wp2
  go_ret
  exact ⟨rfl, rfl⟩
end Go.Proofs.YtcehdjpjniemjaaDoor
