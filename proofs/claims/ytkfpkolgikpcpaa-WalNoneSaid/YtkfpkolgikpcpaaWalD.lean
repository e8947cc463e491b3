/-
  What filled and rows tell. Nothing here is a statement of the document.
-/
import Derived.Test.YtkfpkolgikpcpaaWalB
import Derived.Test.YtkfpkolgikpcpaaDskF
import Derived.Stop.RegionWithIn
namespace Go.Proofs.Ytkfpkolgikpcpaa
open Go.RowKit Go.Shelf
set_option linter.unusedVariables false

def rgs (first size : Nat) : Array Value := #[.int .i64 (first : Int), .int .i64 (size : Int)]
def fillE (first : Nat) (b : Bk) (k : Nat) : Value × Value := (.int .i64 ((first + k : Nat) : Int), .agg b.cs)

attribute [local go_sem ↓] load_blk_rule store_blk_rule

set_option maxRecDepth 100000 in
set_option maxHeartbeats 1000000 in
theorem filled_tells {w : World} {rb bb first size : Nat} {b : Bk} {S : List Nat} (hr : Blk w rb 64 (rgs first size)) (hb : Blk w bb 77 b.cs) (hrS : rb ∉ S) (hbS : bb ∉ S) (hm : first + size ≤ 9223372036854775807) :
    Tells 58 #[.pointer (some ⟨rb, 0, none⟩), .pointer (some ⟨bb, 0, none⟩)] S size (fillE first b) w := by
  intro l J Jx W hW hlw hl hJ hJx hY h0
  have hr1 := hW.blk hr hrS (by decide)
  have hb1 := hW.blk hb hbS (by decide)
  have hrl : rb ≠ l := by have := hr.lt; omega
  have hbl : bb ≠ l := by have := hb.lt; omega
  have hn8 : (1 : Nat) ≤ 8 := by omega
  have c1 : W.cell? ⟨rb, 1, none⟩ = some (.int .i64 (size : Int)) := hr1.cell 1
  refine callsIn_of_wp Try.func58 rfl trivial ?_ rfl
  simp only [Try.ntmps58, List.size_toArray, List.length_cons, List.length_nil, Nat.reduceAdd, Nat.reduceSub, Array.replicate_succ, Array.replicate_zero, List.push_toArray, List.append_toArray, List.nil_append, List.cons_append]
  gi_wp2
  gi_loopw [7] (fun i wr => ∃ k : Nat, k ≤ size ∧ i = .int .i64 k ∧ J k wr ∧ Blk wr rb 64 (rgs first size) ∧ Blk wr bb 77 b.cs ∧ 0 ≤ wr.heap.size) (fun i _ => size - (intOf i).toNat)
  case atStart => exact ⟨0, Nat.zero_le _, rfl, h0, hr1, hb1, Nat.zero_le _⟩
  case round =>
    obtain ⟨k, hk, rfl, hJs, hr2, hb2, hsz⟩ := hrel
    by_cases hlt : k < size
    · have d0 : wr.cell? ⟨rb, 0, none⟩ = some (.int .i64 (first : Int)) := hr2.cell 0
      have LB := wlblk hb2
      obtain ⟨fn, tmps, assign, body, hy, hR⟩ := hY k wr hlt hJs
      unfold fillE at hy
      rw [show ((first + k : Nat) : Int) = (first : Int) + (k : Int) from by omega] at hy
      have H2 := Lib.hid (And.intro hr2 hb2)
      clear hr2 hb2 hJs
      generalize b.cs = cs at *
      gi_wp2
      refine hR.mono ?_
      rintro e W3 ⟨hkb, ⟨rfl, hJ3⟩ | ⟨rfl, hJx3⟩⟩
      · have hr3 : Blk W3 rb 64 (rgs first size) := hkb.blk H2.out.1 (by simp [hrl, hrS]) (by decide)
        have hb3 : Blk W3 bb 77 cs := hkb.blk H2.out.2 (by simp [hbl, hbS]) (by decide)
        gi_wp2
        go_roundw
        case rel => exact ⟨k + 1, by omega, by go_num, hJ3, hr3, hb3, Nat.zero_le _⟩
        case measure => simp [intOf]; omega
      · gi_wp2
        refine bodyPost_ret (results_none rfl _ _ _) rfl ?_
        exact ⟨⟨_, rfl⟩, .inr ⟨k, by omega, hJx3⟩⟩
    · obtain rfl : k = size := by omega
      gi_wp2
      go_end0
      exact ⟨⟨_, rfl⟩, .inl hJs⟩

theorem RoundIn.wide {m m' l' l : Nat} {P : Program} {f : FuncId} {tmps : Array Value} {assign body : Code} {w : World} {R : Ending → World → Prop} (h : RoundIn Fence.wide m P l f tmps assign body w R) : RoundIn (Fence.wide.inRound l') m' P l f tmps assign body w R :=
  ⟨trivial, fun c cs _ => h.2 c cs (fun d hd => by cases hd)⟩

set_option maxHeartbeats 400000 in
theorem parts_any (t n : Nat) (a : Option Addr) (len cap : Nat) (w : World) : Calls Try.prog 60 #[.agg (fcs t n a len cap)] w fun e w' =>
    e = .returned (.func (.func 77) #[] #[.pointer (some ⟨w.heap.size, 0, none⟩)]) ∧ Blk w' w.heap.size 79 (fcs t n a len cap) ∧ Below w.heap.size w w' ∧ w'.heap.size = w.heap.size + 1 := by
  have hmf : ∀ (fn : Fn) (first cap : Array Value) (w : World), (Instr.makeFunc fn first cap).run Try.prog w = .ok (.func fn first cap) w := fun _ _ _ _ => rfl
  have hb := Blk.new w 79 (fcs t n a len cap)
  have hk : Below w.heap.size w (w.alloc (.cells (fcs t n a len cap) 79)) := (Below.refl _ _).alloc (Nat.le_refl _) _
  have HB := Lib.hid (And.intro hb hk)
  clear hb hk
  generalize fcs t n a len cap = cs at *
  go_enter Try.func60, Try.ntmps60
  go_wp2
  go_ret
  exact ⟨rfl, HB.out.1, HB.out.2, by simp⟩

def rowE (first t n : Nat) (l : List Nat) (k : Nat) : Value × Value := (.int .i64 ((first + k : Nat) : Int), .agg (partAt t n l k).blk.cs)
theorem s_frame (t n : Nat) (a : Option Addr) (len cap : Nat) : (Try.prog.info? 79).map (·.size) = some (fcs t n a len cap).size := by kernel_rfl
theorem load_frame_rule (v : Value) : Instr.loadAt 79 v = loadSem 79 v := rfl
theorem lframe {w : World} {g t n : Nat} {a : Option Addr} {len cap : Nat} (h : Blk w g 79 (fcs t n a len cap)) : (loadSem 79 (.pointer (some ⟨g, 0, none⟩))).run Try.prog w = .ok (.agg (fcs t n a len cap)) w :=
  loadRes_of h (fun j _ => by rw [Nat.zero_add]) _ Try.underlying79 rfl (s_frame _ _ _ _ _)

theorem two_ways (S : List Nat) (W : World) (A B : World → Prop) : ∀ (e : Ending) (W' : World), KB S W W' ∧ ((e = .returned (.bool true) ∧ A W') ∨ (e = .returned (.bool false) ∧ B W')) → KB S W W' ∧ ∃ b, e = .returned (.bool b) ∧ (b = true → A W') ∧ (b = false → B W') := by
  rintro e W' ⟨h, ⟨rfl, ha⟩ | ⟨rfl, hb⟩⟩
  · exact ⟨h, true, rfl, fun _ => ha, (fun h => by cases h)⟩
  · exact ⟨h, false, rfl, (fun h => by cases h), fun _ => hb⟩

end Go.Proofs.Ytkfpkolgikpcpaa
