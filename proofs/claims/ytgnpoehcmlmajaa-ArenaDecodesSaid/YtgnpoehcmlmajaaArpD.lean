/-
  Decode, in parts: the iterator over a list of free blocks. Nothing here is a statement of the document.
-/
import Derived.Test.YtgnpoehcmlmajaaArnX
import Derived.Test.YtgnpoehcmlmajaaArnR
import Derived.Test.YtgnpoehcmlmajaaIt
import Derived.RangeFuncNested
import Derived.RangeFuncBound
import Derived.RangeFuncCalls
import Derived.RangeFuncLeaves
import Derived.Shelf.Abstract
import Derived.Shelf.RegionOpen
import Derived.OwnWalkIn
import Derived.TacticsInMore
import Derived.LoopNIn
import Derived.LoopIn
import Derived.Test.YtgnpoehcmlmajaaArnK
namespace Go.Proofs.Ytgnpoehcmlmajaa
open Go.RowKit Go.Shelf
set_option linter.unusedVariables false
theorem w64s {a : Nat} (h : a ≤ 40000) : wrap64 (a : Int) = (a : Int) := by unfold wrap64; omega
theorem sum_small {x z y : Nat} (hx : x ≤ 20000) (hz : z ≤ 32) (h : x + z = y) : (x : Int) + (z : Int) = (y : Int) ∧ wrap64 (y : Int) = (y : Int) := ⟨by omega, w64s (by omega)⟩
theorem bel_tr4 {w a b : World} (h : Below w.heap.size w a) (k : Below a.heap.size a b) : Below w.heap.size w b := h.trans (k.mono h.size)
theorem sub_small {n e : Nat} (hn : n ≤ 16384) (he : e ≤ n) : wrap64 ((n : Int) - (e : Int)) = (n : Int) - (e : Int) ∧ wrap64 ((n : Int) - ((n : Int) - (e : Int))) = (e : Int) := ⟨by unfold wrap64; omega, by unfold wrap64; omega⟩
theorem w64k {k : Nat} (h : k ≤ 20000) : wrap64 ((k : Int) + 1) = (k : Int) + 1 := by unfold wrap64; omega
end Go.Proofs.Ytgnpoehcmlmajaa
namespace Go.Proofs.Ytgnpoehcmlmajaa
open Go.RowKit Go.Shelf
set_option linter.unusedVariables false

theorem wbytes_drop : ∀ (ws : List Nat) (k : Nat), k < ws.length → ((wbytes ws).drop (4 * k)).take 4 = highB (ws.getD k 0) 4
  | [], k, h => by simp at h
  | x :: r, 0, h => by
    have e : wbytes (x :: r) = highB x 4 ++ wbytes r := by simp [wbytes]
    rw [e, Nat.mul_zero, List.drop_zero, List.take_append_of_le_length (by rw [length_highB]; omega), List.take_of_length_le (by rw [length_highB]; omega)]
    rfl
  | x :: r, k + 1, h => by
    have e : wbytes (x :: r) = highB x 4 ++ wbytes r := by simp [wbytes]
    have h4 : 4 * (k + 1) = (highB x 4).length + 4 * k := by rw [length_highB]; omega
    rw [e, h4, ← List.drop_drop, List.drop_left]
    exact wbytes_drop r k (by simpa using h)
theorem came_word {ws : List Nat} {k : Nat} (hk : k < ws.length) : came (wbytes ws) (4 * k) 0 4 = highB (ws.getD k 0) 4 := by
  unfold came
  have hl := wbytes_len ws
  rw [if_neg (by simp), if_neg (by omega), if_neg (by omega)]
  exact wbytes_drop ws k hk
theorem off_word {ws : List Nat} {k : Nat} (hk : k < ws.length) : offTo (wbytes ws).length (4 * k) 0 4 = (4 * (k + 1), 0) := by
  unfold offTo
  have hl := wbytes_len ws
  rw [if_neg (by simp), if_neg (by omega), if_neg (by omega)]
  simp; omega
theorem pile_word {x : Nat} (h : x < 4294967296) : pile 0 (highB x 4) % 4294967296 = x := by
  have e : List.range 4 = [0, 1, 2, 3] := rfl
  simp [highB, pile, e]
  omega
/-- The first k words are there. -/
def upto (ws : List Nat) (k : Nat) : List Nat := ws.take k ++ List.replicate (ws.length - k) 0
theorem upto_set {ws : List Nat} {k : Nat} (hk : k < ws.length) : (upto ws k).set k (ws.getD k 0) = upto ws (k + 1) := by
  apply List.ext_getElem?
  intro i
  have hl : (upto ws k).length = ws.length := by simp [upto]; omega
  unfold upto at *
  rw [List.getElem?_set]
  by_cases hik : k = i
  · subst hik
    rw [if_pos rfl, if_pos (by rw [hl]; exact hk), List.getElem?_append_left (by simp; omega), List.getElem?_take, if_pos (by omega)]
    simp [hk]
  · rw [if_neg hik]
    by_cases h1 : i < k
    · rw [List.getElem?_append_left (by simp; omega), List.getElem?_append_left (by simp; omega), List.getElem?_take, List.getElem?_take, if_pos h1, if_pos (by omega)]
    · rw [List.getElem?_append_right (by simp; omega), List.getElem?_append_right (by simp; omega), List.getElem?_replicate, List.getElem?_replicate]
      simp only [List.length_take]
      have e1 : min k ws.length = k := by omega
      have e2 : min (k + 1) ws.length = k + 1 := by omega
      rw [e1, e2]
      by_cases h2 : i < ws.length
      · rw [if_pos (by omega), if_pos (by omega)]
      · rw [if_neg (by omega), if_neg (by omega)]
theorem upto_all (ws : List Nat) : upto ws ws.length = ws := by simp [upto]
theorem upto_none (ws : List Nat) : upto ws 0 = List.replicate ws.length 0 := by simp [upto]

set_option maxRecDepth 100000 in
set_option maxHeartbeats 2000000 in
theorem wordsof_any (a : Option Addr) (len cap n : Nat) (ws : List Nat) (hn : ws.length = n) (hl : 4 * n = len) (hle : n ≤ 16384) (hsm : ∀ x ∈ ws, x < 4294967296) (w : World) (hL : Lies w a (wbytes ws)) :
    Calls Try.prog 42 #[.slice a len cap] w fun e w' => ∃ pp, e = .returned (.slice (some ⟨pp, 0, none⟩) n n) ∧ w.heap.size ≤ pp ∧ Blk w' pp 53 (wcs ws) ∧ Below w.heap.size w w' := by
  obtain ⟨i0, hi, hz0, hz1, hz2⟩ := info_parts i_u32
  have hmk : ∀ w, (Instr.makeSlice 62 (.int .i64 (n : Int)) (.int .i64 (n : Int))).run Try.prog w = .ok (.slice (some ⟨w.heap.size, 0, none⟩) n n) (w.alloc (.cells (wcs (List.replicate n 0)) 53)) := fun w => by
    have h := run_make (P := Try.prog) w 62 53 i0 (.int .u32 0) Try.underlying62 hi hz0 .i64 .i64 (n : Int) (n : Int) (by omega) (by omega) (by rw [hz2]; omega) (by omega)
    rw [hz1, show (n : Int).toNat = n from by omega, made_words] at h
    exact h
  have hlb : (wbytes ws).length = len := by rw [wbytes_len, hn, hl]
  have hrd := read_any a len cap (wbytes ws) w hlb (by omega) hL
  have hquo : ((len : Nat) : Int) / 4 = (n : Int) := by omega
  have hquo2 : ((len : Nat) : Int).tdiv 4 = (n : Int) := by rw [Int.tdiv_eq_ediv_of_nonneg (by omega)]; exact hquo
  have hwn : wrap64 (n : Int) = (n : Int) := w64s (by omega)
  have hsmall : ∀ k, ws.getD k 0 < 4294967296 := fun k => by
    by_cases hk : k < ws.length
    · rw [show ws.getD k 0 = ws[k] by simp [hk]]; exact hsm _ (List.getElem_mem hk)
    · rw [show ws.getD k 0 = 0 by simp [List.getElem?_eq_none (by omega : ws.length ≤ k)]]; omega
  have H := Lib.hid (And.intro hn (And.intro hle (And.intro hlb (And.intro hsmall hl))))
  clear hi hz0 hz1 hz2 hn hle hlb hsm hsmall hL hl
  go_enter Try.func42, Try.ntmps42
  go_wp2_with fail
  refine hrd.mono ?_
  rintro e w1 ⟨p, rfl, hp, hR, hb1⟩
  clear hrd
  go_wp2
  have hs1 := hb1.size
  have hR2 := hR.below ((Below.refl _ w1).alloc (Nat.le_refl _) (.cells (wcs (List.replicate n 0)) 53))
  have hB2 := Blk.new w1 53 (wcs (List.replicate n 0))
  have hb2 : Below w.heap.size w (w1.alloc (.cells (wcs (List.replicate n 0)) 53)) := hb1.alloc hs1 _
  have hpp : w1.heap.size ≠ p ∧ w1.heap.size ≠ w.heap.size := ⟨by have := hR.lt; omega, by have := hR.own.lt; omega⟩
  have hu0 : upto ws 0 = List.replicate n 0 := by rw [upto_none, H.out.1]
  rw [← hu0] at hR2 hB2 hb2 ⊢
  have HP := Lib.hid (And.intro hpp (And.intro hs1 hp))
  clear hR hb1 hs1 hpp hp
  generalize w1.heap.size = pp at *
  clear hwn hquo hquo2
  go_loopw [14] (fun i wr => ∃ k : Nat, k ≤ n ∧ i = .int .i64 (k : Int) ∧ Rd wr p w.heap.size (wbytes ws) (4 * k) 0 ∧ Blk wr pp 53 (wcs (upto ws k)) ∧ Below w.heap.size w wr) (fun i _ => n - (intOf i).toNat)
  case atStart => exact ⟨0, Nat.zero_le _, rfl, hR2, hB2, hb2⟩
  case round =>
    obtain ⟨k, hk, rfl, hRk, hBk, hbk⟩ := hrel
    by_cases hlt : k < n
    · have d1 : decide ((k : Int) < (n : Int)) = true := by simp; omega
      have d2 : decide (k < n) = true := by simp; omega
      have hkw : k < ws.length := by rw [H.out.1]; exact hlt
      have hu := u32_any hRk (wbytes_bys ws) (by rw [H.out.2.2.1]; have := H.out.2.1; have := H.out.2.2.2.2; omega)
      rw [came_word hkw, pile_word (H.out.2.2.2.1 k)] at hu
      have ho := off_word hkw
      have hus := upto_set hkw
      have hk20 := w64k (k := k) (by have := H.out.2.1; omega)
      have HW := Lib.hid (And.intro ho (And.intro hus (And.intro hBk (And.intro hbk hk20))))
      have hul : k < (wcs (upto ws k)).size := by simp [wcs, upto]; omega
      have HUL := Lib.hid hul
      clear ho hus hBk hbk hul hR2 hB2 hb2 hk20
      generalize ws.getD k 0 = x at *
      go_wp2_with fail
      refine hu.mono ?_
      rintro e w3 ⟨rfl, hA⟩
      have hR3 := hA.rd HW.out.1
      have hB3 : Blk w3 pp 53 (wcs (upto ws k)) := (hA.2.block pp HW.out.2.2.1.lt (by simp; exact HP.out.1.1)).trans HW.out.2.2.1
      have hb3 := hA.below HW.out.2.2.2.1 HW.out.2.2.2.1.size (Nat.le_of_lt HP.out.2.2)
      have c3 : ∃ v, w3.cell? ⟨pp, k, none⟩ = some v := ⟨_, (hB3.cell k).trans (Array.getElem?_eq_getElem HUL.out)⟩
      obtain ⟨v, c3⟩ := c3
      have f3 := hB3.free k
      have hB4 := hB3.set k (.int .u32 (x : Int))
      rw [wcs_set, HW.out.2.1] at hB4
      have hR4 : Rd (w3.setCell ⟨pp, k, none⟩ (.int .u32 (x : Int))) p w.heap.size (wbytes ws) (4 * (k + 1)) 0 := hR3.kept (Below.heap_setCell w3 _ _ p (by simp; exact fun h => HP.out.1.1 h.symm)) (Below.heap_setCell w3 _ _ _ (by simp; exact fun h => HP.out.1.2 h.symm))
      have hb4 : Below w.heap.size w (w3.setCell ⟨pp, k, none⟩ (.int .u32 (x : Int))) := hb3.setCell (by simp; exact HP.out.2.1) _
      have H4 := Lib.hid (And.intro hB4 (And.intro hR4 hb4))
      clear hA hB4 hR4 hb4 hB3 hR3 hb3 hu
      have hk20 := HW.out.2.2.2.2
      go_wp2
      rw [hk20]
      refine ⟨⟨k + 1, hlt, by rw [Int.natCast_add]; rfl, H4.out.2.1, H4.out.1, H4.out.2.2⟩, ?_⟩
      clear hk20
      simp [intOf]; omega
    · have e : k = n := by omega
      subst e
      have hd1 : decide ((k : Int) < (k : Int)) = false := by simp
      rw [show upto ws k = ws by rw [← H.out.1]; exact upto_all ws] at hBk
      go_wp2
      go_ret
      exact ⟨pp, rfl, HP.out.2.1, hBk, hbk⟩
end Go.Proofs.Ytgnpoehcmlmajaa
namespace Go.Proofs.Ytgnpoehcmlmajaa
open Go.RowKit Go.Shelf
set_option linter.unusedVariables false

/-- From there on so many words are nought. -/
def Nil32 (w : World) (a : Option Addr) (n : Nat) : Prop := n = 0 ∨ ∃ b off, a = some ⟨b, off, none⟩ ∧ ∀ i, i < n → w.cell? ⟨b, off + i, none⟩ = some (.int .u32 0)

theorem blank1_any (w : World) : Calls Try.prog 84 #[.int .u32 0] w fun e w' => e = .returned (.bool false) ∧ w = w' := by
  go_enter Try.func84, Try.ntmps84
  go_wp2
  go_ret
  exact ⟨rfl, rfl⟩

set_option maxRecDepth 100000 in
set_option maxHeartbeats 1000000 in
theorem indexf_none (a : Option Addr) (n cap : Nat) (hn : n ≤ 20000) (w : World) (h : Nil32 w a n) :
    Calls Try.prog 90 #[.slice a n cap, .func (.func 84) #[] #[]] w fun e w' => e = .returned (.int .i64 (-1)) ∧ w = w' := by
  have hb := fun w => blank1_any w
  have HN := Lib.hid hn
  clear hn
  go_enter Try.func90, Try.ntmps90
  go_wp2
  go_loop [8] (fun i => ∃ k : Nat, k ≤ n ∧ i = .int .i64 (k : Int)) (fun i => n - (intOf i).toNat)
  case atStart => exact ⟨0, Nat.zero_le _, rfl⟩
  case round =>
    obtain ⟨k, hk, rfl⟩ := hrel
    by_cases hlt : k < n
    · have d1 : decide ((k : Int) < (n : Int)) = true := by simp; omega
      have d2 : decide (k < n) = true := by simp; omega
      rcases h with h0 | ⟨b, off, rfl, hc⟩
      · omega
      · have hck := hc k hlt
        have hk20 := w64k (k := k) (by have := HN.out; omega)
        go_wp2_with (go_at_call 84; refine (hb _).mono ?_; rintro e w' ⟨rfl, rfl⟩)
        go_round
        case rel => exact ⟨k + 1, hlt, by rw [hk20, Int.natCast_add]; rfl⟩
        case measure => rw [hk20]; clear hk20; simp [intOf]; omega
    · have e : k = n := by omega
      subst e
      have d1 : decide ((k : Int) < (k : Int)) = false := by simp
      go_wp2
      go_ret
      exact ⟨rfl, rfl⟩
theorem blank_yes (a : Option Addr) (n cap : Nat) (hn : n ≤ 20000) (w : World) (h : Nil32 w a n) :
    Calls Try.prog 71 #[.slice a n cap] w fun e w' => e = .returned (.bool true) ∧ w = w' := by
  have hi := indexf_none a n cap hn w h
  have hc : Calls Try.prog 83 #[.slice a n cap, .func (.func 84) #[] #[]] w fun e w' => e = .returned (.bool false) ∧ w = w' := by
    go_enter Try.func83, Try.ntmps83
    go_wp2_with (go_at_call 90; refine hi.mono ?_; rintro e w' ⟨rfl, rfl⟩)
    go_ret
    exact ⟨rfl, rfl⟩
  go_enter Try.func71, Try.ntmps71
  go_wp2_with (go_at_call 83; refine hc.mono ?_; rintro e w' ⟨rfl, rfl⟩)
  go_ret
  exact ⟨rfl, rfl⟩
end Go.Proofs.Ytgnpoehcmlmajaa
namespace Go.Proofs.Ytgnpoehcmlmajaa
open Go.RowKit Go.Shelf
set_option linter.unusedVariables false

/-- All that lies below B lies as it lay, but for these blocks. -/
structure KL (B : Nat) (S : List Nat) (W W' : World) : Prop where
  size : W.heap.size ≤ W'.heap.size
  same : ∀ k, k < B → k ∉ S → W'.heap[k]? = W.heap[k]?
theorem KL.refl (B : Nat) (S : List Nat) (W : World) : KL B S W W := ⟨Nat.le_refl _, fun _ _ _ => rfl⟩
theorem KL.trans {B : Nat} {S : List Nat} {a b c : World} (h : KL B S a b) (k : KL B S b c) : KL B S a c := ⟨Nat.le_trans h.size k.size, fun i hi hS => (k.same i hi hS).trans (h.same i hi hS)⟩
theorem KL.more {B : Nat} {S T : List Nat} {a b : World} (h : KL B S a b) (hT : ∀ i ∈ S, i ∈ T) : KL B T a b := ⟨h.size, fun i hi hS => h.same i hi (fun hm => hS (hT i hm))⟩
theorem KL.low {B B' : Nat} {S : List Nat} {a b : World} (h : KL B S a b) (hB : B' ≤ B) : KL B' S a b := ⟨h.size, fun i hi hS => h.same i (by omega) hS⟩
theorem KL.below {B B' : Nat} {S : List Nat} {a b : World} (h : Below B' a b) (hB : B ≤ B') : KL B S a b := ⟨h.size, fun i hi _ => h.block i (by omega)⟩
theorem KL.kept {B : Nat} {S : List Nat} {a b : World} (h : Kept S a b) (hB : B ≤ a.heap.size) : KL B S a b := ⟨h.size, fun i hi hS => h.block i (by omega) hS⟩
theorem KL.put {B : Nat} {S : List Nat} {W : World} {l : Nat} (hl : l ∈ S) (o' : Obj) : KL B S W (W.putObj l o') :=
  ⟨by simp [World.putObj], fun i _ hi => World.putObj_heap_other (fun e => hi (by rw [e]; exact hl))⟩
theorem KL.blk {B : Nat} {S : List Nat} {W W' : World} {g : Nat} {t : TypeId} {cs : Array Value} (h : KL B S W W') (b : Blk W g t cs) (hg : g ∉ S) (hB : g < B) : Blk W' g t cs := (h.same g hB hg).trans b

/-- Ranged over, this function yields so often, these values; it reads nothing that lies in S, and nothing that lies above. -/
def TellsL (gf : FuncId) (lb : Array Value) (S : List Nat) (N : Nat) (enc : Nat → Array Value) (w : World) : Prop :=
  ∀ (l : Nat) (J Jx : Nat → World → Prop) (W : World), KL w.heap.size S w W → w.heap.size ≤ l → l < W.heap.size → OwnFrom W.heap.size J → OwnFrom W.heap.size Jx →
    (∀ k W1, k < N → J k W1 → YieldAt Fence.wide 8 Try.prog l (enc k) W1 fun e W' =>
      KL (l + 1) (l :: S) W1 W' ∧ ((e = .returned (.bool true) ∧ J (k + 1) W') ∨ (e = .returned (.bool false) ∧ Jx k W'))) →
    J 0 W →
    CallsIn Fence.wide 9 Try.prog gf (#[.func (.yield l) #[] #[]] ++ lb) W fun e W' => (∃ v, e = .returned v) ∧ (J N W' ∨ ∃ k, k < N ∧ Jx k W')

set_option maxHeartbeats 1000000 in
/-- A range over such a row, at the outermost; the body goes on, or leaves by one jump. -/
theorem wp_range_low {g : Operand} {ps : Array Tmp} {assign body : Code} {Q : Exit → Act → World → Prop} {a : Act} {w : World} {gf : FuncId} {lb : Array Value} {S : List Nat} {N : Nat} {enc : Nat → Array Value} (jump : Option Nat) (hps : ∀ k, (enc k).size = ps.size)
    (hg : a.eval g = .func (.func gf) #[] lb) (eg : ∀ args w, (callFunc gf args).run Try.prog w = .ok (.enter gf args) w) (hseq : TellsL gf lb S N enc w) (hS : ∀ k ∈ S, k < w.heap.size)
    (I Ix : Nat → World → Prop) (hI : OwnFrom w.heap.size I) (hIx : OwnFrom w.heap.size Ix) (h0 : I 0 w)
    (Ax : Nat → Act → World → Prop) (hAx : ∀ x a', OwnFrom w.heap.size (fun (_ : Unit) W => Ax x a' W))
    (hassign : ∀ (k : Nat) (W : World) (K : Act → World → Prop), k < N → w.heap.size + 2 ≤ W.heap.size → I k W → (∀ a' W', KL (w.heap.size + 2) S W W' → I k W' → Ax k a' W' → K a' W') →
      assign.wpIn (Fence.wide.inRound (w.heap.size + 1)) 8 Try.prog (Exit.then K (fun _ _ _ => False)) { tmps := (ps.zip (enc k)).foldl (fun tmps (t, a) => tmps.setIfInBounds t a) a.tmps, defers := [] } W)
    (hbody : ∀ (k : Nat) (a' : Act) (W : World), I k W → Ax k a' W → k < N → w.heap.size + 2 ≤ W.heap.size →
      body.wpIn (Fence.wide.inRound (w.heap.size + 1)) 8 Try.prog (fun e _ W' => KL (w.heap.size + 2) S W W' ∧ ((e = .normal ∧ I (k + 1) W') ∨ (e = outE jump ∧ Ix k W'))) a' W)
    (hdone : ∀ W, I N W → W.heap[w.heap.size]? = some (.deferred (some [])) → Q .normal { a with defers := { target := .collected w.heap.size, args := #[] } :: a.defers } W)
    (hstop : ∀ k W, k < N → Ix k W → W.heap[w.heap.size]? = some (.deferred (some [])) → Q (outE jump) { a with defers := { target := .collected w.heap.size, args := #[] } :: a.defers } W) :
    (Code.rangeFunc g ps assign body).wp Try.prog Q a w := by
  refine (wpIn_wide (n := 10)).1 (wpIn_rangeFunc fun fn _ => ?_)
  obtain ⟨Z, hZ⟩ : ∃ Z, (w.alloc (.deferred (some []))).alloc (.loop (LpR fn a.tmps ps assign body w.heap.size .ready none)) = Z := ⟨_, rfl⟩
  have hZs : Z.heap.size = w.heap.size + 2 := by rw [← hZ]; simp
  have hZl : Z.heap[w.heap.size + 1]? = some (.loop (LpR fn a.tmps ps assign body w.heap.size .ready none)) := by
    rw [← hZ]; have := World.alloc_heap_new (w.alloc (.deferred (some []))) (.loop (LpR fn a.tmps ps assign body w.heap.size .ready none)); rwa [World.size_alloc] at this
  have hZd : Z.heap[w.heap.size]? = some (.deferred (some [])) := by
    rw [← hZ]; exact (Below.heap_alloc _ _ _ (by simp)).trans (World.alloc_heap_new w _)
  have hZk : KL w.heap.size S w Z := by rw [← hZ]; exact KL.below (((Below.refl _ w).alloc (Nat.le_refl _) _).alloc (by simp) _) (Nat.le_refl _)
  have hZi : I 0 Z := by rw [← hZ]; exact hI.alloc _ (hI.alloc _ h0)
  have hdS : w.heap.size ∉ S := fun hm => by have := hS _ hm; omega
  have hlS : w.heap.size + 1 ∉ S := fun hm => by have := hS _ hm; omega
  -- a round's record, turned
  have turn : ∀ (W : World) (s s' : LoopState) (j j' : Option Code), W.heap[w.heap.size + 1]? = some (.loop (LpR fn a.tmps ps assign body w.heap.size s j)) → W.heap[w.heap.size]? = some (.deferred (some [])) →
      (W.putObj (w.heap.size + 1) (.loop (LpR fn a.tmps ps assign body w.heap.size s' j'))).heap[w.heap.size + 1]? = some (.loop (LpR fn a.tmps ps assign body w.heap.size s' j')) ∧ (W.putObj (w.heap.size + 1) (.loop (LpR fn a.tmps ps assign body w.heap.size s' j'))).heap[w.heap.size]? = some (.deferred (some [])) :=
    fun W s s' j j' h1 h2 => ⟨World.putObj_heap_same (Array.getElem?_eq_some_iff.1 h1).1, (World.putObj_heap_other (by omega)).trans h2⟩
  refine ⟨w.heap.size + 1, [{ target := .collected w.heap.size, args := #[] }], Z, { target := .fn (.func gf) lb, args := #[.func (.yield (w.heap.size + 1)) #[] #[]] }, Z, gf, #[.func (.yield (w.heap.size + 1)) #[] #[]] ++ lb, Z, ?_, ?_, fun _ _ => trivial, ?_, fun h => by simp [Fence.wide] at h, ?_⟩
  · rw [← hZ]; exact run_enterLoop_outer _ _ _ _ _
  · simp only [resolve, hg]
    simp [go_sem]
  · simp [invoke, go_sem, eg]
  · refine (hseq (w.heap.size + 1)
      (fun k W => I k W ∧ W.heap[w.heap.size + 1]? = some (.loop (LpR fn a.tmps ps assign body w.heap.size .ready none)) ∧ W.heap[w.heap.size]? = some (.deferred (some [])))
      (fun k W => Ix k W ∧ W.heap[w.heap.size + 1]? = some (.loop (LpR fn a.tmps ps assign body w.heap.size .done (some (outC jump)))) ∧ W.heap[w.heap.size]? = some (.deferred (some [])))
      Z hZk (by omega) (by omega) (OwnFrom.and (own_mono hI (by omega)) (OwnFrom.and (own_obj (by omega)) (own_obj (by omega)))) (OwnFrom.and (own_mono hIx (by omega)) (OwnFrom.and (own_obj (by omega)) (own_obj (by omega)))) ?_ ⟨hZi, hZl, hZd⟩).mono ?_
    · rintro k W hlen ⟨hi, hl, hd⟩
      have hy := run_yield (P := Try.prog) (args := (enc k)) hl (hps k)
      refine ⟨(LpR fn a.tmps ps assign body w.heap.size .ready none).fn, _, (LpR fn a.tmps ps assign body w.heap.size .ready none).assign, (LpR fn a.tmps ps assign body w.heap.size .ready none).body, hy, roundIn_of_wpIn trivial ?_⟩
      refine hassign k W _ hlen (by have := (Array.getElem?_eq_some_iff.1 hl).1; omega) hi fun a' Wa hka hia hax => ?_
      have hl2 := (hka.same _ (by omega) hlS).trans hl
      have hd2 := (hka.same _ (by omega) hdS).trans hd
      have hbg := run_beginRound (P := Try.prog) hl2 rfl
      refine ⟨_, hbg, ?_⟩
      obtain ⟨hl3, hd3⟩ := turn Wa .ready .busy none none hl2 hd2
      have hs3 : w.heap.size + 2 ≤ (Wa.putObj (w.heap.size + 1) (.loop (LpR fn a.tmps ps assign body w.heap.size .busy none))).heap.size := by have := (Array.getElem?_eq_some_iff.1 hl3).1; omega
      have hk3 : KL (w.heap.size + 2) ((w.heap.size + 1) :: S) W (Wa.putObj (w.heap.size + 1) (.loop (LpR fn a.tmps ps assign body w.heap.size .busy none))) := (hka.more (by simp; exact fun i hi => .inr hi)).trans (KL.put (by simp) _)
      refine wpIn_mono (hbody k a' _ (hI.putObj _ hia (by omega) hl2 rfl) ((hAx k a').putObj (s := ()) _ hax (by omega) hl2 rfl) hlen hs3) ?_
      rintro e a3 W3 ⟨hkb, hp⟩
      have hl4 := (hkb.same _ (by omega) hlS).trans hl3
      have hd4 := (hkb.same _ (by omega) hdS).trans hd3
      have hk4 : KL (w.heap.size + 2) ((w.heap.size + 1) :: S) W W3 := hk3.trans (hkb.more (by simp; exact fun i hi => .inr hi))
      rcases hp with ⟨rfl, hi3⟩ | ⟨rfl, hi3⟩
      · have he := run_endRound (P := Try.prog) none hl4
        obtain ⟨h5, h6⟩ := turn W3 .busy .ready none none hl4 hd4
        refine ⟨_, _, he, hk4.trans (KL.put (by simp) _), .inl ⟨rfl, ?_⟩⟩
        exact ⟨hI.putObj _ hi3 (by omega) hl4 rfl, h5, h6⟩
      · have he := run_endRound (P := Try.prog) (some (outC jump)) hl4
        refine roundPost_out jump _ _ _ _ ⟨_, _, he, ?_⟩
        obtain ⟨h5, h6⟩ := turn W3 .busy .done none (some (outC jump)) hl4 hd4
        refine ⟨hk4.trans (KL.put (by simp) _), .inr ⟨rfl, ?_⟩⟩
        exact ⟨hIx.putObj _ hi3 (by omega) hl4 rfl, h5, h6⟩
    · rintro e W2 ⟨⟨v, rfl⟩, ⟨hi, hl, hd⟩ | ⟨k, hk, hi, hl, hd⟩⟩
      · exact ⟨none, _, run_endLoop (P := Try.prog) hl (by simp), hdone _ (hI.putObj _ hi (by omega) hl rfl) ((World.putObj_heap_other (by omega)).trans hd)⟩
      · exact ⟨some (outC jump), _, run_endLoop (P := Try.prog) hl (by simp), wpIn_out jump (hstop k _ hk (hIx.putObj _ hi (by omega) hl rfl) ((World.putObj_heap_other (by omega)).trans hd))⟩


end Go.Proofs.Ytgnpoehcmlmajaa
namespace Go.Proofs.Ytgnpoehcmlmajaa
open Go.RowKit Go.Shelf
set_option linter.unusedVariables false

/-- An arena's words lie at p; of where blocks begin nothing is said. -/
structure Aw (w : World) (g p : Nat) (qv : Value) (ws : List Nat) : Prop where
  box : Blk w g 65 #[.slice (some ⟨p, 0, none⟩) ws.length ws.length, qv]
  wds : Blk w p 53 (wcs ws)
  lo : 64 ≤ ws.length
  hi : ws.length ≤ 16384
  sml : ∀ n ∈ ws, n < 4294967296
theorem Ar.aw {w : World} {g p q : Nat} {ws : List Nat} {bs : List Bool} (h : Ar w g p q ws bs) : Aw w g p (.slice (some ⟨q, 0, none⟩) ws.length ws.length) ws := ⟨h.box, h.wds, h.lo, h.hi, h.sml⟩
section
variable {w : World} {g p : Nat} {qv : Value} {ws : List Nat}
theorem Aw.low (h : Aw w g p qv ws) {B : Nat} {S : List Nat} {w' : World} (k : KL B S w w') (hg : g ∉ S) (hp : p ∉ S) (hgB : g < B) (hpB : p < B) : Aw w' g p qv ws :=
  ⟨k.blk h.box hg hgB, k.blk h.wds hp hpB, h.lo, h.hi, h.sml⟩
theorem Aw.small (h : Aw w g p qv ws) (i : Nat) : ws.getD i 0 < 4294967296 := by
  by_cases hi : i < ws.length
  · have : ws.getD i 0 = ws[i] := by simp [hi]
    rw [this]; exact h.sml _ (List.getElem_mem hi)
  · have : ws.getD i 0 = 0 := by simp [List.getElem?_eq_none (by omega : ws.length ≤ i)]
    omega
theorem Aw.c0 (h : Aw w g p qv ws) : w.cell? ⟨g, 0, none⟩ = some (.slice (some ⟨p, 0, none⟩) ws.length ws.length) := h.box.cell 0
theorem Aw.word (h : Aw w g p qv ws) {i : Nat} (hi : i < ws.length) : w.cell? ⟨p, i, none⟩ = some (.int .u32 ((ws.getD i 0 : Nat) : Int)) := (h.wds.cell i).trans (wcs_get hi)
set_option maxHeartbeats 400000 in
theorem edge_w (h : Aw w g p qv ws) : Calls Try.prog 52 #[.pointer (some ⟨g, 0, none⟩)] w fun e w' => e = .returned (.int .i64 ((ws.getD 15 0 : Nat) : Int)) ∧ w = w' := by
  have c0 := h.c0
  have c15 := h.word (i := 15) (by have := h.lo; omega)
  have hx := h.small 15
  have h1 := h.lo
  have h2 := h.hi
  clear h
  generalize ws.getD 15 0 = x at *
  generalize ws.length = n at *
  go_enter Try.func52, Try.ntmps52
  go_wp2
  go_ret
  exact ⟨rfl, rfl⟩
set_option maxHeartbeats 400000 in
theorem head_w (h : Aw w g p qv ws) (x : Nat) (h1 : 1 ≤ x) (h2 : x < ws.length) : Calls Try.prog 57 #[.pointer (some ⟨g, 0, none⟩), .int .i64 (x : Int)] w fun e w' => e = .returned (.int .u32 ((ws.getD (x - 1) 0 : Nat) : Int)) ∧ w = w' := by
  have c0 := h.c0
  have cx := h.word (i := x - 1) (by omega)
  have h3 := h.lo
  have h4 := h.hi
  clear h
  generalize ws.getD (x - 1) 0 = y at *
  generalize ws.length = n at *
  obtain ⟨z, rfl⟩ : ∃ z, x = z + 1 := ⟨x - 1, by omega⟩
  rw [Nat.add_sub_cancel] at cx
  go_enter Try.func57, Try.ntmps57
  go_wp2
  go_ret
  exact ⟨rfl, rfl⟩
set_option maxHeartbeats 400000 in
theorem hright_any (c : Nat) (t : Bool) (hc : c ≤ 5) (w : World) : Calls Try.prog 69 #[.int .u32 ((hdN c t : Nat) : Int)] w fun e w' => e = .returned (.bool true) ∧ w = w' := by
  cases t <;> rcases (show c = 0 ∨ c = 1 ∨ c = 2 ∨ c = 3 ∨ c = 4 ∨ c = 5 by omega) with rfl | rfl | rfl | rfl | rfl | rfl <;>
  · go_enter Try.func69, Try.ntmps69
    go_wp2
    go_ret
    first | exact ⟨rfl, rfl⟩ | exact ⟨ret_bool (by decide +kernel), rfl⟩

attribute [local go_sem] Oper.semAt_some
set_option maxRecDepth 100000 in
set_option maxHeartbeats 1000000 in
theorem blocks_low {S : List Nat} {box : Nat} {B : List Bl} (h : Aw w g p qv ws) (hC : Chain ws 16 B) (he : ws.getD 15 0 ≤ ws.length) (hb : Blk w box 25 #[.pointer (some ⟨g, 0, none⟩)])
    (hgS : g ∉ S) (hpS : p ∉ S) (hbS : box ∉ S) :
    TellsL 82 #[.pointer (some ⟨box, 0, none⟩)] S B.length (encB B) w := by
  intro lo J Jx W hWk hlw hlo hJ hJx hY h0
  have n1 : g < lo := by have := h.box.lt; omega
  have n2 : p < lo := by have := h.wds.lt; omega
  have n4 : box < lo := by have := hb.lt; omega
  replace h := h.low hWk hgS hpS h.box.lt h.wds.lt
  replace hb := hWk.blk hb hbS hb.lt
  have hhi := h.hi
  have hC0 := chain_head hC
  have hCg := fun (k : Nat) (b : Bl) (hb : B[k]? = some b) => chain_get hC (Nat.le_refl _) hb
  have hCe := posB_end (ws.getD 15 0) B
  clear hlw hWk hC
  generalize hee : ws.getD 15 0 = e at *
  have HE := Lib.hid hee
  clear hee
  refine callsIn_of_wp Try.func82 rfl trivial ?_ rfl
  simp only [Try.ntmps82, List.size_toArray, List.length_cons, List.length_nil, Nat.reduceAdd, Nat.reduceSub, Array.replicate_succ, Array.replicate_zero, List.push_toArray, List.append_toArray, List.nil_append, List.cons_append]
  gi_wp2
  gi_loopw [3] (fun i wr => ∃ k : Nat, k ≤ B.length ∧ i = .int .i64 (posB e B k : Int) ∧ J k wr ∧ Aw wr g p qv ws ∧ Blk wr box 25 #[.pointer (some ⟨g, 0, none⟩)] ∧ 0 ≤ wr.heap.size) (fun i _ => e + 2 - (intOf i).toNat)
  case atStart => exact ⟨0, Nat.zero_le _, by rw [hC0]; rfl, h0, h, hb, Nat.zero_le _⟩
  case round =>
    obtain ⟨k, hk, rfl, hJs, hA, hbw, _⟩ := hrel
    have cb : wr.cell? ⟨box, 0, none⟩ = some (.pointer (some ⟨g, 0, none⟩)) := hbw.cell 0
    have hed := edge_w hA
    rw [HE.out] at hed
    by_cases hlt : k < B.length
    · obtain ⟨g1, g2, g3, g4, g5⟩ := hCg k B[k] (List.getElem?_eq_getElem hlt)
      have hpo := posB_get (e := e) (List.getElem?_eq_getElem hlt)
      have hdd : B.getD k Bl.zero = B[k] := by simp [hlt]
      obtain ⟨fn, tmps, assign, body, hy, hR⟩ := hY k wr hlt hJs
      unfold encB at hy
      rw [hdd] at hy
      rw [hpo]
      have hhd := head_w hA B[k].x (by omega) (by have := (pow5 g1).1; omega)
      rw [g3] at hhd
      have hsz := fun w => hsize_any B[k].c B[k].t g1 w
      have hp5 := pow5 g1
      generalize B[k] = b at *
      generalize hdN b.c b.t = hv at *
      generalize b.x = x at *
      generalize 2 ^ b.c = z at *
      have d1 : decide ((x : Int) ≤ (e : Int)) = true := decide_eq_true (by omega)
      have d2 : decide (x ≤ e) = true := decide_eq_true (by omega)
      have HJ := Lib.hid (And.intro hA (And.intro hbw (And.intro hpo g5)))
      clear hJs hA hbw hC0 hCe hCg h hb h0 hpo g5 hY
      gi_wp2
      refine ⟨trivial, ?_⟩
      refine (callsIn_wide.2 hed).mono ?_
      rintro e1 w1 ⟨rfl, rfl⟩
      gi_wp2
      refine ⟨trivial, ?_⟩
      refine (callsIn_wide.2 hhd).mono ?_
      rintro e1 w1 ⟨rfl, rfl⟩
      clear hed hhd
      gi_wp2
      refine hR.mono ?_
      rintro e2 W4 ⟨hk4, ⟨rfl, hJ4⟩ | ⟨rfl, hJx4⟩⟩
      · have hA4 := HJ.out.1.low hk4 (by simp [hgS]; omega) (by simp [hpS]; omega) (by omega) (by omega)
        have hb4 := hk4.blk HJ.out.2.1 (by simp [hbS]; omega) (by omega)
        have hnx : posB e B (k + 1) = x + (z + 1) := by have := HJ.out.2.2.2; omega
        have HN := Lib.hid hnx
        clear hnx hy
        gi_wp2
        refine ⟨trivial, ?_⟩
        refine (callsIn_wide.2 (hsz _)).mono ?_
        rintro e1 w1 ⟨rfl, rfl⟩
        clear hsz
        gi_wp2
        go_roundw
        case rel => exact ⟨k + 1, by omega, by rw [HN.out]; go_num, hJ4, hA4, hb4, Nat.zero_le _⟩
        case measure => simp [intOf]; omega
      · gi_wp2
        refine bodyPost_ret (results_none rfl _ _ _) rfl ?_
        exact ⟨⟨_, rfl⟩, .inr ⟨k, by omega, hJx4⟩⟩
    · obtain rfl : k = B.length := by omega
      rw [hCe]
      have d1 : decide ((e : Int) + 1 ≤ (e : Int)) = false := decide_eq_false (by omega)
      clear hC0 hCe hCg h hb h0 hY
      gi_wp2
      refine ⟨trivial, ?_⟩
      refine (callsIn_wide.2 hed).mono ?_
      rintro e1 w1 ⟨rfl, rfl⟩
      gi_wp2
      go_end0
      exact ⟨⟨_, rfl⟩, .inl hJs⟩
end
end Go.Proofs.Ytgnpoehcmlmajaa
namespace Go.Proofs.Ytgnpoehcmlmajaa
open Go.RowKit Go.Shelf
set_option linter.unusedVariables false

theorem list_any (a : Option Addr) (c : Int) (w : World) : Calls Try.prog 72 #[.pointer a, .int .i64 c] w fun e w' =>
    e = .returned (.func (.func 85) #[] #[.pointer (some ⟨w.heap.size, 0, none⟩), .pointer (some ⟨w.heap.size + 1, 0, none⟩)]) ∧ w' = (w.alloc (.cells #[.pointer a] 25)).alloc (.cells #[.int .i64 c] 3) := by
  have hmf : ∀ (fn : Fn) (first cap : Array Value) (w : World), (Instr.makeFunc fn first cap).run Try.prog w = .ok (.func fn first cap) w := fun _ _ _ _ => rfl
  go_enter Try.func72, Try.ntmps72
  go_wp2
  go_ret
  exact ⟨by simp, rfl⟩
theorem lst_get {ws : List Nat} : ∀ {L : List Nat} {s : Nat}, Lst ws s L → s = L.getD 0 0 ∧ ∀ k, k < L.length → ws.getD (L.getD k 0) 0 = L.getD (k + 1) 0 ∧ 17 ≤ L.getD k 0
  | [], s, h => ⟨h, fun k hk => by simp at hk⟩
  | x :: r, s, h => by
    obtain ⟨h1, h2, h3⟩ := h
    obtain ⟨g1, g2⟩ := lst_get h3
    refine ⟨h1, fun k hk => ?_⟩
    rcases k with _ | k
    · exact ⟨g1, h2⟩
    · have := g2 k (by simpa using hk)
      simpa using this
theorem idx_at {L : List Nat} (hn : L.Nodup) (h17 : ∀ k, k < L.length → 17 ≤ L.getD k 0) {k : Nat} (hk : k ≤ L.length) : L.idxOf (L.getD k 0) = k := by
  by_cases hlt : k < L.length
  · have e : L.getD k 0 = L[k] := by simp [hlt]
    rw [e, hn.idxOf_getElem k hlt]
  · have e : L.getD k 0 = 0 := by simp [List.getElem?_eq_none (by omega : L.length ≤ k)]
    rw [e, List.idxOf_eq_length]
    · omega
    · intro hm
      obtain ⟨i, hi, h0⟩ := List.mem_iff_getElem.1 hm
      have := h17 i hi
      rw [show L.getD i 0 = L[i] by simp [hi], h0] at this
      omega
def encL (L : List Nat) (k : Nat) : Array Value := #[.int .i64 ((L.getD k 0 : Nat) : Int)]

attribute [local go_sem] Oper.semAt_some
set_option maxRecDepth 100000 in
set_option maxHeartbeats 2000000 in
theorem list_low {w : World} {g p : Nat} {qv : Value} {ws : List Nat} {S : List Nat} {box box2 c : Nat} {L : List Nat} (h : Aw w g p qv ws) (hc : c ≤ 5) (hL : Lst ws (ws.getD (9 + c) 0) L) (hlt : ∀ k, k < L.length → L.getD k 0 < ws.length) (hb : Blk w box 25 #[.pointer (some ⟨g, 0, none⟩)]) (hb2 : Blk w box2 3 #[.int .i64 (c : Int)])
    (hgS : g ∉ S) (hpS : p ∉ S) (hbS : box ∉ S) (hbS2 : box2 ∉ S) (hnd : L.Nodup) :
    TellsL 85 #[.pointer (some ⟨box, 0, none⟩), .pointer (some ⟨box2, 0, none⟩)] S L.length (encL L) w := by
  intro lo J Jx W hWk hlw hlo hJ hJx hY h0
  have n1 : g < lo := by have := h.box.lt; omega
  have n2 : p < lo := by have := h.wds.lt; omega
  have n4 : box < lo := by have := hb.lt; omega
  replace h := h.low hWk hgS hpS h.box.lt h.wds.lt
  replace hb := hWk.blk hb hbS hb.lt
  replace hb2 := hWk.blk hb2 hbS2 hb2.lt
  obtain ⟨hL0, hLk⟩ := lst_get hL
  have hidx := fun k (hk : k ≤ L.length) => idx_at hnd (fun k hk => (hLk k hk).2) hk
  have cb : W.cell? ⟨box, 0, none⟩ = some (.pointer (some ⟨g, 0, none⟩)) := hb.cell 0
  have cb2 : W.cell? ⟨box2, 0, none⟩ = some (.int .i64 (c : Int)) := hb2.cell 0
  have cg := h.c0
  have cw := h.word (i := 9 + c) (by have := h.lo; omega)
  rw [hL0] at cw
  have hPe : L.getD L.length 0 = 0 := by simp
  obtain ⟨P, hP⟩ : ∃ P : Nat → Nat, ∀ k, L.getD k 0 = P k := ⟨fun k => L.getD k 0, fun _ => rfl⟩
  simp only [hP] at hLk hidx cw hlt hPe
  have hJ0 : J 0 W.drew := hJ _ _ _ none h0 (grown_of_below ⟨rfl, rfl, rfl, Nat.le_refl _, fun _ _ => rfl⟩) (fun r h => by cases h)
  have hYY : ∀ k W1, k < L.length → J k W1 → YieldAt Fence.wide 8 Try.prog lo #[.int .i64 ((P k : Nat) : Int)] W1 fun e W' => KL (lo + 1) (lo :: S) W1 W' ∧ ((e = .returned (.bool true) ∧ J (k + 1) W') ∨ (e = .returned (.bool false) ∧ Jx k W')) := fun k W1 hk hj => by
    have := hY k W1 hk hj
    unfold encL at this
    rwa [hP] at this
  have hsmP : ∀ k, P k < 4294967296 := fun k => by
    by_cases hk : k < L.length
    · have := hlt k hk; have := h.hi; omega
    · have e : L.getD k 0 = 0 := by simp [List.getElem?_eq_none (by omega : L.length ≤ k)]
      rw [← hP, e]; omega
  have hlo64 := h.lo
  have dlt : 9 + c < ws.length := by omega
  have dlt2 : ((9 + c : Nat) : Int) < (ws.length : Int) := by omega
  have h9 : (9 : Int) + (c : Int) = ((9 + c : Nat) : Int) := by omega
  have H := Lib.hid (And.intro h (And.intro hb (And.intro hLk (And.intro hidx (And.intro hlt (And.intro hYY (And.intro hsmP hPe)))))))
  clear hlw hWk hb2 hL hlt hnd hL0 hLk hidx h hb hY hYY hP hsmP hPe h0
  generalize 9 + c = c9 at *
  refine callsIn_of_wp Try.func85 rfl trivial ?_ rfl
  simp only [Try.ntmps85, List.size_toArray, List.length_cons, List.length_nil, Nat.reduceAdd, Nat.reduceSub, Array.replicate_succ, Array.replicate_zero, List.push_toArray, List.append_toArray, List.nil_append, List.cons_append]
  gi_wp2
  have f0 : ∀ w9, w9 = W.drew → w9.cell? ⟨box, 0, none⟩ = some (.pointer (some ⟨g, 0, none⟩)) := fun w9 h => by subst h; exact cb
  have f1 : ∀ w9, w9 = W.drew → w9.cell? ⟨box2, 0, none⟩ = some (.int .i64 (c : Int)) := fun w9 h => by subst h; exact cb2
  have f2 : ∀ w9, w9 = W.drew → w9.cell? ⟨g, 0, none⟩ = some (.slice (some ⟨p, 0, none⟩) ws.length ws.length) := fun w9 h => by subst h; exact cg
  have f3 : ∀ w9, w9 = W.drew → w9.cell? ⟨p, c9, none⟩ = some (.int .u32 ((P 0 : Nat) : Int)) := fun w9 h => by subst h; exact cw
  refine wpIn_wide.2 (wp_region_lin (fun w' => w' = W.drew) (by kernel_rfl) (by kernel_rfl) rfl ?_)
  (repeat (first | (refine lin_off (by rfl) ?_; (try simp only [Act.put, List.setIfInBounds_toArray, List.set_cons_zero, List.set_cons_succ])) | (refine lin_op (v := ?_) (by rfl) (fun w9 hS9 => ?_) ?_; rotate_left; (focus ((have k0 := f0 w9 hS9; have k1 := f1 w9 hS9; have k2 := f2 w9 hS9; have k3 := f3 w9 hS9; (try dsimp only at hS9); go_simp; (try go_bits)) <;> with_reducible rfl)); (try simp only [Act.put, List.setIfInBounds_toArray, List.set_cons_zero, List.set_cons_succ])) ))
  refine lin_nil (fun w8 hS8 => ?_)
  subst hS8
  clear f0 f1 f2 f3 cb cb2 cg cw
  gi_wp2
  gi_loopw [4] (fun i wr => ∃ k : Nat, k ≤ L.length ∧ i = .int .u32 ((P k : Nat) : Int) ∧ J k wr ∧ Aw wr g p qv ws ∧ Blk wr box 25 #[.pointer (some ⟨g, 0, none⟩)] ∧ 0 ≤ wr.heap.size) (fun i _ => L.length - L.idxOf (intOf i).toNat)
  case atStart => exact ⟨0, Nat.zero_le _, rfl, hJ0, ⟨H.out.1.box, H.out.1.wds, H.out.1.lo, H.out.1.hi, H.out.1.sml⟩, H.out.2.1, Nat.zero_le _⟩
  case round =>
    obtain ⟨k, hk, rfl, hJs, hA, hbw, _⟩ := hrel
    by_cases hlt : k < L.length
    · obtain ⟨fn, tmps, assign, body, hy, hR⟩ := H.out.2.2.2.2.2.1 k wr hlt hJs
      obtain ⟨q1, q2⟩ := H.out.2.2.1 k hlt
      have q3 := H.out.2.2.2.2.1 k hlt
      have q4 := H.out.2.2.2.2.2.2.1 k
      have i0 := H.out.2.2.2.1 k (Nat.le_of_lt hlt)
      have i1 := H.out.2.2.2.1 (k + 1) hlt
      have d1 : ((P k : Int) != 0) = true := by simp; omega
      have HJ := Lib.hid (And.intro hA (And.intro hbw (And.intro i0 (And.intro i1 q1))))
      generalize hnx : P (k + 1) = nx at *
      have HNX := Lib.hid hnx
      clear hnx
      generalize hpk : P k = pk at *
      have HPK := Lib.hid hpk
      clear hJs hA hbw i0 i1 q1 hpk hJ0
      gi_wp2
      refine hR.mono ?_
      rintro e2 W4 ⟨hk4, ⟨rfl, hJ4⟩ | ⟨rfl, hJx4⟩⟩
      · have hA4 := HJ.out.1.low hk4 (by simp [hgS]; omega) (by simp [hpS]; omega) (by omega) (by omega)
        have hb4 := hk4.blk HJ.out.2.1 (by simp [hbS]; omega) (by omega)
        have cb4 : W4.cell? ⟨box, 0, none⟩ = some (.pointer (some ⟨g, 0, none⟩)) := hb4.cell 0
        have cg4 := hA4.c0
        have cw4 := hA4.word q3
        rw [HJ.out.2.2.2.2] at cw4
        have H4 := Lib.hid (And.intro hA4 (And.intro hb4 hJ4))
        clear hy hA4 hb4 hJ4
        gi_wp2
        refine ⟨⟨k + 1, hlt, by rw [HNX.out], H4.out.2.2, H4.out.1, H4.out.2.1, Nat.zero_le _⟩, ?_⟩
        simp only [intOf, Int.toNat_natCast]
        rw [HJ.out.2.2.1, HJ.out.2.2.2.1]
        omega
      · gi_wp2
        refine bodyPost_ret (results_none rfl _ _ _) rfl ?_
        exact ⟨⟨_, rfl⟩, .inr ⟨k, by omega, hJx4⟩⟩
    · obtain rfl : k = L.length := by omega
      rw [H.out.2.2.2.2.2.2.2]
      gi_wp2
      go_end0
      exact ⟨⟨_, rfl⟩, .inl hJs⟩
end Go.Proofs.Ytgnpoehcmlmajaa
