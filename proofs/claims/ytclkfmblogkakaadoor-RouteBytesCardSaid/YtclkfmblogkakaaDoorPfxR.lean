/-
  The contracts of cmp.Compare and cmp.Or of ints, of prefix.Compare and of the reference's. Nothing here is a statement of the document.
-/
import Derived.Test.YtclkfmblogkakaaDoorPfxJ
import Derived.Test.YtclkfmblogkakaaDoorOctM
namespace Go.Proofs.YtclkfmblogkakaaDoor
open Go.RowKit Go.Shelf
set_option linter.unusedVariables false
attribute [local go_sem ↓] load_b16_rule store_b16_rule load_ad_rule store_ad_rule load_px_rule store_px_rule eq_b16_rule eq_ad_rule eq_px_rule build_ad_rule build_px_rule

section
variable {P : Program} {ops : Array Oper} {Q : Exit → Act → World → Prop} {S : World → Prop}
/-- A copy into a row that is known whole. -/
theorem linX_copy {eff : List Nat} {i : Nat} {o : Oper} {r : List Nat} {a : Act} {w : World} (hi : ops[i]? = some o) (he : eff.contains i = true) (hw : Region.wanted o (yielded ops a.tmps) = true) (d s : Operand) (dT sT : TypeId)
    (ho : o.op = .call { callee := .builtin .copy, args := #[d, s], argTypes := #[dT, sT] }) (elem : TypeId) (hu : P.underlying dT = some (.slice elem)) (hsz : (P.info? elem).map (·.size) = some 1)
    (dp sp : Option Addr) (dLen dCap sLen sCap : Nat) (hd : a.eval d = .slice dp dLen dCap) (hs : a.eval s = .slice sp sLen sCap)
    (g off : Nat) (cur : List Value) (t : TypeId) (hg : w.heap[g]? = some (.cells cur.toArray t (0, 0))) (cs : List Value) (hn : cs.length = Nat.min sLen dLen)
    (hpos : 0 < cs.length → dp = some ⟨g, off, none⟩ ∧ ∃ ad, sp = some ad ∧ ∀ j v, cs[j]? = some v → w.cell? (ad.add j) = some v)
    (hfit : off + cs.length ≤ cur.length) (h1 : ∀ v ∈ cs, v.oneCell' = true)
    (h : ∀ w', Blk w' g t (splice cur off cs).toArray → Kept [g] w w' → S w' ∧ LinX P ops Q S eff r (a.put o.dst (goInt cs.length)) w') : LinX P ops Q S eff (i :: r) a w := by
  by_cases h0 : cs.length = 0
  · obtain rfl : cs = [] := List.eq_nil_of_length_eq_zero h0
    have hrun := run_copy_none (P := P) w dT sT o.type elem dp sp dLen dCap sLen sCap hu hsz (by simpa using hn.symm)
    obtain ⟨h2, h3⟩ := h w (show _ = _ by simpa [splice] using hg) (Kept.refl _ _)
    refine linX_do hi he hw ?_ h2 h3
    simp [execOp, ho, resolve, invoke, builtin, hd, hs, hrun, Result.andThen]
  · obtain ⟨rfl, ad, rfl, hsrc⟩ := hpos (by omega)
    have hrun := run_copy_row (P := P) w dT sT o.type elem g off dLen dCap ad sLen sCap cur.toArray t cs hu hsz hg hn hsrc (by simpa using hfit) h1
    obtain ⟨h2, h3⟩ := h _ (show _ = _ by simpa [splice] using setRow_heap w g _ _ t _ hg) ((Kept.refl [g] w).setRow (.inl (by simp)) _)
    refine linX_do hi he hw ?_ h2 h3
    simp [execOp, ho, resolve, invoke, builtin, hd, hs, hrun, Result.andThen, splice]
end

theorem Bys.append2 {l m : List Nat} (h : Bys l) (h2 : Bys m) : Bys (l ++ m) := fun n hn => by
  rcases List.mem_append.1 hn with h9 | h9
  · exact h n h9
  · exact h2 n h9
theorem Bys.take2 {l : List Nat} (h : Bys l) (k : Nat) : Bys (l.take k) := fun n hn => h n (List.mem_of_mem_take hn)
theorem Bys.drop2 {l : List Nat} (h : Bys l) (k : Nat) : Bys (l.drop k) := fun n hn => h n (List.mem_of_mem_drop hn)
/-- Bytes, filled up to sixteen with noughts. -/
def padB (l : List Nat) : B16 := ⟨(l.map (· % 256) ++ List.replicate 16 0).take 16, by simp, (Bys.append2 (fun m hm => by obtain ⟨x, _, rfl⟩ := List.mem_map.1 hm; exact Nat.mod_lt _ (by omega)) (bys_zero 16)).take2 16⟩
theorem padB_at (l : List Nat) (h : Bys l) (i : Nat) (hi : i < 16) : (padB l).at i = l.getD i 0 := by
  have hz : ∀ k, (List.replicate 16 0)[k]?.getD 0 = 0 := fun k => by
    by_cases hk : k < 16
    · rw [List.getElem?_replicate, if_pos hk]; rfl
    · rw [List.getElem?_replicate, if_neg hk]; rfl
  have hx := h.at i
  generalize hZ : List.replicate 16 0 = Z at hz
  unfold padB B16.at
  simp only [List.getD_eq_getElem?_getD, List.getElem?_take, hi, if_true, hZ]
  by_cases h1 : i < l.length
  · rw [List.getElem?_append_left (by simpa using h1)]
    simp [h1] at hx ⊢
    omega
  · rw [List.getElem?_append_right (by simp; omega), List.getElem?_eq_none (by omega : l.length ≤ i), hz]
    rfl
theorem came_bys {L : List Nat} (h : Bys L) (j : Nat) (err n : Int) : Bys (came L j err n) := by
  unfold came
  split
  · intro x hx; simp at hx
  · split
    · intro x hx; simp at hx
    · split
      · intro x hx; simp at hx
      · exact (h.drop2 j).take2 _
theorem splice_ad (v : Int) (l : List Nat) (h : Bys l) : (splice (Ad.mk v B16.zero).cs.toList 1 ((l.take 16).map byc)).toArray = (Ad.mk v (padB l)).cs := by
  apply Array.ext_getElem?
  intro i
  rw [List.getElem?_toArray]
  have hl : 1 + ((l.take 16).map byc).length ≤ (Ad.mk v B16.zero).cs.toList.length := by simp [Ad.size]; omega
  rw [splice_get hl]
  rcases i with _ | i
  · rw [if_pos (by omega), Array.getElem?_toList, Ad.c0, Ad.c0]
  · rw [if_neg (by omega), show i + 1 = 1 + i from by omega]
    have e1 := Ad.c1 ⟨v, padB l⟩ i
    rw [e1]
    by_cases h1 : i < 16
    · rw [B16.get _ i h1, padB_at l h i h1]
      by_cases h2 : i < l.length
      · rw [if_pos (by simp; omega), show 1 + i - 1 = i from by omega]
        simp [byc, List.getElem?_take, h1, h2]
      · rw [if_neg (by simp; omega), Array.getElem?_toList, Ad.c1, B16.get _ i h1]
        have e3 : l.getD i 0 = 0 := by simp [List.getElem?_eq_none (by omega : l.length ≤ i)]
        have e4 : ∀ i, i < 16 → B16.zero.at i = 0 := by decide +kernel
        rw [e3]
        exact congrArg (fun x : Nat => some (Value.int .u8 (x : Int))) (e4 i h1)
    · rw [if_neg (by simp; omega), Array.getElem?_toList, Array.getElem?_eq_none (by rw [Ad.size]; omega), Array.getElem?_eq_none (by rw [B16.size]; omega)]

theorem Lies.ahead2 {w : World} {a : Option Addr} {l : List Nat} (h : Lies w a l) (o : Nat) : Lies w a (l.take o) := by
  rcases h with rfl | ⟨b, off, rfl, hlt, hc⟩
  · exact .inl (by simp)
  · refine .inr ⟨_, _, rfl, hlt, fun i hi => ?_⟩
    rw [List.length_take] at hi
    rw [hc i (by omega)]
    simp [List.getElem?_take, show i < o by omega]

end Go.Proofs.YtclkfmblogkakaaDoor
namespace Go.Proofs.YtclkfmblogkakaaDoor
open Go.RowKit Go.Shelf
set_option linter.unusedVariables false
attribute [local go_sem ↓] load_b16_rule store_b16_rule load_ad_rule store_ad_rule load_px_rule store_px_rule eq_b16_rule eq_ad_rule eq_px_rule build_ad_rule build_px_rule

theorem results_cell_tmp2 {fn : Func} {p u t : Tmp} {ty : TypeId} (h : fn.results = #[.cell p ty, .tmp u, .tmp t]) (tmps : Array Value) (P : Program) (w : World) :
    (results fn tmps).run P w =
      ((asAddr (tmps.getD p undef)).run P w).andThen fun a w₁ => ((loadVar ty a).run P w₁).andThen fun v w₂ => .ok (.tuple #[v, tmps.getD u undef, tmps.getD t undef]) w₂ := by
  simp only [results, h]
  simp [Sem.run_bind, Result.andThen]
theorem results_blk2 {fn : Func} {p u t : Tmp} {ty : TypeId} (h : fn.results = #[.cell p ty, .tmp u, .tmp t]) (tmps : Array Value) (w : World) (g : Nat) (vs : Array Value) (d : TypeDesc)
    (hp : tmps.getD p undef = .pointer (some ⟨g, 0, none⟩)) (hb : Blk w g ty vs) (hu : Tryd.prog.underlying ty = some d) (hd : d.isRow = true) (hi : (Tryd.prog.info? ty).map (·.size) = some vs.size) :
    (results fn tmps).run Tryd.prog w = .ok (.tuple #[.agg vs, tmps.getD u undef, tmps.getD t undef]) w := by
  have hl := run_loadVar_row (P := Tryd.prog) w g ty ty vs (0, 0) d hb hu (by cases d <;> simp_all) hi
  rw [results_cell_tmp2 h, hp]
  simp [asAddr, hl, Result.andThen]

end Go.Proofs.YtclkfmblogkakaaDoor
namespace Go.Proofs.YtclkfmblogkakaaDoor
open Go.RowKit Go.Shelf
set_option linter.unusedVariables false

def padF (L : List Nat) (k n : Nat) : B16 := padB ((L.drop k).take (fill8 n))
noncomputable def bodyE (L : List Nat) (k n : Nat) (wrong : Int) : Int := if L.length < k + fill8 n then 7 else if keptB (padF L k n) n = padF L k n then 0 else wrong
def by0 (L : List Nat) : Nat := L.getD 0 0
def by1 (L : List Nat) : Nat := L.getD 1 0
noncomputable def decAE (L : List Nat) : Int := if L.length < 1 then 7 else if wid (by0 L : Int) = 0 then 150 else bodyE L 1 (wid (by0 L : Int)) 150
noncomputable def decAX (L : List Nat) : Ad := if decAE L = 0 then ⟨(by0 L : Int), padF L 1 (wid (by0 L : Int))⟩ else Ad.zero
noncomputable def decAN (L : List Nat) : Nat := if decAE L = 0 then 1 + fill8 (wid (by0 L : Int)) else 0
noncomputable def decPE (L : List Nat) : Int := if L.length < 1 then 7 else if wid (by0 L : Int) = 0 then 151 else if L.length < 2 then 7 else if wid (by0 L : Int) < by1 L then 151 else bodyE L 2 (by1 L) 151
noncomputable def decPX (L : List Nat) : Px := if decPE L = 0 then ⟨⟨(by0 L : Int), padF L 2 (by1 L)⟩, (by1 L : Int)⟩ else Px.zero
noncomputable def decPN (L : List Nat) : Nat := if decPE L = 0 then 2 + fill8 (by1 L) else 0

theorem t18_get (L : List Nat) (i : Nat) (h : i < 18) : (L.take 18).getD i 0 = L.getD i 0 := by simp [List.getElem?_take, h]
theorem t18_drop (L : List Nat) (k f : Nat) (h : k + f ≤ 18) : ((L.take 18).drop k).take f = (L.drop k).take f := by
  apply List.ext_getElem?
  intro i
  rw [List.getElem?_take, List.getElem?_take]
  by_cases hi : i < f
  · rw [if_pos hi, if_pos hi, List.getElem?_drop, List.getElem?_drop, List.getElem?_take, if_pos (by omega)]
  · rw [if_neg hi, if_neg hi]
theorem kept_pad_nil (n : Nat) : keptB (padB []) n = padB [] := by
  apply bt_ext
  intro i hi
  rw [bt_kept _ _ _ hi]
  have : ∀ i, i < 128 → bt (padB []) i = false := by decide +kernel
  rw [this i hi]
  simp
theorem fill8_le {n : Nat} (h : n ≤ 128) : fill8 n ≤ 16 := by unfold fill8; omega
/-- What the error comes to, the bytes of the number taken off at k. -/
theorem body_err (L : List Nat) (k n : Nat) (fault : Int) (wr : Bool) (hk : k ≤ (L.take 18).length) (hn : k + fill8 n ≤ 18) (hf : fault ≠ 0) :
    (if (if keptB (padB (came (L.take 18) k 0 (fill8 n : Nat))) n = padB (came (L.take 18) k 0 (fill8 n : Nat)) then wr else if (offTo (L.take 18).length k 0 (fill8 n : Nat)).2 = 0 then true else wr) = true then fault else (offTo (L.take 18).length k 0 (fill8 n : Nat)).2) = (if wr = true then fault else bodyE L k n fault) ∧
    (wr = false → bodyE L k n fault = 0 → (offTo (L.take 18).length k 0 (fill8 n : Nat)).1 = k + fill8 n ∧ padB (came (L.take 18) k 0 (fill8 n : Nat)) = padF L k n) ∧ (offTo (L.take 18).length k 0 (fill8 n : Nat)).1 ≤ (L.take 18).length := by
  have hlen : (L.take 18).length = min 18 L.length := List.length_take
  by_cases h : k + fill8 n ≤ (L.take 18).length
  · rw [came_some h, offTo_some h, t18_drop L k (fill8 n) hn]
    have h2 : ¬ L.length < k + fill8 n := by omega
    refine ⟨?_, fun _ _ => ⟨rfl, rfl⟩, h⟩
    unfold bodyE
    rw [if_neg h2]
    show (if (if keptB (padF L k n) n = padF L k n then wr else if (0 : Int) = 0 then true else wr) = true then fault else 0) = _
    by_cases h3 : keptB (padF L k n) n = padF L k n
    · rw [if_pos h3, if_pos h3]
    · rw [if_neg h3, if_neg h3]
      cases wr <;> simp
  · have hd : dry (L.take 18).length k 0 (fill8 n) := .inr (by omega)
    rw [came_none hk hd, offTo_none hk hd, if_pos (kept_pad_nil n)]
    have h2 : L.length < k + fill8 n := by omega
    unfold bodyE
    rw [if_pos h2]
    exact ⟨rfl, fun _ h9 => absurd h9 (by decide), hk⟩
theorem body_dry (L : List Nat) (k n : Nat) (fault e : Int) (wr : Bool) (he : e ≠ 0) :
    (if (if keptB (padB (came (L.take 18) k e (fill8 n : Nat))) n = padB (came (L.take 18) k e (fill8 n : Nat)) then wr else if (offTo (L.take 18).length k e (fill8 n : Nat)).2 = 0 then true else wr) = true then fault else (offTo (L.take 18).length k e (fill8 n : Nat)).2) = (if wr = true then fault else e) ∧ (offTo (L.take 18).length k e (fill8 n : Nat)).1 = k := by
  have h1 : offTo (L.take 18).length k e (fill8 n : Nat) = (k, e) := by unfold offTo; rw [if_pos he]
  rw [h1]
  refine ⟨?_, rfl⟩
  show (if (if _ then wr else if e = 0 then true else wr) = true then fault else e) = _
  rw [if_neg he]
  split <;> rfl
theorem px_ans {L : List Nat} (h : decPE L ≠ 0) : decPX L = Px.zero ∧ decPN L = 0 := ⟨if_neg h, if_neg h⟩
theorem ad_ans {L : List Nat} (h : decAE L ≠ 0) : decAX L = Ad.zero ∧ decAN L = 0 := ⟨if_neg h, if_neg h⟩

end Go.Proofs.YtclkfmblogkakaaDoor
namespace Go.Proofs.YtclkfmblogkakaaDoor
open Go.RowKit Go.Shelf
set_option linter.unusedVariables false

theorem build_b16_rule (ps : Array (Nat × Value)) : Instr.build 61 ps = buildSem 61 ps := rfl
def tenB : B16 := ⟨[10, 1, 2, 3, 0, 0, 0, 0, 0, 0, 0, 0, 0, 0, 0, 0], rfl, by unfold Bys; decide⟩
def ten8 : B16 := ⟨[10, 0, 0, 0, 0, 0, 0, 0, 0, 0, 0, 0, 0, 0, 0, 0], rfl, by unfold Bys; decide⟩
def tenA : Ad := ⟨4, tenB⟩
def tenP : Px := ⟨⟨4, ten8⟩, 8⟩
theorem build_ten (w : World) : (buildSem 61 #[(0, .int .u8 10), (1, .int .u8 1), (2, .int .u8 2), (3, .int .u8 3)]).run Tryd.prog w = .ok (.agg tenB.cs) w := by kernel_rfl
theorem ten_kept : keptB tenB 8 = ten8 := B16.same rfl
theorem ten8_kept : keptB ten8 8 = ten8 := B16.same rfl
theorem ten_clear : clear tenB 32 := by
  have : ∀ i, i < 128 → 32 ≤ i → bt tenB i = false := by decide +kernel
  exact fun i h1 h2 => this i h2 h1
theorem ten8_clear : clear ten8 8 := (kept_iff _ _).1 ten8_kept
theorem ten_okA : okA tenA := ⟨by decide, ten_clear⟩
theorem ten_okP : okP tenP := ⟨⟨by decide, clear_mono ten8_clear (by decide)⟩, by decide, by decide, ten8_clear⟩
theorem ten_ofP : ofP tenA 8 = tenP := by
  have : ofP tenA 8 = ⟨⟨4, keptB tenB 8⟩, 8⟩ := if_pos ⟨ten_okA, by decide, by decide⟩
  rw [this, ten_kept]
  rfl
theorem ten_ofE : ofE tenA 8 = 0 := by
  unfold ofE
  rw [if_pos ten_okA, if_pos (by decide)]
theorem ten_hasM : hasM tenP tenA := ⟨ten_okP, ten_okA, rfl, ten_kept.symm⟩
theorem ten_enc : encP tenP = [4, 8, 10] := rfl
theorem ten_decE : decPE [4, 8, 10] = 0 := by
  unfold decPE
  rw [if_neg (by decide), if_neg (by decide), if_neg (by decide), if_neg (by decide)]
  unfold bodyE
  have e : padF [4, 8, 10] 2 (by1 [4, 8, 10]) = ten8 := B16.same rfl
  rw [if_neg (by decide), e, show by1 [4, 8, 10] = 8 from rfl, if_pos ten8_kept]
theorem ten_decX : decPX [4, 8, 10] = tenP := by
  have h : decPX [4, 8, 10] = ⟨⟨(by0 [4, 8, 10] : Int), padF [4, 8, 10] 2 (by1 [4, 8, 10])⟩, (by1 [4, 8, 10] : Int)⟩ := if_pos ten_decE
  have e : padF [4, 8, 10] 2 (by1 [4, 8, 10]) = ten8 := B16.same rfl
  rw [h, e]
  rfl
theorem ten_decN : decPN [4, 8, 10] = 3 := by
  have h : decPN [4, 8, 10] = 2 + fill8 (by1 [4, 8, 10]) := if_pos ten_decE
  rw [h]
  rfl
theorem ten_nib : nibW tenA 1 = 10 := by
  unfold nibW
  rw [if_pos (by decide)]
  unfold nibV bitV
  rw [if_pos ⟨ten_okA, by decide, by decide⟩, if_pos ⟨ten_okA, by decide, by decide⟩, if_pos ⟨ten_okA, by decide, by decide⟩, if_pos ⟨ten_okA, by decide, by decide⟩]
  decide +kernel
/-- What owns a row of bytes lies. -/
theorem own_lies {w : World} {B : Nat} {v : Value} {l : List Nat} (h : w.ownsRow B 5 1 v l.length (l.map byc)) : ∃ a cap, v = .slice a l.length cap ∧ Lies w a l ∧ l.length ≤ cap ∧ cap ≤ 9223372036854775807 ∧ (a = none → l = []) := by
  rcases h.2 with ⟨rfl, h0⟩ | ⟨g, cap, cur, rfl, hb, hg, hc, hm, hs, ht⟩
  · have : l = [] := List.eq_nil_of_length_eq_zero h0
    subst this
    exact ⟨none, 0, rfl, .inl rfl, Nat.le_refl _, by omega, fun _ => rfl⟩
  · refine ⟨_, cap, rfl, ?_, hc, by unfold maxLen at hm; omega, fun e => by cases e⟩
    refine .inr ⟨g, 0, rfl, (Array.getElem?_eq_some_iff.1 hg).1, fun i hi => ?_⟩
    rw [Nat.zero_add]
    have h1 : cur.toList[i]? = (l.map byc)[i]? := by
      rw [← ht, List.getElem?_take, if_pos (by omega)]
    have h2 : w.cell? ⟨g, i, none⟩ = cur[i]? := cell_of_row w g i cur _ (0, 0) hg
    rw [h2, ← Array.getElem?_toList, h1]
    simp [byc, hi]
attribute [local go_sem ↓] load_b16_rule store_b16_rule load_ad_rule store_ad_rule load_px_rule store_px_rule eq_b16_rule eq_ad_rule eq_px_rule build_ad_rule build_px_rule build_b16_rule

end Go.Proofs.YtclkfmblogkakaaDoor
namespace Go.Proofs.YtclkfmblogkakaaDoor
open Go.RowKit Go.Shelf
set_option linter.unusedVariables false

/-- Which of two ints comes first. -/
def cmpI (x y : Int) : Int := if x < y then -1 else if y < x then 1 else 0
/-- The first one that is not nought. -/
def orL : List Int → Int
  | [] => 0
  | x :: l => if x = 0 then orL l else x
noncomputable def cmpP (p q : Px) : Int := orL [cmpI p.a.v q.a.v, cmpB p.a.b.l q.a.b.l, cmpI p.n q.n]
set_option maxHeartbeats 400000 in
theorem nanI (x : Int) (w : World) : Calls Tryd.prog 100 #[.int .i64 x] w fun e w' => e = .returned (.bool false) ∧ w = w' := by
  have h : (x != x) = false := by simp
  go_enter Tryd.func100, Tryd.ntmps100
  go_wp2
  go_ret
  exact ⟨rfl, rfl⟩
set_option maxHeartbeats 800000 in
theorem cmpI_any (x y : Int) (w : World) : Calls Tryd.prog 82 #[.int .i64 x, .int .i64 y] w fun e w' => e = .returned (.int .i64 (cmpI x y)) ∧ w = w' := by
  have h3 : (decide (x < y) = true ∧ cmpI x y = -1) ∨ (decide (x < y) = false ∧ decide (y < x) = true ∧ cmpI x y = 1) ∨ (decide (x < y) = false ∧ decide (y < x) = false ∧ cmpI x y = 0) := by
    unfold cmpI
    by_cases h1 : x < y
    · simp [h1]
    · by_cases h2 : y < x
      · simp [h1, h2]
      · simp [h1, h2]
  generalize cmpI x y = z at *
  rcases h3 with ⟨d1, rfl⟩ | ⟨d1, d2, rfl⟩ | ⟨d1, d2, rfl⟩
  all_goals
    go_enter Tryd.func82, Tryd.ntmps82
    go_wp2_with (go_at_call 100; refine (nanI _ _).mono ?_; rintro e w' ⟨rfl, rfl⟩)
    go_ret
    exact ⟨rfl, rfl⟩
theorem or_drop (l : List Int) (k : Nat) (h : k < l.length) : orL (l.drop k) = if l.getD k 0 = 0 then orL (l.drop (k + 1)) else l.getD k 0 := by
  rw [List.drop_eq_getElem_cons h]
  simp [orL, h]
set_option maxHeartbeats 800000 in
theorem or_any (l : List Int) (n : Nat) (hn : l.length = n) (hm : n < 100) (g : Nat) (w : World) (hc : ∀ j, j < n → w.cell? ⟨g, j, none⟩ = some (.int .i64 (l.getD j 0))) : Calls Tryd.prog 81 #[.slice (some ⟨g, 0, none⟩) n n] w fun e w' => e = .returned (.int .i64 (orL l)) ∧ w = w' := by
  have H := Lib.hid (And.intro hn hc)
  clear hn hc
  go_enter Tryd.func81, Tryd.ntmps81
  go_wp2_with fail
  go_loopw [5, 8] (fun u i wr => ∃ k : Nat, k ≤ n ∧ i = .int .i64 k ∧ orL (l.drop k) = orL l ∧ wr = w) (fun u i _ => n - (intOf i).toNat)
  case atStart => exact ⟨0, Nat.zero_le _, rfl, by rw [List.drop_zero], by trivial⟩
  case round =>
    obtain ⟨k, hk, rfl, ho, rfl⟩ := hrel
    by_cases hlt : k < n
    · have hc := H.out.2 k hlt
      have hd := or_drop l k (by have := H.out.1; omega)
      have HO := Lib.hid (And.intro ho hd)
      generalize l.getD k 0 = x at *
      clear ho hd
      by_cases hx : x = 0
      · have HX := Lib.hid hx
        have d1 : (x != 0) = false := by simp [hx]
        clear hx
        go_wp2
        go_roundw
        case rel => exact ⟨k + 1, by omega, by go_num, by rw [← HO.out.1, HO.out.2, if_pos HX.out], by trivial⟩
        case measure => simp [intOf]; omega
      · have d1 : (x != 0) = true := by simp [hx]
        have HX := Lib.hid hx
        clear hx
        go_wp2
        go_ret
        exact ⟨by rw [← HO.out.1, HO.out.2, if_neg HX.out]; rfl, rfl⟩
    · obtain rfl : k = n := by omega
      have HO := Lib.hid (show orL l = 0 by rw [← ho, List.drop_eq_nil_of_le (by have := H.out.1; omega)]; rfl)
      clear ho
      go_wp2
      go_ret
      exact ⟨by rw [HO.out]; rfl, rfl⟩

attribute [local go_sem ↓] load_b16_rule store_b16_rule load_ad_rule store_ad_rule load_px_rule store_px_rule eq_b16_rule eq_ad_rule eq_px_rule build_ad_rule build_px_rule build_b16_rule

theorem px_lies {W : World} {g : Nat} {p : Px} (h : Blk W g 65 p.cs) : ∀ w', Below W.heap.size W w' → Lies w' (some ⟨g, 1, none⟩) p.a.b.l := fun w' hb => by
  have h' := h.later hb
  refine .inr ⟨g, 1, rfl, h'.lt, fun i hi => ?_⟩
  have hi16 : i < 16 := by rw [← p.a.b.len]; exact hi
  rw [h'.cell, p.cb i hi16, p.a.b.get i hi16]
  simp [B16.at, hi]

set_option maxRecDepth 100000 in
set_option maxHeartbeats 1600000 in
theorem compare_any (p q : Px) (w : World) : Calls Tryd.prog 61 #[.agg p.cs, .agg q.cs] w fun e w' => e = .returned (.int .i64 (cmpP p q)) ∧ Below w.heap.size w w' := by
  obtain ⟨W1, hW1⟩ : ∃ W1, (w.alloc (.cells p.cs 65)).alloc (.cells q.cs 65) = W1 := ⟨_, rfl⟩
  have hb1 : Below w.heap.size w W1 := by rw [← hW1]; exact (((Below.refl w.heap.size w).alloc (Nat.le_refl _) _).alloc (by simp) _)
  have b1 : Blk W1 (w.heap.size) 65 p.cs := by
    have h9 := Blk.new w 65 p.cs
    rw [← hW1]; exact (h9.alloc _)
  have b2 : Blk W1 (w.heap.size + 1) 65 q.cs := by
    have h9 := Blk.new (w.alloc (.cells p.cs 65)) 65 q.cs
    rw [World.size_alloc] at h9
    rw [← hW1]; exact h9
  have LPp := px_p b1
  have LAp := px_a b1
  have LBp := px_b b1
  have LVp := px_v b1
  have LNp := px_n b1
  have LPq := px_p b2
  have LAq := px_a b2
  have LBq := px_b b2
  have LVq := px_v b2
  have LNq := px_n b2
  have LIp := px_lies b1
  have LIq := px_lies b2
  have h0 : Below W1.heap.size W1 W1 := Below.refl _ _
  have HB := Lib.hid hb1
  clear hb1 b1 b2
  have LD := bel_drew_all W1
  have LE := bel_alloc_all W1
  have HCV := cmpI_any p.a.v q.a.v
  have HCN := cmpI_any p.n q.n
  have HCB := fun w' h => bcompare_any _ _ 16 16 16 16 _ _ w' p.a.b.len q.a.b.len p.a.b.bys q.a.b.bys (LIp w' h) (LIq w' h)
  have HOR := or_any [cmpI p.a.v q.a.v, cmpB p.a.b.l q.a.b.l, cmpI p.n q.n] 3 rfl (by omega)
  have HE := Lib.hid (show orL [cmpI p.a.v q.a.v, cmpB p.a.b.l q.a.b.l, cmpI p.n q.n] = cmpP p q from rfl)
  generalize cmpI p.a.v q.a.v = x1 at *
  generalize cmpI p.n q.n = x3 at *
  generalize cmpB p.a.b.l q.a.b.l = x2 at *
  clear LIp LIq
  go_enter Tryd.func61, Tryd.ntmps61
  go_wp2_with fail
  refine wp_region_linX (fun w' => Below W1.heap.size W1 w') [19, 20] [0, 1, 2, 3, 4, 5, 6, 7, 8, 9, 10, 11, 12, 13, 14, 15, 16, 17, 18, 19, 20, 21] (by kernel_rfl) (by kernel_rfl) (bel_drew (by assumption)) ?_
  (repeat (first | (refine linX_off rfl rfl (by rfl) ?_; (try simp only [Act.put, List.getElem_toArray, List.getElem_cons_zero, List.getElem_cons_succ, List.setIfInBounds_toArray, List.set_cons_zero, List.set_cons_succ])) | (refine linX_op (v := ?_) rfl rfl (by rfl) (fun w9 hS9 => ?_) ?_; rotate_left; (focus (((try dsimp only at hS9); go_simp; (try go_bits)) <;> with_reducible rfl)); (try simp only [Act.put, List.getElem_toArray, List.getElem_cons_zero, List.getElem_cons_succ, List.setIfInBounds_toArray, List.set_cons_zero, List.set_cons_succ])) | (refine linX_fn (f := 82) rfl rfl (by rfl) rfl rfl (enters_of Tryd.func82 (by kernel_rfl) rfl) (fun w9 hS9 => (HCV w9).mono (fun e w' h => ⟨h.1, h.2⟩)) ?_ ?_; (focus (simp [Act.eval]; done)); (try simp only [Act.put, List.getElem_toArray, List.getElem_cons_zero, List.getElem_cons_succ, List.setIfInBounds_toArray, List.set_cons_zero, List.set_cons_succ])) | (refine linX_fn (f := 82) rfl rfl (by rfl) rfl rfl (enters_of Tryd.func82 (by kernel_rfl) rfl) (fun w9 hS9 => (HCN w9).mono (fun e w' h => ⟨h.1, h.2⟩)) ?_ ?_; (focus (simp [Act.eval]; done)); (try simp only [Act.put, List.getElem_toArray, List.getElem_cons_zero, List.getElem_cons_succ, List.setIfInBounds_toArray, List.set_cons_zero, List.set_cons_succ])) | (refine linX_fn (f := 83) rfl rfl (by rfl) rfl rfl (enters_of Tryd.func83 (by kernel_rfl) rfl) (fun w9 hS9 => (HCB w9 hS9).mono (fun e w' h => ⟨h.1, h.2⟩)) ?_ ?_; (focus (simp [Act.eval]; done)); (try simp only [Act.put, List.getElem_toArray, List.getElem_cons_zero, List.getElem_cons_succ, List.setIfInBounds_toArray, List.set_cons_zero, List.set_cons_succ]))))
  refine linX_do (v := .slice (some ⟨W1.heap.size, 0, none⟩) 3 3) (w' := (W1.alloc (.cells #[.int .i64 x1, .int .i64 x2, .int .i64 x3] 3)).drew) rfl rfl (by rfl) ?_ ?_ ?_; (focus (go_simp; done))
  · exact LD _ (LE _ _ h0)
  (try simp only [Act.put, List.getElem_toArray, List.getElem_cons_zero, List.getElem_cons_succ, List.setIfInBounds_toArray, List.set_cons_zero, List.set_cons_succ])
  have hk3 : Below W1.heap.size W1 (W1.alloc (.cells #[.int .i64 x1, .int .i64 x2, .int .i64 x3] 3)).drew := LD _ (LE _ _ h0)
  have HC3 : ∀ j, j < 3 → (W1.alloc (.cells #[.int .i64 x1, .int .i64 x2, .int .i64 x3] 3)).drew.cell? ⟨W1.heap.size, j, none⟩ = some (.int .i64 ([x1, x2, x3].getD j 0)) := fun j hj => by
    rw [(Blk.drew (Blk.new W1 3 _)).cell]
    match j, hj with
    | 0, _ => rfl
    | 1, _ => rfl
    | 2, _ => rfl
  generalize (W1.alloc (.cells #[.int .i64 x1, .int .i64 x2, .int .i64 x3] 3)).drew = w3 at *
  refine linX_call (f := 81) (args := #[.slice (some ⟨W1.heap.size, 0, none⟩) 3 3]) rfl rfl (by rfl) rfl rfl (enters_of Tryd.func81 (by kernel_rfl) rfl) ?_ ?_; (focus (simp [Act.eval]; done)); refine (HOR W1.heap.size w3 HC3).mono ?_; rintro e w4 ⟨rfl, rfl⟩; refine ⟨_, rfl, hk3, ?_⟩
  (try simp only [Act.put, List.getElem_toArray, List.getElem_cons_zero, List.getElem_cons_succ, List.setIfInBounds_toArray, List.set_cons_zero, List.set_cons_succ])
  (repeat (first | (refine linX_off rfl rfl (by rfl) ?_; (try simp only [Act.put, List.getElem_toArray, List.getElem_cons_zero, List.getElem_cons_succ, List.setIfInBounds_toArray, List.set_cons_zero, List.set_cons_succ])) | (refine linX_op (v := ?_) rfl rfl (by rfl) (fun w9 hS9 => ?_) ?_; rotate_left; (focus (((try dsimp only at hS9); go_simp; (try go_bits)) <;> with_reducible rfl)); (try simp only [Act.put, List.getElem_toArray, List.getElem_cons_zero, List.getElem_cons_succ, List.setIfInBounds_toArray, List.set_cons_zero, List.set_cons_succ])) ))
  refine linX_nil ?_
  go_wp2
  go_ret
  exact ⟨by rw [HE.out]; rfl, bel_trans HB.out hk3⟩
end Go.Proofs.YtclkfmblogkakaaDoor
