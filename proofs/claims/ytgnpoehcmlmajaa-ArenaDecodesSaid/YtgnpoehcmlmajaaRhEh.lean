/-
  The document's Decode: its lists. Nothing here is a statement of the document.
-/
import Derived.Test.YtgnpoehcmlmajaaRhC
import Derived.Test.YtgnpoehcmlmajaaRfV
import Derived.Test.YtgnpoehcmlmajaaRhS
import Derived.Deep.DeepCutAuto
import Derived.Deep.CutBlock
namespace Go.Proofs.Ytgnpoehcmlmajaa
open Go.RowKit Go.Shelf
set_option linter.unusedVariables false
section
attribute [local go_sem ↓] load_ra_rule store_ra_rule load_rb_rule store_rb_rule build_rbs_rule
/-- The document's arena of words, its lists as they are. -/
def Mo.of (ws : List Nat) (R : List Rb) (L : Nat → List Nat) : Mo := ⟨ws.length, R, L, twoN ws 1, twoN ws 3, ((ws.getD 5 0 : Nat) : Int), ((ws.getD 6 0 : Nat) : Int), twoN ws 7⟩
theorem bl3_eq (R : List Rb) : R.map bl3 = R.map Rb.bl := rfl
theorem rfa_of {W : World} {lo : Nat} {v : Value} {vs : List Value} {R : List Rb} {ws : List Nat} {B : List Bl} (hbl : Blks W lo v vs R) (hRB : R.map bl3 = B) (hRw : ∀ r ∈ R, r.ws = wat ws r.x (2 ^ r.c)) (hC : Chain ws 16 B) (he : ws.getD 15 0 ≤ ws.length) (hhi : ws.length ≤ 16384)
    {L : Nat → List Nat} {ls : Nat → Value} (hls : ∀ c, c ≤ 5 → Ints W lo (ls c) (L c)) (hfl : ∀ c, c ≤ 5 → (L c).length ≤ 20000) : Rfa W lo v ls vs (Mo.of ws R L) := by
  have hm : ∀ r ∈ R, bl3 r ∈ B := fun r hr => by rw [← hRB]; exact List.mem_map_of_mem hr
  have hlen : R.length = B.length := by rw [← hRB]; simp
  refine ⟨hbl.row, hbl.len, hbl.wds, hbl.apart, fun r hr => ?_, fun i j r r' hi hj hx => ?_, hls, ?_, hfl, hhi⟩
  · obtain ⟨h1, h2, h3, h4⟩ := chain_mem hC (Nat.le_refl _) (hm r hr)
    have h1 : r.c ≤ 5 := h1
    have h4 : r.x + 2 ^ r.c ≤ ws.getD 15 0 := h4
    refine ⟨h1, ?_, by generalize 2 ^ r.c = z at *; omega⟩
    rw [hRw r hr]
    unfold wat
    rw [List.length_take, List.length_drop]
    omega
  · have hi' : B[i]? = some (bl3 r) := by rw [← hRB, List.getElem?_map, show R[i]? = some r from hi]; rfl
    have hj' : B[j]? = some (bl3 r') := by rw [← hRB, List.getElem?_map, show R[j]? = some r' from hj]; rfl
    exact chain_uq hC i j _ _ hi' hj' hx
  · have := chain_len hC
    show R.length ≤ 20000
    omega
/-- What the document's Decode answers. -/
def RdAns (ws : List Nat) (w w' : World) (e : Ending) : Prop :=
  ((e = .returned (.tuple #[.agg zeroRa, .int .i64 160]) ∧ ¬ ∃ B L, Dec ws B L) ∨
    ∃ B L M lo bv ls vs, e = .returned (.tuple #[.agg (Mo.vals M bv ls), .int .i64 0]) ∧ Dec ws B L ∧ Rfa w' lo bv ls vs M ∧ w.heap.size ≤ lo ∧ lo ≤ w'.heap.size ∧ Pur ws (begK B ws.length B.length) M) ∧ Below w.heap.size w w'
theorem rd_no {ws : List Nat} {w W : World} {tmps : Array Value} {g : Nat} (hp : tmps.getD 2 undef = .pointer (some ⟨g, 0, none⟩)) (hb : Blk W g 36 zeroRa) (he : tmps.getD 3 undef = .int .i64 160) (hB : Below w.heap.size w W) (hn : ¬ ∃ B L, Dec ws B L) :
    bodyPost Try.prog Try.f10 (fun e w' => RdAns ws w w' e) .ret { tmps := tmps, defers := [] } W := by
  refine bodyPost_ret (results_ra2 rfl tmps W g zeroRa hp hb rfl) rfl ?_
  rw [he]
  exact ⟨.inl ⟨rfl, hn⟩, hB⟩
theorem rd_yes {ws : List Nat} {w W : World} {tmps : Array Value} {g : Nat} {M : Mo} {bv : Value} {ls : Nat → Value} {vs : List Value} {lo : Nat} {B : List Bl} {L : Nat → List Nat} (hp : tmps.getD 2 undef = .pointer (some ⟨g, 0, none⟩)) (hb : Blk W g 36 (M.vals bv ls)) (he : tmps.getD 3 undef = .int .i64 0) (hB : Below w.heap.size w W) (hd : Dec ws B L) (hR : Rfa W lo bv ls vs M) (h1 : w.heap.size ≤ lo) (h2 : lo ≤ W.heap.size) (hP : Pur ws (begK B ws.length B.length) M) :
    bodyPost Try.prog Try.f10 (fun e w' => RdAns ws w w' e) .ret { tmps := tmps, defers := [] } W := by
  refine bodyPost_ret (results_ra2 rfl tmps W g _ hp hb rfl) rfl ?_
  rw [he]
  exact ⟨.inr ⟨B, L, M, lo, bv, ls, vs, rfl, hd, hR, h1, h2, hP⟩, hB⟩
theorem Blks.box {w w' : World} {lo g : Nat} {bv : Value} {vs : List Value} {R : List Rb} {C : Array Value} (h : Blks w lo bv vs R) (hb : Blk w g 36 C) (k : Kept [g] w w') : Blks w' lo bv vs R :=
  ⟨ownk h.row k (fun j hj h9 => by
    obtain rfl : j = g := by simpa using h9
    exact own_ne_blk h.row hb (by decide) hj.symm), h.len, fun i' b v' hb' hv' => ownk (h.wds i' b v' hb' hv') k (fun j hj h9 => by
    obtain rfl : j = g := by simpa using h9
    exact own_ne_blk (h.wds i' b v' hb' hv') hb (by decide) hj.symm), h.apart⟩
/-- Between the classes. -/
structure LO (w W1 W : World) (g0 ga : Nat) (bv : Value) (vs : List Value) (R : List Rb) (B : List Bl) (ws : List Nat) (c : Nat) (L : Nat → List Nat) (ls : Nat → Value) : Prop where
  bx : Blk W ga 36 ((Mo.of ws R L).vals bv ls)
  bl : Blks W W1.heap.size bv vs R
  li : ∀ d, d < c → Ints W (ga + 1) (ls d) (L d)
  nl : ∀ d, c ≤ d → ls d = .slice none 0 0
  z : Blk W g0 36 zeroRa
  hb : Below W1.heap.size W1 W
  lst : ∀ d, d < c → Lst ws (ws.getD (9 + d) 0) (L d) ∧ ∀ x ∈ L d, GoodB B d x
  cnt : (catL L c).length ≤ R.length
/-- Within a class. -/
structure LN (Wc W : World) (ga : Nat) (bv : Value) (R : List Rb) (B : List Bl) (ws : List Nat) (c m0 : Nat) (L : Nat → List Nat) (ls : Nat → Value) (l : List Nat) (lv : Value) (pn : Nat) : Prop where
  bx : Blk W ga 36 ((Mo.of ws R L).vals bv (upd ls c lv))
  own : W.ownsRow Wc.heap.size 3 1 lv l.length (ivl l)
  kp : Kept [ga] Wc W
  lx : LstX ws (ws.getD (9 + c) 0) l pn
  gd : ∀ x ∈ l, GoodB B c x
  ct : m0 + l.length ≤ R.length
  sm : pn < 4294967296
theorem len_cat (L : Nat → List Nat) : ∀ c d, d < c → (L d).length ≤ (catL L c).length
  | 0, d, h => by omega
  | c + 1, d, h => by
    rw [catL_succ, List.length_append]
    by_cases he : d = c
    · subst he; omega
    · have := len_cat L c d (by omega); omega
theorem LN.later {Wc W W' : World} {ga : Nat} {bv : Value} {R : List Rb} {B : List Bl} {ws : List Nat} {c m0 pn : Nat} {L : Nat → List Nat} {ls : Nat → Value} {l : List Nat} {lv : Value}
    (h : LN Wc W ga bv R B ws c m0 L ls l lv pn) (k : Below W.heap.size W W') : LN Wc W' ga bv R B ws c m0 L ls l lv pn :=
  ⟨h.bx.kept (Kept.of_below [] k) (by simp), owns_later h.own k, h.kp.trans (Kept.of_below [ga] k), h.lx, h.gd, h.ct, h.sm⟩
theorem good_none {R : List Rb} {B : List Bl} (hRB : R.map bl3 = B) {c pn : Nat} (h : ∀ b ∈ R, (b.x : Int) ≠ (pn : Int)) : ¬ GoodB B c pn := by
  rintro ⟨b, hb, hx, _⟩
  rw [← hRB] at hb
  obtain ⟨r, hr, rfl⟩ := List.mem_map.1 hb
  exact h r hr (by rw [show r.x = pn from hx])
theorem upd_upd {α : Type} (f : Nat → α) (k : Nat) (x y : α) : upd (upd f k x) k y = upd f k y := by
  funext d; unfold upd; split <;> rfl
theorem catL_upd (L : Nat → List Nat) (c : Nat) (l : List Nat) : catL (upd L c l) (c + 1) = catL L c ++ l := by
  have hk : ∀ k, k ≤ c → catL (upd L c l) k = catL L k := by
    intro k
    induction k with
    | zero => intro _; simp [catL]
    | succ k ih =>
      intro hk
      rw [catL_succ, catL_succ, ih (by omega)]
      unfold upd
      rw [if_neg (by omega)]
  rw [catL_succ, hk c (Nat.le_refl _)]
  unfold upd
  rw [if_pos rfl]
theorem LN.out {w W1 Wc W : World} {g0 ga : Nat} {bv : Value} {vs : List Value} {R : List Rb} {B : List Bl} {ws : List Nat} {c m0 : Nat} {L : Nat → List Nat} {ls : Nat → Value} {l : List Nat} {lv : Value}
    (h : LN Wc W ga bv R B ws c m0 L ls l lv 0) (hO : LO w W1 Wc g0 ga bv vs R B ws c L ls) (hm : (catL L c).length = m0) (hg : W1.heap.size ≤ ga) (hg0 : g0 < W1.heap.size) : LO w W1 W g0 ga bv vs R B ws (c + 1) (upd L c l) (upd ls c lv) := by
  have hgs : ga < Wc.heap.size := hO.bx.lt
  refine ⟨h.bx, hO.bl.box hO.bx h.kp, fun d hd => ?_, fun d hd => ?_, hO.z.kept h.kp (by simp; omega), hO.hb.trans (h.kp.below (by simpa using hg) hO.hb.size), fun d hd => ?_, ?_⟩
  · unfold upd
    by_cases he : d = c
    · rw [if_pos he, if_pos he]
      exact (Ints.of_own h.own).mono (by omega)
    · rw [if_neg he, if_neg he]
      exact (hO.li d (by omega)).kept h.kp (by simp)
  · unfold upd
    rw [if_neg (by omega)]
    exact hO.nl d (by omega)
  · unfold upd
    by_cases he : d = c
    · subst he
      rw [if_pos rfl]
      exact ⟨lstx_zero h.lx, h.gd⟩
    · rw [if_neg he]
      exact hO.lst d (by omega)
  · rw [catL_upd, List.length_append, hm]
    exact h.ct
/-- The document's arena as it stands within a class. -/
theorem LN.rfa {w W1 Wc W : World} {g0 ga : Nat} {bv : Value} {vs : List Value} {R : List Rb} {B : List Bl} {ws : List Nat} {c m0 pn : Nat} {L : Nat → List Nat} {ls : Nat → Value} {l : List Nat} {lv : Value}
    (h : LN Wc W ga bv R B ws c m0 L ls l lv pn) (hO : LO w W1 Wc g0 ga bv vs R B ws c L ls) (hg : W1.heap.size ≤ ga) (hRB : R.map bl3 = B) (hRw : ∀ r ∈ R, r.ws = wat ws r.x (2 ^ r.c)) (hC : Chain ws 16 B) (he : ws.getD 15 0 ≤ ws.length) (hhi : ws.length ≤ 16384) (hcnt : ∀ d, d < c → (L d).length ≤ 20000) (hR : R.length ≤ 20000) :
    Rfa W W1.heap.size bv (upd ls c lv) vs (Mo.of ws R (upd (fun d => if d < c then L d else []) c l)) := by
  have hgs : ga < Wc.heap.size := hO.bx.lt
  refine rfa_of (hO.bl.box hO.bx h.kp) hRB hRw hC he hhi (fun d hd => ?_) (fun d hd => ?_)
  · unfold upd
    by_cases he : d = c
    · rw [if_pos he, if_pos he]
      exact (Ints.of_own h.own).mono (by omega)
    · rw [if_neg he, if_neg he]
      dsimp only
      by_cases hdc : d < c
      · rw [if_pos hdc]
        exact ((hO.li d hdc).kept h.kp (by simp)).mono (by omega)
      · rw [if_neg hdc, hO.nl d (by omega)]
        exact Ints.nil _ _ _ _ (fun _ => rfl)
  · unfold upd
    by_cases he : d = c
    · rw [if_pos he]
      have := h.ct; omega
    · rw [if_neg he]
      dsimp only
      by_cases hdc : d < c
      · rw [if_pos hdc]; exact hcnt d hdc
      · rw [if_neg hdc]; simp
end
/-- The first root number is 0, or not (not to be seen through). -/
def Four0 (ws : List Nat) : Prop := ws.getD 5 0 = 0
def Four1 (ws : List Nat) : Prop := ws.getD 5 0 ≠ 0 ∧ ws.getD 6 0 = 0
def Four2 (ws : List Nat) : Prop := ws.getD 5 0 ≠ 0 ∧ ws.getD 6 0 ≠ 0
end Go.Proofs.Ytgnpoehcmlmajaa
