/-
  The contracts of prefix's reader: read, Err, refuse, taken, version, bits, addr. Nothing here is a statement of the document.
-/
import Derived.Test.YtclkfmblogkakaaGreatDoorOctH
import Derived.Test.YtclkfmblogkakaaGreatDoorDskB
import Derived.Laws.AppendOwnNone
import Derived.Test.YtclkfmblogkakaaGreatDoorPfxH
import Derived.Laws.CopyOwn
import Derived.Laws.Rows
namespace Go.Proofs.YtclkfmblogkakaaGreatDoor
open Go.RowKit
set_option linter.unusedVariables false

/-- In the variable at block x there is a slice of the call's own that holds these bytes. -/
def Out (w : World) (x : Nat) (l : List Nat) : Prop :=
  ∃ v, w.heap[x]? = some (.cells #[v] 22 (0, 0)) ∧ w.ownsRow (x + 1) 5 1 v l.length (l.map byc)

theorem out_next {x b : Nat} {l : List Nat} {w w1 : World} {v v' : Value} {o : Obj} (hx : w.heap[x]? = some (.cells #[v] 22 (0, 0))) (hown : w.ownsRow (x + 1) 5 1 v l.length (l.map byc))
    (hown' : w1.ownsRow (x + 1) 5 1 v' (l.length + 1) (l.map byc ++ [.int .u8 (b : Int)])) (hg : (w.alloc o).grownBy w1 v.ownBlock) :
    Out (w1.setCell ⟨x, 0, none⟩ v') x (l ++ [b]) ∧ Below x w (w1.setCell ⟨x, 0, none⟩ v') ∧ w1.cell? ⟨x, 0, none⟩ = some v ∧ w1.frozen? ⟨x, 0, none⟩ = false := by
  have hxl := lt_of_block hx
  have hne : some x ≠ v.ownBlock := fun e => by have := (hown.lt x e.symm).1; omega
  have hx1 : w1.heap[x]? = some (.cells #[v] 22 (0, 0)) := (hg.block x (by simp; omega) hne).trans ((Below.heap_alloc w o x hxl).trans hx)
  refine ⟨⟨v', one_setCell hx1, ?_⟩, ?_, cell_of_one hx1, free_of_one hx1⟩
  · have h := ownsRow_setCell_below hown' (a := ⟨x, 0, none⟩) (by show x < x + 1; omega) v'
    have e : (l ++ [b]).map byc = l.map byc ++ [.int .u8 (b : Int)] := by simp [byc]
    rw [e, List.length_append]
    exact h
  · exact (((Below.refl x w).alloc (by omega) o).grown hg (by simp; omega) (fun k hk => by have := (hown.lt k hk).1; omega)).setCell (Nat.le_refl _) _

set_option maxHeartbeats 800000 in
theorem tell_raw {x b : Nat} {l : List Nat} {w : World} (h : Out w x l) (hl : l.length ≤ 140737488300000) :
    Calls Tryz.prog 104 #[.int .u8 (b : Int), .pointer (some ⟨x, 0, none⟩)] w fun e w' => e = .returned (.tuple #[]) ∧ Out w' x (l ++ [b]) ∧ Below x w w' := by
  obtain ⟨i0, hi, hz0, hz1, hz2⟩ := info_parts Tryz.info5
  obtain ⟨v, hx, hown⟩ := h
  have h0 := cell_of_one hx
  have hxl := lt_of_block hx
  go_enter Tryz.func104, Tryz.ntmps104
  go_wp2_with (at_builtin; refine wpList_append_own _ rfl _ _ 22 rfl (x + 1) 5 i0 (.int .u8 0) 1 1 Tryz.underlying22 hi hz0 hz1 hz2 rfl (by decide) _ _ _ rfl (hown.alloc _) ⟨w.heap.size, 0, none⟩ 1 1 [.int .u8 (b : Int)] rfl rfl ?c1 ?c2 ?c3 ?c4 ?c5 ?_)
  case c1 =>
    intro j u hj
    match j, hj with
    | 0, hj => simp at hj; subst hj; simp [Addr.add]
  case c2 => intro u hu; simp at hu; subst hu; rfl
  case c3 => unfold maxLen; omega
  case c4 => omega
  case c5 => simp; omega
  intro v' w1 hown' hgrow _
  have R := out_next hx hown hown' hgrow
  have r3 := R.2.2.1
  have r4 := R.2.2.2
  have R1 := Lib.hid R.1
  have R2 := R.2.1
  obtain ⟨g', cap', rfl⟩ : ∃ g' cap', v' = .slice (some ⟨g', 0, none⟩) (l.length + 1) cap' := by
    rcases hown'.2 with ⟨_, h0⟩ | ⟨g', cap', cur, hv, _⟩
    · omega
    · exact ⟨g', cap', hv⟩
  clear R hown' hgrow hown hx h0
  go_wp2
  go_end0
  exact ⟨rfl, R1.out, R2⟩

/-- Below block x two worlds differ at block p at most. -/
structure Thru (p x : Nat) (w w' : World) : Prop where
  os : w'.os = w.os
  tape : w'.tape = w.tape
  output : w'.output = w.output
  size : w.heap.size ≤ w'.heap.size
  block : ∀ k, k < x → k ≠ p → w'.heap[k]? = w.heap[k]?
theorem Thru.refl (p x : Nat) (w : World) : Thru p x w w := ⟨rfl, rfl, rfl, Nat.le_refl _, fun _ _ _ => rfl⟩
theorem Thru.trans {p x : Nat} {a b c : World} (h : Thru p x a b) (k : Thru p x b c) : Thru p x a c :=
  ⟨k.os.trans h.os, k.tape.trans h.tape, k.output.trans h.output, Nat.le_trans h.size k.size, fun i h1 h2 => (k.block i h1 h2).trans (h.block i h1 h2)⟩
theorem Thru.set (p x i : Nat) (w : World) (v : Value) : Thru p x w (w.setCell ⟨p, i, none⟩ v) :=
  ⟨rfl, rfl, rfl, by simp [World.setCell], fun k h1 h2 => Below.heap_setCell _ _ _ _ h2⟩
theorem Thru.of {p x : Nat} {w w' : World} (h : Below x w w') : Thru p x w w' := ⟨h.os, h.tape, h.output, h.size, fun k hk _ => h.block k hk⟩

theorem Out.set {w : World} {p x i : Nat} {l : List Nat} (h : Out w x l) (hp : p < x) (v : Value) : Out (w.setCell ⟨p, i, none⟩ v) x l := by
  obtain ⟨u, hx, hown⟩ := h
  exact ⟨u, (Below.heap_setCell _ _ _ _ (Nat.ne_of_gt hp)).trans hx, ownsRow_setCell_below hown (a := ⟨p, i, none⟩) (by show p < x + 1; omega) v⟩

set_option maxHeartbeats 1600000 in
theorem take_raw {p g j x : Nat} {L : List Nat} {n : Int} {w : World} (h : Rd w p g L j 0) (hB : Bys L) (hx : Out w x []) (hxp : p < x) (hxg : g < x)
    (h0 : 0 ≤ n) (hn : n ≤ ((L.length - j : Nat) : Int)) (hlm : L.length ≤ 140737488300000) :
    Calls Tryz.prog 103 #[.pointer (some ⟨p, 0, none⟩), .int .i64 n, .func (.func 104) #[] #[.pointer (some ⟨x, 0, none⟩)]] w fun e w' =>
      e = .returned (.tuple #[]) ∧ Rd w' p g L (j + n.toNat) 0 ∧ Out w' x ((L.drop j).take n.toNat) ∧ Thru p x w w' := by
  obtain ⟨n, rfl⟩ := Int.eq_ofNat_of_zero_le h0
  have hle := h.le
  have hlt : decide (((L.length - j : Nat) : Int) < (n : Int)) = false := by simp; omega
  have hlt2 : decide (L.length - j < n) = false := by simp; omega
  have hlt3 : decide ((n : Int) < 0) = false := by simp
  go_enter Tryz.func103, Tryz.ntmps103
  go_wp2_with (first | (go_at_call 97; refine (err_any h).mono ?_; rintro e w' ⟨rfl, rfl⟩) | (go_at_call 98; refine (left_any h).mono ?_; rintro e w' ⟨rfl, rfl⟩))
  go_loopw [10] (fun i wr => ∃ k : Nat, k ≤ n ∧ i = .int .i64 k ∧ Rd wr p g L (j + k) 0 ∧ Out wr x ((L.drop j).take k) ∧ Thru p x w wr) (fun i _ => n - (intOf i).toNat)
  case atStart => exact ⟨0, Nat.zero_le _, rfl, h, by simpa using hx, Thru.refl _ _ _⟩
  case round =>
    obtain ⟨k, hk, rfl, hR, hX, hT⟩ := hrel
    clear h hx
    by_cases hk2 : k < n
    · have HM := Lib.hid (take_more L j k (by omega))
      have hlen : ((L.drop j).take k).length ≤ 140737488300000 := by simp; omega
      generalize htk : (L.drop j).take k = tk at *
      have HK := Lib.hid htk
      clear htk
      have hR2 := hR.off (by omega : j + k < L.length)
      have hX2 := hX.set hxp (i := 0) (restV g L.length (j + k + 1))
      have hT2 := hT.trans (Thru.set p x 0 wr (restV g L.length (j + k + 1)))
      go_wp2_with fail
      refine (next_any hR (by omega)).mono ?_
      rintro e w' ⟨rfl, rfl⟩
      go_wp2_with fail
      refine (tell_raw hX2 hlen).mono ?_
      rintro e w2 ⟨rfl, hX3, hB3⟩
      have hR3 : Rd w2 p g L (j + (k + 1)) 0 := hR2.kept (hB3.block p hxp) (hB3.block g hxg)
      have hT3 := hT2.trans (Thru.of hB3)
      have hX4 : Out w2 x ((L.drop j).take (k + 1)) := by rw [HM.out, List.getD_eq_getElem?_getD]; exact hX3
      clear hR hX hT hR2 hX2 hT2 hB3 hX3
      go_wp2
      go_roundw
      case rel => first | exact ⟨k + 1, by omega, by go_num, hR3, hX4, hT3⟩ | ((repeat apply Exists.intro); exact ⟨⟨k + 1, by omega, by go_num, hR3, hX4, hT3⟩, rfl⟩)
      case measure => simp [intOf]; omega
    · obtain rfl : k = n := by omega
      go_wp2
      go_end0
      exact ⟨rfl, hR, hX, hT⟩

/-- A slice of the call's own, as bytes that lie. -/
theorem owns_lies {w : World} {base : Nat} {v : Value} {l : List Nat} (h : w.ownsRow base 5 1 v l.length (l.map byc)) :
    ∃ a cap, v = .slice a l.length cap ∧ Lies w a l ∧ (∀ y, a = some y → base ≤ y.block) ∧ (a = none → cap = 0) := by
  rcases h.2 with ⟨rfl, h0⟩ | ⟨g, cap, cur, rfl, hb, hg, h1, h2, h3, h4⟩
  · exact ⟨none, 0, by rw [h0], .inl (List.eq_nil_of_length_eq_zero h0), by simp, fun _ => rfl⟩
  · refine ⟨some ⟨g, 0, none⟩, cap, rfl, .inr ⟨g, 0, rfl, lt_of_block hg, fun i hi => ?_⟩, fun y hy => by cases hy; exact hb, fun e => by cases e⟩
    rw [Nat.zero_add]
    have e : cur[i]? = (l.map byc)[i]? := by
      rw [← h4, Nat.mul_one, List.getElem?_take, if_pos hi]; simp
    simp only [World.cell?, hg, e]
    simp [byc, hi]

theorem Thru.grown {p x : Nat} {w w1 w' : World} (hA : w.grownBy w1 none) (h : Thru p x w1 w') (hx : w.heap.size ≤ x) : w.grownBy w' (some p) :=
  ⟨h.os.trans hA.os, h.tape.trans hA.tape, h.output.trans hA.output, Nat.le_trans hA.size h.size,
    fun k hk hp => (h.block k (by omega) (fun e => hp (by rw [e]))).trans (hA.block k hk (by simp))⟩

/-- What Raw hands back: bytes that lie in new memory, or nothing. -/
def Handed (w w' : World) (v : Value) (l : List Nat) : Prop := ∃ a cap, v = .slice a l.length cap ∧ Lies w' a l ∧ (∀ y, a = some y → w.heap.size ≤ y.block) ∧ (a = none → cap = 0)

theorem Out.handed {w w' : World} {l : List Nat} {v : Value} (hv : w'.heap[w.heap.size]? = some (.cells #[v] 22 (0, 0))) (hown : w'.ownsRow (w.heap.size + 1) 5 1 v l.length (l.map byc)) : Handed w w' v l := by
  obtain ⟨a, cap, h1, h2, h3, h4⟩ := owns_lies hown
  exact ⟨a, cap, h1, h2, fun y hy => by have := h3 y hy; omega, h4⟩

set_option maxHeartbeats 800000 in
theorem raw_any {p g j : Nat} {L : List Nat} {err n : Int} {w : World} (h : Rd w p g L j err) (hB : Bys L) (hlm : L.length ≤ 140737488300000) :
    Calls Tryz.prog 94 #[.pointer (some ⟨p, 0, none⟩), .int .i64 n] w fun e w' =>
      ∃ v, e = .returned v ∧ Handed w w' v (came L j err n) ∧ Aft w w' p g L j err n := by
  have hmf : ∀ (fn : Fn) (first cap : Array Value) (w : World), (Instr.makeFunc fn first cap).run Tryz.prog w = .ok (.func fn first cap) w := fun _ _ _ _ => rfl
  have hb : Below w.heap.size w (w.alloc (.cells #[.slice none 0 0] 22)) := (Below.refl _ _).alloc (Nat.le_refl _) _
  have h1 : Rd (w.alloc (.cells #[.slice none 0 0] 22)) p g L j err := h.below hb
  have hx : (w.alloc (.cells #[.slice none 0 0] 22)).heap[w.heap.size]? = some (.cells #[.slice none 0 0] 22 (0, 0)) := heap_alloc_new w _
  have hG : w.grownBy (w.alloc (.cells #[.slice none 0 0] 22)) none := World.grownBy_alloc _ _ _
  have hO : Out (w.alloc (.cells #[.slice none 0 0] 22)) w.heap.size [] := ⟨_, hx, World.ownsRow_nil _ _ _ _⟩
  have hp := h.lt
  have hg := h.own.lt
  have hxc := cell_of_one hx
  have hxc2 : ∀ i v, ((w.alloc (.cells #[.slice none 0 0] 22)).setCell ⟨p, i, none⟩ v).cell? ⟨w.heap.size, 0, none⟩ = some (.slice none 0 0) := fun i v =>
    (World.cell?_setCell_other _ _ _ _ (by intro e; have := congrArg Addr.block e; simp at this; omega)).trans hxc
  have hnil : ∀ w', Handed w w' (.slice none 0 0) [] := fun w' => ⟨none, 0, rfl, .inl rfl, by simp, fun _ => rfl⟩
  by_cases he : err = 0
  · subst he
    by_cases hn : n < 0
    · have e1 : came L j 0 n = [] := by simp [came, hn]
      have e2 : offTo L.length j 0 n = (j, 2) := by simp [offTo, hn]
      unfold Aft
      rw [e1, e2]
      go_enter Tryz.func94, Tryz.ntmps94
      go_wp2_with (go_at_call 103; refine (take_neg h1 hn).mono ?_; rintro e w' ⟨rfl, rfl⟩)
      go_ret
      rw [← World.setCell_alloc_past _ _ _ _ hp]
      exact ⟨_, rfl, hnil _, h1.err 2, grown_set hG _ _⟩
    · by_cases hs : ((L.length - j : Nat) : Int) < n
      · have e1 : came L j 0 n = [] := by simp [came, hn, hs]
        have e2 : offTo L.length j 0 n = (j, 7) := by simp [offTo, hn, hs]
        unfold Aft
        rw [e1, e2]
        go_enter Tryz.func94, Tryz.ntmps94
        go_wp2_with (go_at_call 103; refine (take_short h1 (by omega) hs).mono ?_; rintro e w' ⟨rfl, rfl⟩)
        go_ret
        rw [← World.setCell_alloc_past _ _ _ _ hp]
        exact ⟨_, rfl, hnil _, h1.err 7, grown_set hG _ _⟩
      · have e1 : came L j 0 n = (L.drop j).take n.toNat := by simp [came, hn, hs]
        have e2 : offTo L.length j 0 n = (j + n.toNat, 0) := by simp [offTo, hn, hs]
        unfold Aft
        rw [e1, e2]
        generalize hv : (L.drop j).take n.toNat = c
        have HV := Lib.hid hv
        clear hv e1 e2
        go_enter Tryz.func94, Tryz.ntmps94
        go_wp2_with fail
        refine (take_raw h1 hB hO hp hg (by omega) (by omega) hlm).mono ?_
        rintro e w1 ⟨rfl, hR, hX, hT⟩
        rw [HV.out] at hX
        obtain ⟨v, hvx, hvo⟩ := hX
        have hvc := cell_of_one hvx
        have hH := Out.handed hvx hvo
        have hA := hT.grown hG (Nat.le_refl _)
        clear hvx hvo hT
        go_wp2
        go_ret
        exact ⟨v, rfl, hH, hR, hA⟩
  · have e1 : came L j err n = [] := by simp [came, he]
    have e2 : offTo L.length j err n = (j, err) := by simp [offTo, he]
    unfold Aft
    rw [e1, e2]
    go_enter Tryz.func94, Tryz.ntmps94
    go_wp2_with (go_at_call 103; refine (take_err h1 he).mono ?_; rintro e w' ⟨rfl, rfl⟩)
    go_ret
    exact ⟨_, rfl, hnil _, h1, World.grownBy_alloc _ _ _⟩

theorem raw_nil {n : Int} {w : World} :
    Calls Tryz.prog 94 #[.pointer none, .int .i64 n] w fun e w' => e = .returned (.slice none 0 0) ∧ Below w.heap.size w w' := by
  have hmf : ∀ (fn : Fn) (first cap : Array Value) (w : World), (Instr.makeFunc fn first cap).run Tryz.prog w = .ok (.func fn first cap) w := fun _ _ _ _ => rfl
  go_enter Tryz.func94, Tryz.ntmps94
  go_wp2_with (go_at_call 103; refine (take_nil).mono ?_; rintro e w' ⟨rfl, rfl⟩)
  go_ret
  exact ⟨rfl, (Below.refl _ _).alloc (Nat.le_refl _) _⟩
end Go.Proofs.YtclkfmblogkakaaGreatDoor
namespace Go.Proofs.YtclkfmblogkakaaGreatDoor
open Go.RowKit
set_option linter.unusedVariables false

/-- Bytes that lie somewhere, appended to a row of the call's own. -/
theorem wpList_append_got {w : World} {ops : Array Oper} {rest : List Oper} {o : Oper} {a : Act} {Q : Exit → Act → World → Prop} (hgd : o.guard = none) (s x : Operand)
    (ho : o.op = .call { callee := .builtin .append, args := #[s, x], argTypes := #[22, 22] })
    (base : Nat) (v : Value) (n : Nat) (xs : List Value) (hs : a.eval s = v) (hown : w.ownsRow base 5 1 v n xs) (ao : Option Addr) (cap : Nat) (l : List Nat)
    (hx : a.eval x = .slice ao l.length cap) (hL : Lies w ao l) (hcap : ao = none → cap = 0) (hlen : n + l.length ≤ 140737488355328) (hbase : base ≤ w.heap.size)
    (h : ∀ v' w', w'.ownsRow base 5 1 v' (n + l.length) (xs ++ l.map byc) → w.grownBy w' v.ownBlock → wpList Tryz.prog ops Q rest (a.put o.dst v') w') : wpList Tryz.prog ops Q (o :: rest) a w := by
  obtain ⟨i0, hi, hz0, hz1, hz2⟩ := info_parts Tryz.info5
  cases ao with
  | none =>
    have hc := hcap rfl
    obtain rfl : l = [] := by
      rcases hL with h | ⟨_, _, h, _⟩
      · exact h
      · cases h
    subst hc
    refine wpList_append_own_none hgd s x 22 ho base 5 i0 1 Tryz.underlying22 hi v n xs hs hown hx (h v w (by simpa using hown) (World.grownBy.refl _ _))
  | some ad =>
    refine wpList_append_own w hgd s x 22 ho base 5 i0 (.int .u8 0) 1 1 Tryz.underlying22 hi hz0 hz1 hz2 rfl (by decide) v n xs hs hown ad l.length cap (l.map byc) hx (by simp) ?_ (byc_one l) (by unfold maxLen; omega) (by omega) hbase (fun v' w' h1 h2 _ => h v' w' h1 h2)
    intro j u hj
    by_cases h0 : l = []
    · subst h0; simp at hj
    · obtain ⟨ad', e, hc⟩ := hL.cells (by rcases l with _ | _; exact absurd rfl h0; simp)
      cases e
      exact hc j u hj

/-- Two readers of the same bytes; from the one j bytes are off, and they lie, one behind the other, in a row of the call's own. -/
structure St (w0 w : World) (B p g p2 g2 : Nat) (L : List Nat) (j : Nat) (err : Int) (v : Value) : Prop where
  r : Rd w p g L j err
  s : Rd w p2 g2 L 0 0
  own : w.ownsRow B 5 1 v j ((L.take j).map byc)
  hb : Below w0.heap.size w0 w
  hB : B ≤ w.heap.size

theorem St.taken {w0 w w' : World} {B p g p2 g2 j : Nat} {L : List Nat} {err : Int} {v : Value} (h : St w0 w B p g p2 g2 L j err v) (h0 : w0.heap.size ≤ p) (h2 : p < g2) (h3 : g2 < p2) (h4 : p2 < B)
    (hg : w.grownBy w' (some p)) : w'.ownsRow B 5 1 v j ((L.take j).map byc) ∧ Rd w' p2 g2 L 0 0 ∧ Below w0.heap.size w0 w' ∧ B ≤ w'.heap.size := by
  have hs := h.hb.size
  have hB := h.hB
  refine ⟨h.own.kept hg ?_, h.s.kept (hg.block p2 h.s.lt (by intro e; cases e; omega)) (hg.block g2 h.s.own.lt (by intro e; cases e; omega)), h.hb.grown hg hs (fun k hk => by cases hk; exact h0), Nat.le_trans hB hg.size⟩
  cases hv : v.ownBlock with
  | none => exact .inl rfl
  | some k =>
    right
    intro e
    cases e
    have := (h.own.lt p hv).1
    omega

theorem St.joined {w0 w' w1 : World} {B p g p2 g2 j j' : Nat} {L c : List Nat} {err' : Int} {v v' : Value} (h1 : g < p) (h2 : p < g2) (h3 : g2 < p2) (h4 : p2 < B) (h0 : w0.heap.size ≤ B)
    (hr : Rd w' p g L j' err') (hs : Rd w' p2 g2 L 0 0) (hown : w'.ownsRow B 5 1 v j ((L.take j).map byc)) (hb : Below w0.heap.size w0 w') (hB : B ≤ w'.heap.size)
    (hown' : w1.ownsRow B 5 1 v' (j + c.length) ((L.take j).map byc ++ c.map byc)) (hg : w'.grownBy w1 v.ownBlock) (hc : L.take j ++ c = L.take j') (hj : j + c.length = j') : St w0 w1 B p g p2 g2 L j' err' v' := by
  have hne : ∀ k, k < B → some k ≠ v.ownBlock := fun k hk e => by have := (hown.lt k e.symm).1; omega
  refine ⟨hr.kept (hg.block p hr.lt (hne p (by omega))) (hg.block g hr.own.lt (hne g (by omega))), hs.kept (hg.block p2 hs.lt (hne p2 (by omega))) (hg.block g2 hs.own.lt (hne g2 (by omega))), ?_, hb.grown hg hb.size (fun k hk => by have := (hown.lt k hk).1; omega), Nat.le_trans hB hg.size⟩
  rw [← List.map_append, hc, hj] at hown'
  exact hown'
end Go.Proofs.YtclkfmblogkakaaGreatDoor
namespace Go.Proofs.YtclkfmblogkakaaGreatDoor
open Go.RowKit Go.Shelf
set_option linter.unusedVariables false
attribute [local go_sem ↓] load_b16_rule store_b16_rule load_ad_rule store_ad_rule load_px_rule store_px_rule eq_b16_rule eq_ad_rule eq_px_rule

theorem px_cell {W : World} {g : Nat} {p : Px} (h : Blk W g 43 p.cs) (j : Nat) (hj : j < 16) : ∀ w', Below W.heap.size W w' → w'.cell? ⟨g, 1 + j, none⟩ = some (.int .u8 (p.a.b.at j : Int)) :=
  fun w' k => ((h.later k).cell _).trans ((p.cb j hj).trans (p.a.b.get j hj))
theorem World.size_drew' (w : World) : w.drew.heap.size = w.heap.size := rfl
theorem bel_alloc_all (W : World) : ∀ w' o, Below W.heap.size W w' → Below W.heap.size W (w'.alloc o) := fun w' o h => h.alloc h.size o
/-- A row of ints that lies at the head of a block. -/
def Ints (w : World) (q : Nat) (l : List Nat) : Prop := Blk w q 3 (l.map fun n : Nat => Value.int .i64 (n : Int)).toArray
theorem Ints.cell {w : World} {q : Nat} {l : List Nat} (h : Ints w q l) {i : Nat} (hi : i < l.length) : w.cell? ⟨q, i, none⟩ = some (.int .i64 ((l.getD i 0 : Nat) : Int)) := by
  unfold Ints at h
  rw [h.cell]
  simp [hi]
theorem pown_mono {w : World} {B B' : Nat} {e : TypeId} {z : Nat} {v : Value} {n : Nat} {xs : List Value} (h : w.ownsRow B e z v n xs) (hB : B' ≤ B) : w.ownsRow B' e z v n xs := by
  refine ⟨h.1, ?_⟩
  rcases h.2 with h9 | ⟨g, cap, cur, h1, h2, h3⟩
  · exact .inl h9
  · exact .inr ⟨g, cap, cur, h1, Nat.le_trans hB h2, h3⟩
theorem own_later2 {w w' : World} {b : Nat} {e : TypeId} {size : Nat} {v : Value} {n : Nat} {xs : List Value} (h : w.ownsRow b e size v n xs) (hb : Below w.heap.size w w') : w'.ownsRow b e size v n xs := by
  refine ⟨h.1, ?_⟩
  rcases h.2 with h9 | ⟨g, cap, cur, h1, h2, h3, h4⟩
  · exact .inl h9
  · exact .inr ⟨g, cap, cur, h1, h2, (hb.block g (Array.getElem?_eq_some_iff.1 h3).1).trans h3, h4⟩
/-- A slice of the call's own that holds these bytes. -/
def Gets (w w' : World) (v : Value) (l : List Nat) : Prop := w'.ownsRow w.heap.size 5 1 v l.length (l.map byc)
theorem B16.lies {w : World} {g o : Nat} {b : B16} (h : ∀ j, j < 16 → w.cell? ⟨g, o + j, none⟩ = some (.int .u8 (b.at j : Int))) (hg : g < w.heap.size) (n : Nat) (hn : n ≤ 16) : Lies w (some ⟨g, o, none⟩) (b.l.take n) := by
  refine .inr ⟨g, o, rfl, hg, fun i hi => ?_⟩
  rw [List.length_take, b.len] at hi
  rw [h i (by omega)]
  have e : (b.l.take n).getD i 0 = b.l.getD i 0 := by simp [List.getElem?_take, show i < n by omega]
  rw [e]
  rfl

/-- The bytes of an address, of a prefix. -/
def encA (a : Ad) : List Nat := a.v.toNat :: a.b.l.take (wid a.v / 8)
def encP (p : Px) : List Nat := [p.a.v.toNat, p.n.toNat] ++ p.a.b.l.take (fill8 p.n.toNat)
theorem wid_cases {v : Int} (h : wid v ≠ 0) : v = 4 ∨ v = 6 := by
  unfold wid at h
  split at h
  · exact .inl ‹_›
  · split at h
    · exact .inr ‹_›
    · exact absurd rfl h
theorem fill_wid (v : Int) : fill8 (wid v) = wid v / 8 := by
  unfold fill8 wid
  split
  · rfl
  · split <;> rfl
theorem bys_one {x : Nat} (h : x < 256) : Bys [x] := fun m hm => by rw [List.mem_singleton.1 hm]; exact h
theorem bys_two {x y : Nat} (h : x < 256) (h2 : y < 256) : Bys [x, y] := fun m hm => by
  rcases List.mem_cons.1 hm with h9 | h9
  · omega
  · rw [List.mem_singleton.1 h9]; exact h2

theorem take_more0 (L : List Nat) (k : Nat) (h : k < L.length) : L.take (k + 1) = L.take k ++ [L.getD k 0] := by
  rw [List.take_add_one]
  simp [h]
theorem own_one (w : World) (x : Nat) : (w.alloc (.cells #[.int .u8 (x : Int)] 5)).ownsRow w.heap.size 5 1 (.slice (some ⟨w.heap.size, 0, none⟩) 1 1) 1 ([x].map byc) :=
  ⟨rfl, .inr ⟨w.heap.size, 1, #[.int .u8 (x : Int)], rfl, Nat.le_refl _, heap_alloc_new _ _, Nat.le_refl _, by unfold maxLen; omega, rfl, rfl⟩⟩
theorem own_two (w : World) (x y : Nat) : (w.alloc (.cells #[.int .u8 (x : Int), .int .u8 (y : Int)] 5)).ownsRow w.heap.size 5 1 (.slice (some ⟨w.heap.size, 0, none⟩) 2 2) 2 ([x, y].map byc) :=
  ⟨rfl, .inr ⟨w.heap.size, 2, #[.int .u8 (x : Int), .int .u8 (y : Int)], rfl, Nat.le_refl _, heap_alloc_new _ _, Nat.le_refl _, by unfold maxLen; omega, rfl, rfl⟩⟩

end Go.Proofs.YtclkfmblogkakaaGreatDoor
namespace Go.Proofs.YtclkfmblogkakaaGreatDoor
open Go.RowKit Go.Shelf
set_option linter.unusedVariables false
attribute [local go_sem ↓] load_b16_rule store_b16_rule load_ad_rule store_ad_rule load_px_rule store_px_rule eq_b16_rule eq_ad_rule eq_px_rule build_ad_rule build_px_rule

theorem Wid.kept {w w' : World} {S : List Nat} (h : Wid w) (k : Kept S w w') (h0 : 0 ∉ S) : Wid w' := fun j hj => by
  have h1 := h j hj
  have h2 := cell_lt h1
  have h3 := k.block 0 h2 h0
  rw [← h1]
  unfold World.cell?
  rw [h3]
/-- At block r a reader of prefix lies. -/
structure PR (w : World) (r p g : Nat) (L : List Nat) (j : Nat) (err : Int) (given : Nat) (fault : Int) (wrong : Bool) : Prop where
  rd : Rd w p g L j err
  blk : Blk w r 134 #[.pointer (some ⟨p, 0, none⟩), .int .i64 (given : Int), .int .i64 fault, .bool wrong]
  g0 : g ≠ r
theorem PR.rp {w : World} {r p g : Nat} {L : List Nat} {j : Nat} {err : Int} {given : Nat} {fault : Int} {wrong : Bool} (h : PR w r p g L j err given fault wrong) : r ≠ p := h.blk.ne (show Blk w p 147 _ from h.rd.cells) (by decide)
theorem PR.below {w w' : World} {r p g : Nat} {L : List Nat} {j : Nat} {err : Int} {given : Nat} {fault : Int} {wrong : Bool} (h : PR w r p g L j err given fault wrong) (k : Below w.heap.size w w') : PR w' r p g L j err given fault wrong := ⟨h.rd.below k, h.blk.later k, h.g0⟩
theorem PR.c {w : World} {r p g : Nat} {L : List Nat} {j : Nat} {err : Int} {given : Nat} {fault : Int} {wrong : Bool} (h : PR w r p g L j err given fault wrong) : w.cell? ⟨r, 0, none⟩ = some (.pointer (some ⟨p, 0, none⟩)) ∧ w.cell? ⟨r, 1, none⟩ = some (.int .i64 (given : Int)) ∧ w.cell? ⟨r, 2, none⟩ = some (.int .i64 fault) ∧ w.cell? ⟨r, 3, none⟩ = some (.bool wrong) ∧ w.frozen? ⟨r, 3, none⟩ = false :=
  ⟨h.blk.cell 0, h.blk.cell 1, h.blk.cell 2, h.blk.cell 3, h.blk.free 3⟩
theorem PR.aft {w w' : World} {r p g : Nat} {L : List Nat} {j : Nat} {err n : Int} {given : Nat} {fault : Int} {wrong : Bool} (h : PR w r p g L j err given fault wrong) (ha : Aft w w' p g L j err n) : PR w' r p g L (offTo L.length j err n).1 (offTo L.length j err n).2 given fault wrong ∧ Kept [r, p] w w' :=
  ⟨⟨ha.1, (ha.2.block r h.blk.lt (by intro e; cases e; exact h.rp rfl)).trans h.blk, h.g0⟩, (Kept.refl [r, p] w).grown ha.2 (fun k hk => .inl (by cases hk; simp))⟩
theorem PR.wrongs {w : World} {r p g : Nat} {L : List Nat} {j : Nat} {err : Int} {given : Nat} {fault : Int} {wrong : Bool} (h : PR w r p g L j err given fault wrong) : PR (w.setCell ⟨r, 3, none⟩ (.bool true)) r p g L j err given fault true ∧ Kept [r, p] w (w.setCell ⟨r, 3, none⟩ (.bool true)) :=
  ⟨⟨h.rd.kept (Below.heap_setCell _ _ _ _ (Ne.symm h.rp)) (Below.heap_setCell _ _ _ _ h.g0), h.blk.set 3 _, h.g0⟩, (Kept.refl _ _).setCell (.inl (by simp)) _⟩
theorem offTo_some {len j n : Nat} (h : j + n ≤ len) : offTo len j 0 (n : Int) = (j + n, 0) := by
  unfold offTo
  rw [if_neg (by simp), if_neg (by omega), if_neg (by omega)]
  simp
theorem came_some {L : List Nat} {j n : Nat} (h : j + n ≤ L.length) : came L j 0 (n : Int) = (L.drop j).take n := by
  unfold came
  rw [if_neg (by simp), if_neg (by omega), if_neg (by omega)]
  simp
/-- Is there nothing to come off? -/
def dry (len j : Nat) (err : Int) (n : Nat) : Prop := err ≠ 0 ∨ len < j + n
def dryE (err : Int) : Int := if err = 0 then 7 else err
theorem dryE_ne (err : Int) : dryE err ≠ 0 := by unfold dryE; split <;> omega
theorem offTo_none {len j n : Nat} {err : Int} (hj : j ≤ len) (h : dry len j err n) : offTo len j err (n : Int) = (j, dryE err) := by
  unfold offTo dryE
  by_cases he : err = 0
  · rcases h with h | h
    · exact absurd he h
    · rw [if_neg (by simpa using he), if_neg (by omega), if_pos (by omega), if_pos he]
  · rw [if_pos he, if_neg he]
theorem came_none {L : List Nat} {j n : Nat} {err : Int} (hj : j ≤ L.length) (h : dry L.length j err n) : came L j err (n : Int) = [] := by
  unfold came
  by_cases he : err = 0
  · rcases h with h | h
    · exact absurd he h
    · rw [if_neg (by simpa using he), if_neg (by omega), if_pos (by omega)]
  · rw [if_pos he]
theorem one_more {L : List Nat} {j : Nat} (h : j < L.length) : (L.drop j).take 1 = [L.getD j 0] := by
  have := take_more L j 0 (by omega)
  simpa using this

set_option maxRecDepth 100000 in
set_option maxHeartbeats 1600000 in
theorem preader_err {w : World} {r p g : Nat} {L : List Nat} {j : Nat} {err : Int} {given : Nat} {fault : Int} {wrong : Bool} (h : PR w r p g L j err given fault wrong) : Calls Tryz.prog 78 #[.pointer (some ⟨r, 0, none⟩)] w fun e w' => e = .returned (.int .i64 (if wrong then fault else err)) ∧ w = w' := by
  obtain ⟨c0, c1, c2, c3, _⟩ := h.c
  have he := err_any h.rd
  cases wrong
  all_goals
    go_enter Tryz.func78, Tryz.ntmps78
    go_wp2_with (go_at_call 97; refine he.mono ?_; rintro e w' ⟨rfl, rfl⟩)
    go_ret
    exact ⟨rfl, rfl⟩

set_option maxRecDepth 100000 in
set_option maxHeartbeats 1600000 in
theorem refuse_any {w : World} {r p g : Nat} {L : List Nat} {j : Nat} {err : Int} {given : Nat} {fault : Int} {wrong : Bool} (h : PR w r p g L j err given fault wrong) : Calls Tryz.prog 92 #[.pointer (some ⟨r, 0, none⟩)] w fun e w' => e = .returned (.tuple #[]) ∧ PR w' r p g L j err given fault (if err = 0 then true else wrong) ∧ Kept [r, p] w w' := by
  obtain ⟨c0, c1, c2, c3, f3⟩ := h.c
  have he := err_any h.rd
  by_cases h0 : err = 0
  · have hd : (err == 0) = true := by simpa using h0
    have HX := Lib.hid h.wrongs
    rw [if_pos h0]
    clear h h0
    go_enter Tryz.func92, Tryz.ntmps92
    go_wp2_with (go_at_call 97; refine he.mono ?_; rintro e w' ⟨rfl, rfl⟩)
    go_end0
    exact ⟨rfl, HX.out.1, HX.out.2⟩
  · have hd : (err == 0) = false := by simpa using h0
    rw [if_neg h0]
    have HX := Lib.hid h
    clear h h0
    go_enter Tryz.func92, Tryz.ntmps92
    go_wp2_with (go_at_call 97; refine he.mono ?_; rintro e w' ⟨rfl, rfl⟩)
    go_end0
    exact ⟨rfl, HX.out, Kept.refl _ _⟩

set_option maxRecDepth 100000 in
set_option maxHeartbeats 1600000 in
theorem taken_any {w : World} {r p g : Nat} {L : List Nat} {j : Nat} {err : Int} {given : Nat} {fault : Int} {wrong : Bool} (h : PR w r p g L j err given fault wrong) (hg : given ≤ 1000) (hl : L.length - j ≤ given) : Calls Tryz.prog 79 #[.pointer (some ⟨r, 0, none⟩)] w fun e w' => e = .returned (.int .i64 ((given - (L.length - j) : Nat) : Int)) ∧ Below w.heap.size w w' := by
  have C := fun w' (k : Below w.heap.size w w') => (h.below k).c
  have c0 := fun w' k => (C w' k).1
  have c1 := fun w' k => (C w' k).2.1
  have hlf := fun w' (k : Below w.heap.size w w') => left_any (h.below k).rd
  obtain ⟨n, hn⟩ : ∃ n, L.length - j = n := ⟨_, rfl⟩
  rw [hn] at hlf hl ⊢
  have hq : IntKind.i64.wrap ((given : Int) - (n : Int)) = ((given - n : Nat) : Int) := by rw [show ((given - n : Nat) : Int) = (given : Int) - (n : Int) from by omega]; exact IntWalk.i64_in _ (by omega)
  have h0 : Below w.heap.size w w := Below.refl _ _
  generalize given - n = d at *
  clear hn C h hl hg
  go_enter Tryz.func79, Tryz.ntmps79
  go_wp2_with fail
  refine wp_region_lin (fun w' => Below w.heap.size w w') (by kernel_rfl) (by kernel_rfl) (bel_drew (by assumption)) ?_; (repeat (first | (refine lin_fn (f := 98) (by rfl) rfl rfl (enters_of Tryz.func98 (by kernel_rfl) rfl) (fun w9 hS9 => (hlf w9 hS9).mono (fun e w' h => ⟨h.1, h.2 ▸ hS9⟩)) ?_ ?_; (focus (simp [Act.eval]; done)); (try simp only [Act.put, List.setIfInBounds_toArray, List.set_cons_zero, List.set_cons_succ])) | (refine lin_off (by rfl) ?_; (try simp only [Act.put, List.setIfInBounds_toArray, List.set_cons_zero, List.set_cons_succ])) | (refine lin_op (v := ?_) (by rfl) (fun w9 hS9 => ?_) ?_; rotate_left; (focus (((try dsimp only at hS9); go_simp; (try go_bits)) <;> with_reducible rfl)); (try simp only [Act.put, List.setIfInBounds_toArray, List.set_cons_zero, List.set_cons_succ])) ))
  refine lin_nil (fun w8 hS8 => ?_)
  go_wp2
  go_ret
  exact ⟨rfl, hS8⟩

theorem u8_came {L : List Nat} {j : Nat} (hB : Bys L) (h : j < L.length) : pile 0 (came L j 0 1) % 256 = L.getD j 0 := by
  rw [show (1 : Int) = ((1 : Nat) : Int) from rfl, came_some (n := 1) (by omega), one_more h]
  have := hB.at j
  simp only [pile, List.foldl_cons, List.foldl_nil]
  omega

set_option maxRecDepth 100000 in
set_option maxHeartbeats 1600000 in
theorem version_some {w : World} {r p g : Nat} {L : List Nat} {j : Nat} {given : Nat} {fault : Int} {wrong : Bool} (h : PR w r p g L j 0 given fault wrong) (hB : Bys L) (hlm : L.length ≤ 1000) (hj : j < L.length) (hW : Wid w) (h0 : r ≠ 0 ∧ p ≠ 0) : Calls Tryz.prog 74 #[.pointer (some ⟨r, 0, none⟩)] w fun e w' => e = .returned (.int .i64 ((L.getD j 0 : Nat) : Int)) ∧ PR w' r p g L (j + 1) 0 given fault (wrong || decide (wid ((L.getD j 0 : Nat) : Int) = 0)) ∧ Kept [r, p] w w' := by
  obtain ⟨c0, _⟩ := h.c
  have hu := u8_any h.rd hB (by omega)
  rw [u8_came hB hj] at hu
  have ho := offTo_some (len := L.length) (j := j) (n := 1) (by omega)
  have hx := hB.at j
  obtain ⟨x, hx0⟩ : ∃ x, L.getD j 0 = x := ⟨_, rfl⟩
  rw [hx0] at hu hx ⊢
  obtain ⟨b, hb⟩ : ∃ b, (((wid (x : Int) : Nat) : Int) == 0) = b := ⟨_, rfl⟩
  have hb2 : decide (wid (x : Int) = 0) = b := by rw [← hb, Bool.eq_iff_iff]; simp
  rw [hb2]
  have hchk := fun w' hW' => width_any (x : Int) w' hW'
  clear hb2 hx0
  cases b
  all_goals
    go_enter Tryz.func74, Tryz.ntmps74
    go_wp2_with fail
    refine hu.mono ?_
    rintro e w2 ⟨rfl, hA⟩
    have hP := h.aft hA
    rw [show (1 : Int) = ((1 : Nat) : Int) from rfl, ho] at hP
    have hr := refuse_any hP.1
    rw [if_pos rfl] at hr
    have hW2 : Wid w2 := hW.kept hP.2 (by simp; exact ⟨fun e => h0.1 e.symm, fun e => h0.2 e.symm⟩)
    have HP := Lib.hid hP
    clear hP hA hu ho c0
    go_wp2_with (first | (go_at_call 76; refine (hchk _ hW2).mono ?_; rintro e w3 ⟨rfl, rfl⟩))
  · go_ret
    exact ⟨rfl, by simpa using HP.out.1, HP.out.2⟩
  · refine hr.mono ?_
    rintro e w4 ⟨rfl, hP4, hk4⟩
    have HQ := Lib.hid (And.intro hP4 (HP.out.2.trans hk4))
    clear hP4 hk4
    go_wp2
    go_ret
    exact ⟨rfl, by simpa using HQ.out.1, HQ.out.2⟩

set_option maxRecDepth 100000 in
set_option maxHeartbeats 1600000 in
theorem version_none {w : World} {r p g : Nat} {L : List Nat} {j : Nat} {err : Int} {given : Nat} {fault : Int} {wrong : Bool} (h : PR w r p g L j err given fault wrong) (hB : Bys L) (hlm : L.length ≤ 1000) (hj : j ≤ L.length) (hd : dry L.length j err 1) (hW : Wid w) (h0 : r ≠ 0 ∧ p ≠ 0) : Calls Tryz.prog 74 #[.pointer (some ⟨r, 0, none⟩)] w fun e w' => e = .returned (.int .i64 0) ∧ PR w' r p g L j (dryE err) given fault wrong ∧ Kept [r, p] w w' := by
  obtain ⟨c0, _⟩ := h.c
  have hu := u8_any h.rd hB (by omega)
  have ho := offTo_none (n := 1) hj hd
  have hc := came_none (n := 1) hj hd
  have hE := dryE_ne err
  rw [show ((1 : Nat) : Int) = 1 from rfl] at ho hc
  rw [hc, show ((pile 0 [] % 256 : Nat) : Int) = 0 from rfl] at hu
  have hchk := fun w' hW' => width_any 0 w' hW'
  rw [show wid 0 = 0 from rfl] at hchk
  go_enter Tryz.func74, Tryz.ntmps74
  go_wp2_with fail
  refine hu.mono ?_
  rintro e w2 ⟨rfl, hA⟩
  have hP := h.aft hA
  rw [ho] at hP
  have hr := refuse_any hP.1
  rw [if_neg hE] at hr
  have hW2 : Wid w2 := hW.kept hP.2 (by simp; exact ⟨fun e => h0.1 e.symm, fun e => h0.2 e.symm⟩)
  have HP := Lib.hid hP
  clear hP hA hu ho c0
  go_wp2_with (first | (go_at_call 76; refine (hchk _ hW2).mono ?_; rintro e w3 ⟨rfl, rfl⟩))
  refine hr.mono ?_
  rintro e w4 ⟨rfl, hP4, hk4⟩
  have HQ := Lib.hid (And.intro hP4 (HP.out.2.trans hk4))
  clear hP4 hk4
  go_wp2
  go_ret
  exact ⟨rfl, HQ.out.1, HQ.out.2⟩

set_option maxRecDepth 100000 in
set_option maxHeartbeats 1600000 in
theorem bits_some {w : World} {r p g : Nat} {L : List Nat} {j : Nat} {given : Nat} {fault : Int} {wrong : Bool} (h : PR w r p g L j 0 given fault wrong) (hB : Bys L) (hlm : L.length ≤ 1000) (hj : j < L.length) (n : Nat) : Calls Tryz.prog 75 #[.pointer (some ⟨r, 0, none⟩), .int .i64 (n : Int)] w fun e w' => e = .returned (.int .i64 ((L.getD j 0 : Nat) : Int)) ∧ PR w' r p g L (j + 1) 0 given fault (wrong || decide (n < L.getD j 0)) ∧ Kept [r, p] w w' := by
  obtain ⟨c0, _⟩ := h.c
  have hu := u8_any h.rd hB (by omega)
  rw [u8_came hB hj] at hu
  have ho := offTo_some (len := L.length) (j := j) (n := 1) (by omega)
  have hx := hB.at j
  obtain ⟨x, hx0⟩ : ∃ x, L.getD j 0 = x := ⟨_, rfl⟩
  rw [hx0] at hu hx ⊢
  obtain ⟨b, hb2⟩ : ∃ b, decide (n < x) = b := ⟨_, rfl⟩
  have hb : decide (x ≤ n) = !b := by rw [← hb2, Bool.eq_iff_iff]; simp
  rw [hb2]
  have hchk := fun w' => within_any (x : Int) (n : Int) w'
  clear hb2 hx0
  cases b
  all_goals
    go_enter Tryz.func75, Tryz.ntmps75
    go_wp2_with fail
    refine hu.mono ?_
    rintro e w2 ⟨rfl, hA⟩
    have hP := h.aft hA
    rw [show (1 : Int) = ((1 : Nat) : Int) from rfl, ho] at hP
    have hr := refuse_any hP.1
    rw [if_pos rfl] at hr
    have HP := Lib.hid hP
    clear hP hA hu ho c0
    go_wp2_with (first | (go_at_call 93; refine (hchk _).mono ?_; rintro e w3 ⟨rfl, rfl⟩))
  · go_ret
    exact ⟨rfl, by simpa using HP.out.1, HP.out.2⟩
  · refine hr.mono ?_
    rintro e w4 ⟨rfl, hP4, hk4⟩
    have HQ := Lib.hid (And.intro hP4 (HP.out.2.trans hk4))
    clear hP4 hk4
    go_wp2
    go_ret
    exact ⟨rfl, by simpa using HQ.out.1, HQ.out.2⟩

set_option maxRecDepth 100000 in
set_option maxHeartbeats 1600000 in
theorem bits_none {w : World} {r p g : Nat} {L : List Nat} {j : Nat} {err : Int} {given : Nat} {fault : Int} {wrong : Bool} (h : PR w r p g L j err given fault wrong) (hB : Bys L) (hlm : L.length ≤ 1000) (hj : j ≤ L.length) (hd : dry L.length j err 1) (n : Nat) : Calls Tryz.prog 75 #[.pointer (some ⟨r, 0, none⟩), .int .i64 (n : Int)] w fun e w' => e = .returned (.int .i64 0) ∧ PR w' r p g L j (dryE err) given fault wrong ∧ Kept [r, p] w w' := by
  obtain ⟨c0, _⟩ := h.c
  have hu := u8_any h.rd hB (by omega)
  have ho := offTo_none (n := 1) hj hd
  have hc := came_none (n := 1) hj hd
  have hE := dryE_ne err
  rw [show ((1 : Nat) : Int) = 1 from rfl] at ho hc
  rw [hc, show ((pile 0 [] % 256 : Nat) : Int) = 0 from rfl] at hu
  have hchk := fun w' => within_any 0 (n : Int) w'
  rw [decide_eq_true (show (0 : Int) ≤ 0 ∧ (0 : Int) ≤ (n : Int) by omega)] at hchk
  go_enter Tryz.func75, Tryz.ntmps75
  go_wp2_with fail
  refine hu.mono ?_
  rintro e w2 ⟨rfl, hA⟩
  have hP := h.aft hA
  rw [ho] at hP
  have hr := refuse_any hP.1
  rw [if_neg hE] at hr
  have HP := Lib.hid hP
  clear hP hA hu ho c0
  go_wp2_with (first | (go_at_call 93; refine (hchk _).mono ?_; rintro e w3 ⟨rfl, rfl⟩))
  go_ret
  exact ⟨rfl, HP.out.1, HP.out.2⟩
end Go.Proofs.YtclkfmblogkakaaGreatDoor
