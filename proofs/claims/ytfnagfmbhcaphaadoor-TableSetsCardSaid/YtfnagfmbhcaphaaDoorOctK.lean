/-
  The contracts of octet's reader that take bytes off: the closure, take, Raw. Nothing here is a statement of the document.
-/
import Derived.Test.YtfnagfmbhcaphaaDoorOctE
namespace Go.Proofs.YtfnagfmbhcaphaaDoor
open Go.RowKit
set_option linter.unusedVariables false

/-- In the variable at block x there is a slice of the call's own that holds these bytes. -/
def Out (w : World) (x : Nat) (l : List Nat) : Prop :=
  ∃ v, w.heap[x]? = some (.cells #[v] 55 (0, 0)) ∧ w.ownsRow (x + 1) 5 1 v l.length (l.map byc)

theorem out_next {x b : Nat} {l : List Nat} {w w1 : World} {v v' : Value} {o : Obj} (hx : w.heap[x]? = some (.cells #[v] 55 (0, 0))) (hown : w.ownsRow (x + 1) 5 1 v l.length (l.map byc))
    (hown' : w1.ownsRow (x + 1) 5 1 v' (l.length + 1) (l.map byc ++ [.int .u8 (b : Int)])) (hg : (w.alloc o).grownBy w1 v.ownBlock) :
    Out (w1.setCell ⟨x, 0, none⟩ v') x (l ++ [b]) ∧ Below x w (w1.setCell ⟨x, 0, none⟩ v') ∧ w1.cell? ⟨x, 0, none⟩ = some v ∧ w1.frozen? ⟨x, 0, none⟩ = false := by
  have hxl := lt_of_block hx
  have hne : some x ≠ v.ownBlock := fun e => by have := (hown.lt x e.symm).1; omega
  have hx1 : w1.heap[x]? = some (.cells #[v] 55 (0, 0)) := (hg.block x (by simp; omega) hne).trans ((Below.heap_alloc w o x hxl).trans hx)
  refine ⟨⟨v', one_setCell hx1, ?_⟩, ?_, cell_of_one hx1, free_of_one hx1⟩
  · have h := ownsRow_setCell_below hown' (a := ⟨x, 0, none⟩) (by show x < x + 1; omega) v'
    have e : (l ++ [b]).map byc = l.map byc ++ [.int .u8 (b : Int)] := by simp [byc]
    rw [e, List.length_append]
    exact h
  · exact (((Below.refl x w).alloc (by omega) o).grown hg (by simp; omega) (fun k hk => by have := (hown.lt k hk).1; omega)).setCell (Nat.le_refl _) _

set_option maxHeartbeats 800000 in
theorem tell_raw {x b : Nat} {l : List Nat} {w : World} (h : Out w x l) (hl : l.length ≤ 140737488300000) :
    Calls Tryd.prog 95 #[.int .u8 (b : Int), .pointer (some ⟨x, 0, none⟩)] w fun e w' => e = .returned (.tuple #[]) ∧ Out w' x (l ++ [b]) ∧ Below x w w' := by
  obtain ⟨i0, hi, hz0, hz1, hz2⟩ := info_parts Tryd.info5
  obtain ⟨v, hx, hown⟩ := h
  have h0 := cell_of_one hx
  have hxl := lt_of_block hx
  go_enter Tryd.func95, Tryd.ntmps95
  go_wp2_with (at_builtin; refine wpList_append_own _ rfl _ _ 55 rfl (x + 1) 5 i0 (.int .u8 0) 1 1 Tryd.underlying55 hi hz0 hz1 hz2 rfl (by decide) _ _ _ rfl (hown.alloc _) ⟨w.heap.size, 0, none⟩ 1 1 [.int .u8 (b : Int)] rfl rfl ?c1 ?c2 ?c3 ?c4 ?c5 ?_)
  case c1 =>
    intro j u hj
    match j, hj with
    | 0, hj => simp at hj; subst hj; simp [Addr.add]
  case c2 => intro u hu; simp at hu; subst hu; rfl
  case c3 => unfold maxLen; omega
  case c4 => omega
  case c5 => simp; omega
  intro v' w1 hown' hgrow _
  have R := out_next hx hown hown' hgrow
  have r3 := R.2.2.1
  have r4 := R.2.2.2
  have R1 := Lib.hid R.1
  have R2 := R.2.1
  obtain ⟨g', cap', rfl⟩ : ∃ g' cap', v' = .slice (some ⟨g', 0, none⟩) (l.length + 1) cap' := by
    rcases hown'.2 with ⟨_, h0⟩ | ⟨g', cap', cur, hv, _⟩
    · omega
    · exact ⟨g', cap', hv⟩
  clear R hown' hgrow hown hx h0
  go_wp2
  go_end0
  exact ⟨rfl, R1.out, R2⟩

/-- Below block x two worlds differ at block p at most. -/
structure Thru (p x : Nat) (w w' : World) : Prop where
  os : w'.os = w.os
  tape : w'.tape = w.tape
  output : w'.output = w.output
  size : w.heap.size ≤ w'.heap.size
  block : ∀ k, k < x → k ≠ p → w'.heap[k]? = w.heap[k]?
theorem Thru.refl (p x : Nat) (w : World) : Thru p x w w := ⟨rfl, rfl, rfl, Nat.le_refl _, fun _ _ _ => rfl⟩
theorem Thru.trans {p x : Nat} {a b c : World} (h : Thru p x a b) (k : Thru p x b c) : Thru p x a c :=
  ⟨k.os.trans h.os, k.tape.trans h.tape, k.output.trans h.output, Nat.le_trans h.size k.size, fun i h1 h2 => (k.block i h1 h2).trans (h.block i h1 h2)⟩
theorem Thru.set (p x i : Nat) (w : World) (v : Value) : Thru p x w (w.setCell ⟨p, i, none⟩ v) :=
  ⟨rfl, rfl, rfl, by simp [World.setCell], fun k h1 h2 => Below.heap_setCell _ _ _ _ h2⟩
theorem Thru.of {p x : Nat} {w w' : World} (h : Below x w w') : Thru p x w w' := ⟨h.os, h.tape, h.output, h.size, fun k hk _ => h.block k hk⟩

theorem Out.set {w : World} {p x i : Nat} {l : List Nat} (h : Out w x l) (hp : p < x) (v : Value) : Out (w.setCell ⟨p, i, none⟩ v) x l := by
  obtain ⟨u, hx, hown⟩ := h
  exact ⟨u, (Below.heap_setCell _ _ _ _ (Nat.ne_of_gt hp)).trans hx, ownsRow_setCell_below hown (a := ⟨p, i, none⟩) (by show p < x + 1; omega) v⟩

set_option maxHeartbeats 1600000 in
theorem take_raw {p g j x : Nat} {L : List Nat} {n : Int} {w : World} (h : Rd w p g L j 0) (hB : Bys L) (hx : Out w x []) (hxp : p < x) (hxg : g < x)
    (h0 : 0 ≤ n) (hn : n ≤ ((L.length - j : Nat) : Int)) (hlm : L.length ≤ 140737488300000) :
    Calls Tryd.prog 94 #[.pointer (some ⟨p, 0, none⟩), .int .i64 n, .func (.func 95) #[] #[.pointer (some ⟨x, 0, none⟩)]] w fun e w' =>
      e = .returned (.tuple #[]) ∧ Rd w' p g L (j + n.toNat) 0 ∧ Out w' x ((L.drop j).take n.toNat) ∧ Thru p x w w' := by
  obtain ⟨n, rfl⟩ := Int.eq_ofNat_of_zero_le h0
  have hle := h.le
  have hlt : decide (((L.length - j : Nat) : Int) < (n : Int)) = false := by simp; omega
  have hlt2 : decide (L.length - j < n) = false := by simp; omega
  have hlt3 : decide ((n : Int) < 0) = false := by simp
  go_enter Tryd.func94, Tryd.ntmps94
  go_wp2_with (first | (go_at_call 91; refine (err_any h).mono ?_; rintro e w' ⟨rfl, rfl⟩) | (go_at_call 92; refine (left_any h).mono ?_; rintro e w' ⟨rfl, rfl⟩))
  go_loopw [10] (fun i wr => ∃ k : Nat, k ≤ n ∧ i = .int .i64 k ∧ Rd wr p g L (j + k) 0 ∧ Out wr x ((L.drop j).take k) ∧ Thru p x w wr) (fun i _ => n - (intOf i).toNat)
  case atStart => exact ⟨0, Nat.zero_le _, rfl, h, by simpa using hx, Thru.refl _ _ _⟩
  case round =>
    obtain ⟨k, hk, rfl, hR, hX, hT⟩ := hrel
    clear h hx
    by_cases hk2 : k < n
    · have HM := Lib.hid (take_more L j k (by omega))
      have hlen : ((L.drop j).take k).length ≤ 140737488300000 := by simp; omega
      generalize htk : (L.drop j).take k = tk at *
      have HK := Lib.hid htk
      clear htk
      have hR2 := hR.off (by omega : j + k < L.length)
      have hX2 := hX.set hxp (i := 0) (restV g L.length (j + k + 1))
      have hT2 := hT.trans (Thru.set p x 0 wr (restV g L.length (j + k + 1)))
      go_wp2_with fail
      refine (next_any hR (by omega)).mono ?_
      rintro e w' ⟨rfl, rfl⟩
      go_wp2_with fail
      refine (tell_raw hX2 hlen).mono ?_
      rintro e w2 ⟨rfl, hX3, hB3⟩
      have hR3 : Rd w2 p g L (j + (k + 1)) 0 := hR2.kept (hB3.block p hxp) (hB3.block g hxg)
      have hT3 := hT2.trans (Thru.of hB3)
      have hX4 : Out w2 x ((L.drop j).take (k + 1)) := by rw [HM.out, List.getD_eq_getElem?_getD]; exact hX3
      clear hR hX hT hR2 hX2 hT2 hB3 hX3
      go_wp2
      go_roundw
      case rel => first | exact ⟨k + 1, by omega, by go_num, hR3, hX4, hT3⟩ | ((repeat apply Exists.intro); exact ⟨⟨k + 1, by omega, by go_num, hR3, hX4, hT3⟩, rfl⟩)
      case measure => simp [intOf]; omega
    · obtain rfl : k = n := by omega
      go_wp2
      go_end0
      exact ⟨rfl, hR, hX, hT⟩

/-- A slice of the call's own, as bytes that lie. -/
theorem owns_lies {w : World} {base : Nat} {v : Value} {l : List Nat} (h : w.ownsRow base 5 1 v l.length (l.map byc)) :
    ∃ a cap, v = .slice a l.length cap ∧ Lies w a l ∧ (∀ y, a = some y → base ≤ y.block) ∧ (a = none → cap = 0) := by
  rcases h.2 with ⟨rfl, h0⟩ | ⟨g, cap, cur, rfl, hb, hg, h1, h2, h3, h4⟩
  · exact ⟨none, 0, by rw [h0], .inl (List.eq_nil_of_length_eq_zero h0), by simp, fun _ => rfl⟩
  · refine ⟨some ⟨g, 0, none⟩, cap, rfl, .inr ⟨g, 0, rfl, lt_of_block hg, fun i hi => ?_⟩, fun y hy => by cases hy; exact hb, fun e => by cases e⟩
    rw [Nat.zero_add]
    have e : cur[i]? = (l.map byc)[i]? := by
      rw [← h4, Nat.mul_one, List.getElem?_take, if_pos hi]; simp
    simp only [World.cell?, hg, e]
    simp [byc, hi]

theorem Thru.grown {p x : Nat} {w w1 w' : World} (hA : w.grownBy w1 none) (h : Thru p x w1 w') (hx : w.heap.size ≤ x) : w.grownBy w' (some p) :=
  ⟨h.os.trans hA.os, h.tape.trans hA.tape, h.output.trans hA.output, Nat.le_trans hA.size h.size,
    fun k hk hp => (h.block k (by omega) (fun e => hp (by rw [e]))).trans (hA.block k hk (by simp))⟩

/-- What Raw hands back: bytes that lie in new memory, or nothing. -/
def Handed (w w' : World) (v : Value) (l : List Nat) : Prop := ∃ a cap, v = .slice a l.length cap ∧ Lies w' a l ∧ (∀ y, a = some y → w.heap.size ≤ y.block) ∧ (a = none → cap = 0)

theorem Out.handed {w w' : World} {l : List Nat} {v : Value} (hv : w'.heap[w.heap.size]? = some (.cells #[v] 55 (0, 0))) (hown : w'.ownsRow (w.heap.size + 1) 5 1 v l.length (l.map byc)) : Handed w w' v l := by
  obtain ⟨a, cap, h1, h2, h3, h4⟩ := owns_lies hown
  exact ⟨a, cap, h1, h2, fun y hy => by have := h3 y hy; omega, h4⟩

set_option maxHeartbeats 800000 in
theorem raw_any {p g j : Nat} {L : List Nat} {err n : Int} {w : World} (h : Rd w p g L j err) (hB : Bys L) (hlm : L.length ≤ 140737488300000) :
    Calls Tryd.prog 90 #[.pointer (some ⟨p, 0, none⟩), .int .i64 n] w fun e w' =>
      ∃ v, e = .returned v ∧ Handed w w' v (came L j err n) ∧ Aft w w' p g L j err n := by
  have hmf : ∀ (fn : Fn) (first cap : Array Value) (w : World), (Instr.makeFunc fn first cap).run Tryd.prog w = .ok (.func fn first cap) w := fun _ _ _ _ => rfl
  have hb : Below w.heap.size w (w.alloc (.cells #[.slice none 0 0] 55)) := (Below.refl _ _).alloc (Nat.le_refl _) _
  have h1 : Rd (w.alloc (.cells #[.slice none 0 0] 55)) p g L j err := h.below hb
  have hx : (w.alloc (.cells #[.slice none 0 0] 55)).heap[w.heap.size]? = some (.cells #[.slice none 0 0] 55 (0, 0)) := heap_alloc_new w _
  have hG : w.grownBy (w.alloc (.cells #[.slice none 0 0] 55)) none := World.grownBy_alloc _ _ _
  have hO : Out (w.alloc (.cells #[.slice none 0 0] 55)) w.heap.size [] := ⟨_, hx, World.ownsRow_nil _ _ _ _⟩
  have hp := h.lt
  have hg := h.own.lt
  have hxc := cell_of_one hx
  have hxc2 : ∀ i v, ((w.alloc (.cells #[.slice none 0 0] 55)).setCell ⟨p, i, none⟩ v).cell? ⟨w.heap.size, 0, none⟩ = some (.slice none 0 0) := fun i v =>
    (World.cell?_setCell_other _ _ _ _ (by intro e; have := congrArg Addr.block e; simp at this; omega)).trans hxc
  have hnil : ∀ w', Handed w w' (.slice none 0 0) [] := fun w' => ⟨none, 0, rfl, .inl rfl, by simp, fun _ => rfl⟩
  by_cases he : err = 0
  · subst he
    by_cases hn : n < 0
    · have e1 : came L j 0 n = [] := by simp [came, hn]
      have e2 : offTo L.length j 0 n = (j, 2) := by simp [offTo, hn]
      unfold Aft
      rw [e1, e2]
      go_enter Tryd.func90, Tryd.ntmps90
      go_wp2_with (go_at_call 94; refine (take_neg h1 hn).mono ?_; rintro e w' ⟨rfl, rfl⟩)
      go_ret
      rw [← World.setCell_alloc_past _ _ _ _ hp]
      exact ⟨_, rfl, hnil _, h1.err 2, grown_set hG _ _⟩
    · by_cases hs : ((L.length - j : Nat) : Int) < n
      · have e1 : came L j 0 n = [] := by simp [came, hn, hs]
        have e2 : offTo L.length j 0 n = (j, 7) := by simp [offTo, hn, hs]
        unfold Aft
        rw [e1, e2]
        go_enter Tryd.func90, Tryd.ntmps90
        go_wp2_with (go_at_call 94; refine (take_short h1 (by omega) hs).mono ?_; rintro e w' ⟨rfl, rfl⟩)
        go_ret
        rw [← World.setCell_alloc_past _ _ _ _ hp]
        exact ⟨_, rfl, hnil _, h1.err 7, grown_set hG _ _⟩
      · have e1 : came L j 0 n = (L.drop j).take n.toNat := by simp [came, hn, hs]
        have e2 : offTo L.length j 0 n = (j + n.toNat, 0) := by simp [offTo, hn, hs]
        unfold Aft
        rw [e1, e2]
        generalize hv : (L.drop j).take n.toNat = c
        have HV := Lib.hid hv
        clear hv e1 e2
        go_enter Tryd.func90, Tryd.ntmps90
        go_wp2_with fail
        refine (take_raw h1 hB hO hp hg (by omega) (by omega) hlm).mono ?_
        rintro e w1 ⟨rfl, hR, hX, hT⟩
        rw [HV.out] at hX
        obtain ⟨v, hvx, hvo⟩ := hX
        have hvc := cell_of_one hvx
        have hH := Out.handed hvx hvo
        have hA := hT.grown hG (Nat.le_refl _)
        clear hvx hvo hT
        go_wp2
        go_ret
        exact ⟨v, rfl, hH, hR, hA⟩
  · have e1 : came L j err n = [] := by simp [came, he]
    have e2 : offTo L.length j err n = (j, err) := by simp [offTo, he]
    unfold Aft
    rw [e1, e2]
    go_enter Tryd.func90, Tryd.ntmps90
    go_wp2_with (go_at_call 94; refine (take_err h1 he).mono ?_; rintro e w' ⟨rfl, rfl⟩)
    go_ret
    exact ⟨_, rfl, hnil _, h1, World.grownBy_alloc _ _ _⟩

theorem raw_nil {n : Int} {w : World} :
    Calls Tryd.prog 90 #[.pointer none, .int .i64 n] w fun e w' => e = .returned (.slice none 0 0) ∧ Below w.heap.size w w' := by
  have hmf : ∀ (fn : Fn) (first cap : Array Value) (w : World), (Instr.makeFunc fn first cap).run Tryd.prog w = .ok (.func fn first cap) w := fun _ _ _ _ => rfl
  go_enter Tryd.func90, Tryd.ntmps90
  go_wp2_with (go_at_call 94; refine (take_nil).mono ?_; rintro e w' ⟨rfl, rfl⟩)
  go_ret
  exact ⟨rfl, (Below.refl _ _).alloc (Nat.le_refl _) _⟩
end Go.Proofs.YtfnagfmbhcaphaaDoor
