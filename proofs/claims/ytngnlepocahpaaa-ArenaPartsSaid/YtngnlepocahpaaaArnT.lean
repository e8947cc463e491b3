/-
  An op, done on an arena. Nothing here is a statement of the document.
-/
import Derived.Test.YtngnlepocahpaaaArnS
import Derived.Test.YtngnlepocahpaaaLinB
namespace Go.Proofs.Ytngnlepocahpaaa
open Go.RowKit Go.Shelf
set_option linter.unusedVariables false

/-- Which kind of op it is. -/
def OpM.k (o : OpM) : Nat := unN o.kind % 8
/-- Which places it may touch. -/
def OpM.sk (o : OpM) (B : List Bl) : Int → Prop := fun x => (o.k = 2 ∨ o.k = 4 ∨ o.k = 5) ∧ x = o.row B
theorem StepOk.weak {B B' : List Bl} {ws ws' : List Nat} {sk sk' : Int → Prop} (h : StepOk B ws ws' B' sk) (hk : ∀ x, sk x → sk' x) : StepOk B ws ws' B' sk' :=
  ⟨fun b hb ht hs => h.keep b hb ht (fun hx => hs (hk _ hx)), h.fence, h.root, h.len, h.nice⟩
theorem Left.weak {w w' : World} {g p q : Nat} {ws : List Nat} {B : List Bl} {sk sk' : Int → Prop} (h : Left w w' g p q ws B sk) (hk : ∀ x, sk x → sk' x) : Left w w' g p q ws B sk' := by
  obtain ⟨ws', bs', B', L', h1, h2, h3, h4⟩ := h
  exact ⟨ws', bs', B', L', h1, h2, h3.weak hk, h4⟩
theorem Left.after {w0 w w' : World} {g p q : Nat} {ws : List Nat} {B : List Bl} {sk : Int → Prop} (hb : Below w0.heap.size w0 w) (h : Left w w' g p q ws B sk) : Left w0 w' g p q ws B sk := by
  obtain ⟨ws', bs', B', L', h1, h2, h3, h4⟩ := h
  exact ⟨ws', bs', B', L', h1, h2, h3, (Kept.of_below [p, q] hb).trans h4⟩

attribute [local go_sem ↓] load_op_rule
section
variable {w : World} {g p q : Nat} {ws : List Nat} {bs : List Bool} {B : List Bl} {L : Nat → List Nat}
set_option maxRecDepth 100000 in
set_option maxHeartbeats 2000000 in
theorem run_any (h : Ar w g p q ws bs) (hI : Inv ws bs B L) (o : OpM) (ho : o.Ok) : Calls Try.prog 14 #[.pointer (some ⟨g, 0, none⟩), .agg o.cs] w fun e w' => e = .returned (.tuple #[]) ∧ Left w w' g p q ws B (o.sk B) := by
  obtain ⟨W1, hW1⟩ : ∃ W1, w.alloc (.cells o.cs 38) = W1 := ⟨_, rfl⟩
  have hb1 : Below w.heap.size w W1 := by rw [← hW1]; exact (Below.refl _ _).alloc (Nat.le_refl _) _
  have b1 : Blk W1 w.heap.size 38 o.cs := by rw [← hW1]; exact Blk.new _ _ _
  have A1 := h.later hb1
  have hro := row_any A1 hI o ho
  have hld := ld_op b1
  have hkk : IntKind.u64.wrap o.kind = (unN o.kind : Int) := by rw [IntKind.wrap_u64]; unfold unN; omega
  have hk8 : (IntKind.u64.wrap o.kind).tmod 8 = (o.k : Int) := by rw [hkk]; rfl
  have hk7 : o.k < 8 := Nat.mod_lt _ (by omega)
  have hsk : ∀ y, (o.k = 2 ∨ o.k = 4 ∨ o.k = 5) → y = o.row B → o.sk B y := fun y h1 h2 => ⟨h1, h2⟩
  generalize o.row B = r at *
  have HB := Lib.hid (And.intro hb1 (And.intro b1 (And.intro hsk (And.intro hI ho))))
  clear hkk hb1 b1 hsk h hI ho
  generalize hkn : o.k = kn at *
  have HKN := Lib.hid hkn
  clear hkn
  generalize hsk2 : o.sk B = sk at *
  clear hsk2
  obtain ⟨k1, k2, k3, k4, k5, k6, k7⟩ := o
  unfold OpM.cs at *
  dsimp only at *
  go_enter Try.func14, Try.ntmps14
  go_wp2_with fail
  refine hro.mono ?_
  rintro e w2 ⟨rfl, hb2⟩
  have b2 := HB.out.2.1.kept (Kept.of_below [] hb2) (by simp)
  have A2 := A1.later hb2
  have hbb : Below w.heap.size w w2 := bel_later HB.out.1 hb2
  have c0 : w2.cell? ⟨w.heap.size, 0, none⟩ = some (.int .i64 k1) := b2.cell 0
  have c1 : w2.cell? ⟨w.heap.size, 1, none⟩ = some (.int .i64 k2) := b2.cell 1
  have c3 : w2.cell? ⟨w.heap.size, 3, none⟩ = some (.int .i64 k4) := b2.cell 3
  have c4 : w2.cell? ⟨w.heap.size, 4, none⟩ = some (.int .i64 k5) := b2.cell 4
  have c5 : w2.cell? ⟨w.heap.size, 5, none⟩ = some (.int .u64 k6) := b2.cell 5
  have HA := Lib.hid (And.intro A2 (And.intro hbb b2))
  clear hro hld hW1 A1 hb2 b2 A2 hbb
  rcases (show kn = 0 ∨ kn = 1 ∨ kn = 2 ∨ kn = 3 ∨ kn = 4 ∨ kn = 5 ∨ kn = 6 ∨ kn = 7 by omega) with rfl | rfl | rfl | rfl | rfl | rfl | rfl | rfl
  · have hc := alloc_do HA.out.1 HB.out.2.2.2.1 k2 (fun _ => False)
    go_wp2_with fail
    refine hc.mono ?_
    rintro e w3 ⟨⟨v, rfl⟩, hl⟩
    have HL := Lib.hid (Left.after HA.out.2.1 hl)
    clear hc hl
    go_wp2
    go_end0
    exact ⟨rfl, HL.out.weak (fun x hx => hx.elim)⟩
  · have hc := alloc_do HA.out.1 HB.out.2.2.2.1 k2 (fun _ => False)
    go_wp2_with fail
    refine hc.mono ?_
    rintro e w3 ⟨⟨v, rfl⟩, hl⟩
    have HL := Lib.hid (Left.after HA.out.2.1 hl)
    clear hc hl
    go_wp2
    go_end0
    exact ⟨rfl, HL.out.weak (fun x hx => hx.elim)⟩
  · have hc := free_do HA.out.1 HB.out.2.2.2.1 r
    go_wp2_with fail
    refine hc.mono ?_
    rintro e w3 ⟨⟨v, rfl⟩, hl⟩
    have HL := Lib.hid (Left.after HA.out.2.1 hl)
    clear hc hl
    go_wp2
    go_end0
    exact ⟨rfl, HL.out.weak (fun x hx => HB.out.2.2.1 x (by simp) hx)⟩
  · have hc := load_do HA.out.1 HB.out.2.2.2.1 r k4 (fun _ => False)
    go_wp2_with fail
    refine hc.mono ?_
    rintro e w3 ⟨⟨v, rfl⟩, hl⟩
    have HL := Lib.hid (Left.after HA.out.2.1 hl)
    clear hc hl
    go_wp2
    go_end0
    exact ⟨rfl, HL.out.weak (fun x hx => hx.elim)⟩
  · have hx6 := HB.out.2.2.2.2.x
    dsimp only at hx6
    obtain ⟨y, hy, hyy⟩ : ∃ y : Nat, y < 4294967296 ∧ IntKind.u32.wrap k6 = (y : Int) := by
      refine ⟨(k6 % 4294967296).toNat, by omega, ?_⟩
      unfold IntKind.wrap
      simp [IntKind.bits, IntKind.signed]
      omega
    have hy2 : k6 % 4294967296 = (y : Int) := by
      rw [← hyy]
      unfold IntKind.wrap
      simp [IntKind.bits, IntKind.signed]
    have hc := store_do HA.out.1 HB.out.2.2.2.1 r k4 y hy
    go_wp2_with fail
    refine hc.mono ?_
    rintro e w3 ⟨⟨v, rfl⟩, hl⟩
    have HL := Lib.hid (Left.after HA.out.2.1 hl)
    clear hc hl
    go_wp2
    go_end0
    exact ⟨rfl, HL.out.weak (fun x hx => HB.out.2.2.1 x (by simp) hx)⟩
  · have hx6 := HB.out.2.2.2.2.x
    dsimp only at hx6
    obtain ⟨y, hy, hyy⟩ : ∃ y : Nat, y < 4294967296 ∧ IntKind.u32.wrap k6 = (y : Int) := by
      refine ⟨(k6 % 4294967296).toNat, by omega, ?_⟩
      unfold IntKind.wrap
      simp [IntKind.bits, IntKind.signed]
      omega
    have hy2 : k6 % 4294967296 = (y : Int) := by
      rw [← hyy]
      unfold IntKind.wrap
      simp [IntKind.bits, IntKind.signed]
    have hc := store_do HA.out.1 HB.out.2.2.2.1 r k4 y hy
    go_wp2_with fail
    refine hc.mono ?_
    rintro e w3 ⟨⟨v, rfl⟩, hl⟩
    have HL := Lib.hid (Left.after HA.out.2.1 hl)
    clear hc hl
    go_wp2
    go_end0
    exact ⟨rfl, HL.out.weak (fun x hx => HB.out.2.2.1 x (by simp) hx)⟩
  · have hAS : ∀ w', Below w2.heap.size w2 w' → Ar w' g p q ws bs := fun w' h' => HA.out.1.later h'
    obtain ⟨S, hS⟩ : ∃ S : World → Prop, S = fun w' => Below w2.heap.size w2 w' := ⟨_, rfl⟩
    have hSb : ∀ w', S w' → Below w2.heap.size w2 w' := fun w' h' => by rw [hS] at h'; exact h'
    have hSs : ∀ w', Below w2.heap.size w2 w' → S w' := fun w' h' => by rw [hS]; exact h'
    have q4 : ∀ w', S w' → w'.cell? ⟨w.heap.size, 4, none⟩ = some (.int .i64 k5) := fun w' h' => (HA.out.2.2.kept (Kept.of_below [] (hSb w' h')) (by simp)).cell 4
    have q3 : ∀ w', S w' → w'.cell? ⟨w.heap.size, 3, none⟩ = some (.int .i64 k4) := fun w' h' => (HA.out.2.2.kept (Kept.of_below [] (hSb w' h')) (by simp)).cell 3
    have hfe := fun w' (h' : S w') => (fence_any (hAS w' (hSb w' h'))).mono (R' := fun e w2 => e = .returned (.int .u64 ((twoN ws 7 : Nat) : Int)) ∧ S w2) fun e w2 ⟨h1, n, h2⟩ => ⟨h1, by rw [h2]; exact hSs _ (below_drewN (hSb w' h') n)⟩
    have hrt := fun w' (h' : S w') => (root_any (hAS w' (hSb w' h'))).mono (R' := fun e w2 => e = .returned (.agg #[.int .u64 ((twoN ws 1 : Nat) : Int), .int .u64 ((twoN ws 3 : Nat) : Int), .int .i64 ((ws.getD 5 0 : Nat) : Int), .int .i64 ((ws.getD 6 0 : Nat) : Int)]) ∧ S w2) fun e w2 ⟨h1, h2⟩ => ⟨h1, hSs _ ((hSb w' h').trans (h2.mono (hSb w' h').size))⟩
    have hS0 : S w2.drew := hSs _ ⟨rfl, rfl, rfl, Nat.le_refl _, fun _ _ => rfl⟩
    have hwu : ∀ z : Int, ∃ a : Nat, a < 18446744073709551616 ∧ IntKind.u64.wrap z = (a : Int) := fun z => ⟨(z % 18446744073709551616).toNat, by omega, by rw [IntKind.wrap_u64]; omega⟩
    obtain ⟨a, ha, ea⟩ := hwu (k5.tmod 3)
    obtain ⟨v, hv, ev⟩ := hwu (((twoN ws 1 : Nat) : Int) + (a : Int))
    obtain ⟨b, hb, eb⟩ := hwu (k4.tmod 3)
    obtain ⟨ep, hep, ee⟩ := hwu (((twoN ws 7 : Nat) : Int) + (b : Int))
    have hpub := fun w' (h' : S w') => pub_do (hAS w' (hSb w' h')) HB.out.2.2.2.1 v ep hv hep r 0 (fun _ => False)
    have HW := Lib.hid (fun w' (h' : S w') => bel_later HA.out.2.1 (hSb w' h'))
    clear hwu hAS hS hSs hSb
    generalize twoN ws 1 = t1 at *
    generalize twoN ws 3 = t3 at *
    generalize twoN ws 7 = t7 at *
    generalize ws.getD 5 0 = x5 at *
    generalize ws.getD 6 0 = x6 at *
    have hfld : ∀ w', (Instr.field 34 (.agg #[.int .u64 (t1 : Int), .int .u64 (t3 : Int), .int .i64 (x5 : Int), .int .i64 (x6 : Int)]) 0).run Try.prog w' = .ok (.int .u64 (t1 : Int)) w' := fun w' => by kernel_rfl
    have hbd := fun w' => (show (Instr.build 34 #[(0, .int .u64 (v : Int)), (1, .int .u64 (ep : Int)), (2, .int .i64 r)]).run Try.prog w' = .ok (.agg #[.int .u64 (v : Int), .int .u64 (ep : Int), .int .i64 r, .int .i64 0]) w' by kernel_rfl)
    go_wp2_with fail
    clear c0 c1 c3 c4 c5
    refine wp_region_linB S [18] [0, 1, 2, 3, 4, 5, 6, 7, 8, 9, 10, 11, 12, 13, 14, 15, 16, 17, 18] (by kernel_rfl) (by kernel_rfl) hS0 ?_
    (repeat (first | (refine linB_off rfl rfl (by rfl) ?_; (try simp only [Act.put, List.getElem_toArray, List.getElem_cons_zero, List.getElem_cons_succ, List.setIfInBounds_toArray, List.set_cons_zero, List.set_cons_succ])) | (refine linB_op (v := ?_) rfl rfl (by rfl) (fun w9 hS9 => ?_) ?_; rotate_left; (focus ((have k0 := q4 w9 hS9; have k1 := q3 w9 hS9; (try dsimp only at hS9); go_simp; (try go_bits)) <;> with_reducible rfl)); (try simp only [Act.put, List.getElem_toArray, List.getElem_cons_zero, List.getElem_cons_succ, List.setIfInBounds_toArray, List.set_cons_zero, List.set_cons_succ])) | (refine linB_fn (f := 12) rfl rfl (by rfl) rfl rfl (enters_of Try.func12 (by kernel_rfl) rfl) (fun w9 hS9 => hrt w9 hS9) ?_ ?_; (focus (simp [Act.eval]; done)); (try simp only [Act.put, List.getElem_toArray, List.getElem_cons_zero, List.getElem_cons_succ, List.setIfInBounds_toArray, List.set_cons_zero, List.set_cons_succ])) | (refine linB_fn (f := 13) rfl rfl (by rfl) rfl rfl (enters_of Try.func13 (by kernel_rfl) rfl) (fun w9 hS9 => hfe w9 hS9) ?_ ?_; (focus (simp [Act.eval]; done)); (try simp only [Act.put, List.getElem_toArray, List.getElem_cons_zero, List.getElem_cons_succ, List.setIfInBounds_toArray, List.set_cons_zero, List.set_cons_succ]))))
    refine linB_last (f := 22) (args := #[.pointer (some ⟨g, 0, none⟩), .agg #[.int .u64 (v : Int), .int .u64 (ep : Int), .int .i64 r, .int .i64 0]]) rfl rfl (by rfl) rfl rfl (enters_of Try.func22 (by kernel_rfl) rfl) ?_ ?_
    · simp [Act.eval]
    intro w9 hS9
    refine (hpub w9 hS9).mono ?_
    rintro e w3 ⟨⟨vr, rfl⟩, hl⟩
    have HL := Lib.hid (Left.after (HW.out w9 hS9) hl)
    refine ⟨vr, rfl, ?_⟩
    clear hl hpub hS9
    go_wp2
    go_end0
    exact ⟨rfl, HL.out.weak (fun x hx => hx.elim)⟩
  · have hx6 := HB.out.2.2.2.2.x
    dsimp only at hx6
    obtain ⟨y, rfl⟩ := Int.eq_ofNat_of_zero_le hx6.1
    have hc := raise_do HA.out.1 HB.out.2.2.2.1 y (by omega) (fun _ => False)
    go_wp2_with fail
    refine hc.mono ?_
    rintro e w3 ⟨⟨v, rfl⟩, hl⟩
    have HL := Lib.hid (Left.after HA.out.2.1 hl)
    clear hc hl
    go_wp2
    go_end0
    exact ⟨rfl, HL.out.weak (fun x hx => hx.elim)⟩
end
end Go.Proofs.Ytngnlepocahpaaa
