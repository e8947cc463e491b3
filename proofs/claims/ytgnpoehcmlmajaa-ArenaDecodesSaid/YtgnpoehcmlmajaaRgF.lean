/-
  The document's Decode, in parts: its blocks. Nothing here is a statement of the document.
-/
import Derived.Test.YtgnpoehcmlmajaaRgE
import Derived.Test.YtgnpoehcmlmajaaRgC
import Derived.Test.YtgnpoehcmlmajaaRfE
import Derived.Deep.RegionLaw
namespace Go.Proofs.Ytgnpoehcmlmajaa
open Go.RowKit Go.Shelf
set_option linter.unusedVariables false
theorem step_append_own {P : Program} {w : World} {ops : Array Oper} {o : Oper} {a : Act} {K : Act → World → Prop} {Q : Exit → Act → World → Prop} {X : Prop} (hgd : o.guard = none) (s x : Operand) (t : TypeId)
    (ho : o.op = .call { callee := .builtin .append, args := #[s, x], argTypes := #[t, t] })
    (base : Nat) (e : TypeId) (i : TypeInfo) (z : Value) (size bytes : Nat) (ht : P.underlying t = some (.slice e)) (hi : P.info? e = some i) (hz : i.zero = some z)
    (hsize : i.size = size) (hby : i.bytes = bytes) (hzs : z.cells.size = size) (hsz : 0 < size)
    (v : Value) (n : Nat) (xs : List Value) (hs : a.eval s = v) (hown : w.ownsRow base e size v n xs)
    (ad : Addr) (m c : Nat) (news : List Value) (hx : a.eval x = .slice (some ad) m c) (hl : news.length = m * size) (hnews : ∀ j u, news[j]? = some u → w.cell? (ad.add j) = some u) (h1 : ∀ u ∈ news, u.oneCell' = true)
    (h63 : n + m ≤ maxLen) (hbytes : (n + m) * bytes ≤ 140737488355328) (hbase : base ≤ w.heap.size)
    (h : ∀ v' w', w'.ownsRow base e size v' (n + m) (xs ++ news) → w.grownBy w' v.ownBlock → K (a.put o.dst v') w') : if Region.wanted o (yielded ops a.tmps) = true then Oper.wp P o a w K Q else X := by
  have hw : Region.wanted o (yielded ops a.tmps) = true := by simp [Region.wanted, hgd]
  rw [if_pos hw]
  exact wp_append_own w s x t ho base e i z size bytes ht hi hz hsize hby hzs hsz v n xs hs hown ad m c news hx hl hnews h1 h63 hbytes hbase (fun v' w' h2 h3 _ => h v' w' h2 h3)
theorem step_fn {P : Program} {w : World} {ops : Array Oper} {o : Oper} {a : Act} {K : Act → World → Prop} {Q : Exit → Act → World → Prop} {X : Prop} {f : Nat} {c : Call} {args : Array Value} {v : Value} (hgd : o.guard = none) (ho : o.op = .call c) (hc : c.callee = .value (.func f)) (hen : ∀ args w, (callFunc f args).run P w = .ok (.enter f args) w)
    (ha : c.args.map a.eval = args) (hcl : Calls P f args w fun e w' => e = .returned v ∧ w = w') (h : K (a.put o.dst v) w) : if Region.wanted o (yielded ops a.tmps) = true then Oper.wp P o a w K Q else X := by
  have hw : Region.wanted o (yielded ops a.tmps) = true := by simp [Region.wanted, hgd]
  rw [if_pos hw]
  have hx : (execOp a.eval o).run P w = .ok (.enter f args) w := by
    simp only [execOp, ho, resolve, hc, ha, Act.eval, Deferred.ofValue, invoke, Sem.run_bind, Sem.run_pure, Result.andThen_ok]
    have e1 := hen (#[] ++ args ++ #[]) w
    simp only [Array.empty_append, Array.append_empty] at e1 ⊢
    exact e1
  unfold Oper.wp
  rw [hx]
  refine hcl.mono ?_
  rintro e w' ⟨rfl, rfl⟩
  exact h
attribute [local go_sem ↓] load_rb_rule store_rb_rule build_rbs_rule
theorem w64n {n : Nat} (h : n ≤ 40000) : IntKind.i64.wrap (n : Int) = (n : Int) := by
  have e : (n : Int) % 18446744073709551616 = (n : Int) := Int.emod_eq_of_lt (by omega) (by omega)
  unfold IntKind.wrap
  simp only [show IntKind.i64.bits = 64 from rfl, show IntKind.i64.signed = true from rfl, Bool.true_and, show (2 ^ 64 : Int) = 18446744073709551616 from rfl, e]
  split
  · rename_i h9; simp at h9; omega
  · rfl
/-- The words from a place on. -/
def wat (ws : List Nat) (x n : Nat) : List Nat := (ws.drop x).take n
theorem wat_snoc (ws : List Nat) {x n : Nat} (h : x + n < ws.length) : wat ws x (n + 1) = wat ws x n ++ [ws.getD (x + n) 0] := by
  unfold wat
  have hk : n < (ws.drop x).length := by simp; omega
  rw [List.take_succ_eq_append_getElem hk]
  congr 2
  simp [List.getD_eq_getElem?_getD, h]
def bl3 (r : Rb) : Bl := ⟨r.x, r.c, r.t⟩
/-- What is answered: the blocks, or none where they stand still. -/
def BlA (ws : List Nat) (E : Nat) (B : List Bl) (w w' : World) (e : Ending) : Prop := if E = ws.getD 15 0 then ∃ v vs R, e = .returned (.tuple #[v, .bool true]) ∧ Blks w' w.heap.size v vs R ∧ R.map bl3 = B ∧ (∀ r ∈ R, r.ws = wat ws r.x (2 ^ r.c)) else e = .returned (.tuple #[.slice none 0 0, .bool false])
theorem BlA.no {ws : List Nat} {E : Nat} {B : List Bl} {w w' : World} (h : ¬ E = ws.getD 15 0) : BlA ws E B w w' (.returned (.tuple #[.slice none 0 0, .bool false])) := by unfold BlA; rw [if_neg h]
set_option maxRecDepth 100000 in
set_option maxHeartbeats 4000000 in
theorem rblocks_any (b len cap n : Nat) (l ws : List Nat) (w : World) (hl : l.length = len) (hn : ws.length = n) (hln : len = 4 * n) (hcap : len ≤ cap) (hle : n ≤ 16384) (hB : Bys l) (hw : ∀ i, i < n → wdB l i = ws.getD i 0) (hL : Lies w (some ⟨b, 0, none⟩) l)
    {B : List Bl} {E : Nat} (hT : Tile ws 16 B E) (hE : E = ws.getD 15 0 ∨ Stuck ws E) (he : ws.getD 15 0 ≤ n) (h16 : 16 ≤ ws.getD 15 0) :
    Calls Try.prog 47 #[.slice (some ⟨b, 0, none⟩) len cap, .int .i64 ((ws.getD 15 0 : Nat) : Int)] w fun e w' => BlA ws E B w w' e ∧ Below w.heap.size w w' := by
  obtain ⟨i0, hi, hz0, hz1, hz2⟩ := info_parts i_rbk
  obtain ⟨j0, ji, jz0, jz1, jz2⟩ := info_parts i_w32
  have hwd : ∀ {X : World}, Below w.heap.size w X → ∀ i : Nat, i < n → Calls Try.prog 46 #[.slice (some ⟨b, 0, none⟩) len cap, .int .i64 (i : Int)] X fun e w' => e = .returned (.int .u32 ((ws.getD i 0 : Nat) : Int)) ∧ X = w' := fun hb i hi => by
    rw [← hw i hi]
    exact rword_any b 0 len cap l _ hl hcap (by omega) hB (hL.kept hb) i (by omega)
  have hsm : ∀ i, i < n → ws.getD i 0 < 4294967296 := fun i hi => by rw [← hw i hi]; exact wdB_lt hB i
  obtain ⟨ed, hed⟩ : ∃ ed, ws.getD 15 0 = ed := ⟨_, rfl⟩
  have HK := Lib.hid (And.intro @hwd (And.intro hsm (And.intro hT (And.intro hE (And.intro hed hn)))))
  rw [hed] at he h16 ⊢
  clear hwd hsm hT hE hed hn hw hL hB hl
  have HLN := Lib.hid hln
  clear hln
  go_enter Try.func47, Try.ntmps47
  go_wp2_with fail
  go_loopw [6, 7] (fun o i wr => ∃ (k e : Nat) (R : List Rb) (vs : List Value), k ≤ B.length ∧ i = .int .i64 e ∧ 16 ≤ e ∧ e ≤ ed ∧ Tile ws e (B.drop k) E ∧ Blks wr w.heap.size o vs R ∧ R.map bl3 = B.take k ∧ (∀ r ∈ R, r.ws = wat ws r.x (2 ^ r.c)) ∧ R.length ≤ e ∧ Below w.heap.size w wr) (fun _ i _ => ed - (intOf i).toNat)
  case atStart => exact ⟨0, 16, [], [], Nat.zero_le _, rfl, Nat.le_refl _, h16, HK.out.2.2.1, Blks.nil _ _, by simp, by simp, by simp, Below.refl _ _⟩
  case round =>
    obtain ⟨k, e, R, vs, hk, rfl, h16, hee, hT, hbl, hRB, hRw, hRl, hbe⟩ := hrel
    by_cases hlt : e < ed
    · have hei : (e : Int) < (ed : Int) := by omega
      have hwc := HK.out.1 hbe e (by omega)
      have hy := HK.out.2.1 e (by omega)
      have HX := Lib.hid (And.intro hT (And.intro hbl (And.intro hRB (And.intro hRw (And.intro hRl hbe)))))
      clear hbl hRB hRw hRl hbe
      cases hdr : B.drop k with
      | nil =>
        rw [hdr] at hT
        have hEe : e = E := hT
        have hst : Stuck ws e := by
          rcases HK.out.2.2.2.1 with h9 | h9
          · have := HK.out.2.2.2.2.1; omega
          · rw [hEe]; exact h9
        have hne : ¬ (E = ed) := by omega
        have HN := Lib.hid (And.intro hst hne)
        clear hT hEe hst hne hdr
        obtain ⟨y, hyy⟩ : ∃ y, ws.getD e 0 = y := ⟨_, rfl⟩
        rw [hyy] at hwc hy
        by_cases h1 : y < 16
        · have h1i : (y : Int) < 16 := by omega
          go_wp2_with fail
          refine hwc.mono ?_
          rintro e9 _ ⟨rfl, rfl⟩
          clear hwc
          go_wp2_with fail
          go_ret2
          exact ⟨BlA.no (by rw [HK.out.2.2.2.2.1]; exact HN.out.2), HX.out.2.2.2.2.2⟩
        · by_cases h2 : 27 < y
          · have h1i : ¬ (y : Int) < 16 := by omega
            have h2i : (27 : Int) < (y : Int) := by omega
            go_wp2_with fail
            refine hwc.mono ?_
            rintro e9 _ ⟨rfl, rfl⟩
            clear hwc
            go_wp2_with fail
            go_ret2
            exact ⟨BlA.no (by rw [HK.out.2.2.2.2.1]; exact HN.out.2), HX.out.2.2.2.2.2⟩
          · obtain ⟨c, t, hc, hct⟩ : ∃ c t, c ≤ 5 ∧ y = hdN c t := by
              rcases head_dec y with h9 | h9
              · exact h9
              · exfalso
                refine h9 ((y - 16) / 2) (decide ((y - 16) % 2 = 1)) (by omega) ?_
                unfold hdN
                by_cases h3 : (y - 16) % 2 = 1
                · simp [h3]; omega
                · simp [h3]; omega
            have hlong := HN.out.1.2 c t hc (by rw [hyy, hct])
            rw [HK.out.2.2.2.2.1] at hlong
            have hcy : (y - 16) / 2 = c := by rw [hct]; unfold hdN; cases t <;> simp <;> omega
            have hcyi : ((y : Int) - 16).tdiv 2 = (c : Int) := by
              rw [show (y : Int) - 16 = ((y - 16 : Nat) : Int) by omega, ← hcy]; rfl
            have h1i : ¬ (y : Int) < 16 := by omega
            have h2i : ¬ (27 : Int) < (y : Int) := by omega
            have h3i : ((y : Int) - 16) / 2 = (c : Int) := by omega
            have hs := fun w => rsize_any c hc w
            have hp := pow5 hc
            clear hct hcy
            generalize 2 ^ c = z at *
            have hzi : (ed : Int) < (e : Int) + 1 + (z : Int) := by omega
            go_wp2_with fail
            refine hwc.mono ?_
            rintro e9 _ ⟨rfl, rfl⟩
            clear hwc
            go_wp2_with fail
            refine (hs wr).mono ?_
            rintro e8 _ ⟨rfl, rfl⟩
            clear hs
            go_wp2_with fail
            go_ret2
            exact ⟨BlA.no (by rw [HK.out.2.2.2.2.1]; exact HN.out.2), HX.out.2.2.2.2.2⟩
      | cons d r =>
        rw [hdr] at hT
        obtain ⟨hdx, hdc, hdh, hdf, hT2⟩ := hT
        rw [HK.out.2.2.2.2.1] at hdf
        obtain ⟨x, c, t⟩ := d
        have hx : x = e + 1 := hdx
        have hc : c ≤ 5 := hdc
        have hh : ws.getD e 0 = hdN c t := hdh
        have hf : e + 1 + 2 ^ c ≤ ed := hdf
        have HD := Lib.hid (And.intro hdr (And.intro hx (And.intro (show Tile ws (e + 1 + 2 ^ c) r E from hT2) hh)))
        rw [hh] at hwc hy
        clear hdx hdc hdh hdf hT2 hdr hx hh
        have hs := fun w => rsize_any c hc w
        have hp := pow5 hc
        obtain ⟨y, hyy⟩ : ∃ y, hdN c t = y := ⟨_, rfl⟩
        have hyc : y = 16 + 2 * c + t.toNat := by rw [← hyy]; rfl
        rw [hyy] at hwc hy
        have ht2 : t.toNat ≤ 1 := by cases t <;> simp
        have h1i : ¬ (y : Int) < 16 := by omega
        have h2i : ¬ (27 : Int) < (y : Int) := by omega
        have h3i : ((y : Int) - 16) / 2 = (c : Int) := by omega
        have hcyi : ((y : Int) - 16).tdiv 2 = (c : Int) := by
          have h9 : (y - 16) / 2 = c := by omega
          rw [show (y : Int) - 16 = ((y - 16 : Nat) : Int) by omega, ← h9]; rfl
        have hpar : ((y : Int).tmod 2 == 1) = t := by
          have h9 : (y : Int).tmod 2 = ((y % 2 : Nat) : Int) := rfl
          have h8 : y % 2 = t.toNat := by omega
          rw [h9, h8]; cases t <;> rfl
        have hpar2 : ((y : Int) % 2 == 1) = t := by
          have h8 : (y : Int) % 2 = ((t.toNat : Nat) : Int) := by omega
          rw [h8]; cases t <;> rfl
        clear hyy hyc ht2
        obtain ⟨z, hz⟩ : ∃ z, 2 ^ c = z := ⟨_, rfl⟩
        have HZ := Lib.hid hz
        rw [hz] at hs hp hf
        clear hz
        have hzi : (e : Int) + 1 + (z : Int) ≤ (ed : Int) := by omega
        go_wp2_with fail
        refine hwc.mono ?_
        rintro e9 _ ⟨rfl, rfl⟩
        clear hwc
        go_wp2_with fail
        refine (hs wr).mono ?_
        rintro e8 _ ⟨rfl, rfl⟩
        rename World => wo
        have hst := srb_new wo (V := #[.int .i64 ((e : Int) + 1), .int .i64 (c : Int), .bool t, .slice none 0 0]) rfl (by simp [Value.oneCell'])
        have b4 := Blk.new wo 84 #[.int .i64 ((e : Int) + 1), .int .i64 (c : Int), .bool t, .slice none 0 0]
        have k4 : Below wo.heap.size wo (wo.alloc (.cells #[.int .i64 ((e : Int) + 1), .int .i64 (c : Int), .bool t, .slice none 0 0] 84)) := (Below.refl _ _).alloc (Nat.le_refl _) _
        have s4 : (wo.alloc (.cells #[.int .i64 ((e : Int) + 1), .int .i64 (c : Int), .bool t, .slice none 0 0] 84)).heap.size = wo.heap.size + 1 := by simp
        obtain ⟨W4, hW4⟩ : ∃ W4, wo.alloc (.cells #[.int .i64 ((e : Int) + 1), .int .i64 (c : Int), .bool t, .slice none 0 0] 84) = W4 := ⟨_, rfl⟩
        rw [hW4] at hst b4 k4 s4
        have HB4 := Lib.hid (And.intro b4 (And.intro k4 s4))
        clear b4 k4 s4 hW4
        go_wp2_with fail
        refine (hs W4).mono ?_
        rintro e7 _ ⟨rfl, rfl⟩
        go_wp2_with fail
        go_loopw [44] (fun i wr => ∃ (j : Nat) (vi : Value), j ≤ z ∧ i = .int .i64 j ∧ Blk wr wo.heap.size 84 #[.int .i64 ((e : Int) + 1), .int .i64 (c : Int), .bool t, vi] ∧ wr.ownsRow (wo.heap.size + 1) 53 1 vi j (wvl (wat ws (e + 1) j)) ∧ Below wo.heap.size wo wr) (fun i _ => z - (intOf i).toNat)
        case atStart => exact ⟨0, _, Nat.zero_le _, rfl, HB4.out.1, by simpa [wat, wvl] using World.ownsRow_nil W4 (wo.heap.size + 1) 53 1, HB4.out.2.1⟩
        case round =>
          obtain ⟨j, vi, hj, rfl, hbx, how, hb2⟩ := hrel
          by_cases hjz : j < z
          · have hjzi : (j : Int) < (z : Int) := by omega
            have hbW2 := bel_later HX.out.2.2.2.2.2 hb2
            have hwc2 := HK.out.1 hbW2.drew (e + 1 + j) (by omega)
            rw [show ((e + 1 + j : Nat) : Int) = (e : Int) + 1 + (j : Int) by omega] at hwc2
            have hwt : wat ws (e + 1) (j + 1) = wat ws (e + 1) j ++ [ws.getD (e + 1 + j) 0] := wat_snoc ws (by have := HK.out.2.2.2.2.2; omega)
            obtain ⟨q, hq⟩ : ∃ q, ws.getD (e + 1 + j) 0 = q := ⟨_, rfl⟩
            rw [hq] at hwc2 hwt
            have k5 : Below wr.heap.size wr ((wr.alloc (.cells #[.int .u32 (q : Int)] 53)).drew) := ((Below.refl _ wr).alloc (Nat.le_refl _) _).drew
            have how5 := owns_later how k5
            have hbx5 := hbx.kept (Kept.of_below [] k5) (by simp)
            have hsz := hb2.size
            have HY := Lib.hid (And.intro hbx5 (And.intro how5 (And.intro k5 (And.intro hwt (And.intro hb2 hsz)))))
            have c3 : wr.cell? ⟨wo.heap.size, 3, none⟩ = some vi := hbx.cell 3
            have c3b := hbx5.cell 3
            have c3c : ((wr.alloc (.cells #[.int .u32 (q : Int)] 53)).drew).cell? ⟨wo.heap.size, 3, none⟩ = some vi := c3b
            clear how5 hbx5 k5 hbW2 hwt hb2 hbx how hq
            go_wp2_with fail
            have hnews : ∀ i u, [Value.int .u32 (q : Int)][i]? = some u → ((wr.alloc (.cells #[.int .u32 (q : Int)] 53)).drew).cell? ((⟨wr.heap.size, 0, none⟩ : Addr).add i) = some u := fun i u hi => by
              rw [Addr.add_lit, Nat.zero_add]
              have := ((Blk.new wr 53 #[.int .u32 (q : Int)]).kept (Kept.of_below [] ((Below.refl _ _).drew)) (by simp)).cell i
              rw [this]
              simpa using hi
            have hwr : IntKind.i64.wrap (IntKind.i64.wrap ((e : Int) + 1) + (j : Int)) = (e : Int) + 1 + (j : Int) := by
              rw [show IntKind.i64.wrap ((e : Int) + 1) = (e : Int) + 1 by rw [show (e : Int) + 1 = ((e + 1 : Nat) : Int) by omega]; exact w64n (by omega), show (e : Int) + 1 + (j : Int) = ((e + 1 + j : Nat) : Int) by omega]
              exact w64n (by omega)
            have hba9 : wo.heap.size + 1 ≤ ((wr.alloc (.cells #[.int .u32 (q : Int)] 53)).drew).heap.size := by have := HY.out.2.2.1.size; have := HY.out.2.2.2.2.2; have := HY.out.1.lt; omega
            have HS : ∀ {ops : Array Oper} {o : Oper} {a : Act} {K : Act → World → Prop} {Q : Exit → Act → World → Prop} {X : Prop}, o.guard = none → o.op = .call { callee := .builtin .append, args := #[.tmp 48, .tmp 55], argTypes := #[62, 62] } → a.eval (.tmp 48) = vi → a.eval (.tmp 55) = .slice (some ⟨wr.heap.size, 0, none⟩) 1 1 → (∀ v' w', w'.ownsRow (wo.heap.size + 1) 53 1 v' (j + 1) (wvl (wat ws (e + 1) j) ++ [.int .u32 (q : Int)]) → ((wr.alloc (.cells #[.int .u32 (q : Int)] 53)).drew).grownBy w' vi.ownBlock → K (a.put o.dst v') w') → if Region.wanted o (yielded ops a.tmps) = true then Oper.wp Try.prog o a ((wr.alloc (.cells #[.int .u32 (q : Int)] 53)).drew) K Q else X :=
              fun hgd ho hs hx h => step_append_own hgd (.tmp 48) (.tmp 55) 62 ho (wo.heap.size + 1) 53 j0 (.int .u32 0) 1 4 Try.underlying62 ji jz0 jz1 jz2 rfl (by decide) vi j _ hs HY.out.2.1 ⟨wr.heap.size, 0, none⟩ 1 1 [Value.int .u32 (q : Int)] hx rfl hnews (by simp [Value.oneCell']) (by unfold maxLen; omega) (by omega) hba9 h
            go_region_law (first
              | (refine step_fn rfl rfl rfl (enters_of Try.func46 (by kernel_rfl) rfl) (by simp [Act.eval, Act.put, hwr]) hwc2 ?_)
              | (refine HS rfl rfl (by simp [Act.eval, Act.put]) (by simp [Act.eval, Act.put]) ?_; intro v5 w5 how5 hg5; obtain ⟨a5, m5, rfl⟩ := owns_sl how5; have b5 := (hg5.block _ HY.out.1.lt (own_ne_blk HY.out.2.1 HY.out.1 (by decide))).trans HY.out.1; have c5 := Blk.cell b5 3; have f5 := Blk.free b5 3; have hv5 := own_one how5))
            all_goals (
              have hKs : Kept [wo.heap.size] w5 (w5.setCell ⟨wo.heap.size, 3, none⟩ (.slice a5 (j + 1) m5)) := (Kept.refl _ _).setCell (p := ⟨wo.heap.size, 3, none⟩) (.inl (by simp)) _
              have bs5 := Blk.set b5 3 (.slice a5 (j + 1) m5)
              simp only [List.setIfInBounds_toArray, List.set_cons_zero, List.set_cons_succ] at bs5
              have hos5 : (w5.setCell ⟨wo.heap.size, 3, none⟩ (.slice a5 (j + 1) m5)).ownsRow (wo.heap.size + 1) 53 1 (.slice a5 (j + 1) m5) (j + 1) (wvl (wat ws (e + 1) (j + 1))) := by
                have h9 := ownk how5 hKs (fun i hi h9 => by have := (how5.lt i hi).1; simp at h9; omega)
                rw [HY.out.2.2.2.1, show wvl (wat ws (e + 1) j ++ [q]) = wvl (wat ws (e + 1) j) ++ [.int .u32 (q : Int)] by simp [wvl]]
                exact h9
              have hbs5 : Below wo.heap.size wo (w5.setCell ⟨wo.heap.size, 3, none⟩ (.slice a5 (j + 1) m5)) := ((bel_later HY.out.2.2.2.2.1 HY.out.2.2.1).grown hg5 (bel_later HY.out.2.2.2.2.1 HY.out.2.2.1).size (fun i hi => by have := (HY.out.2.1.lt i hi).1; omega)).setCell (Nat.le_refl _) _
              have HW := Lib.hid (And.intro bs5 (And.intro hos5 hbs5))
              clear bs5 hos5 hbs5 hKs how5 hg5 b5 c5 f5 hv5
              go_wp2_with fail
              go_roundw
              case rel => exact ⟨j + 1, _, by omega, by go_num, HW.out.1, HW.out.2.1, HW.out.2.2⟩
              case measure => simp [intOf]; omega)
          · obtain rfl : j = z := by omega
            have hHZ := HZ.out
            have hb9 := hbx.cell 3
            have hl9 := lrb hbx rfl
            obtain ⟨V9, hV9, hV9s⟩ : ∃ V9 : Array Value, #[Value.int .i64 ((e : Int) + 1), .int .i64 (c : Int), .bool t, vi] = V9 ∧ V9.size = 4 := ⟨_, rfl, rfl⟩
            have hvi := own_one how
            have hone9 : ∀ u ∈ V9.toList, u.oneCell' = true := by
              rw [← hV9]; simp only [List.mem_cons, List.not_mem_nil, or_false]
              rintro u (rfl | rfl | rfl | rfl) <;> first | exact hvi | rfl
            rw [hV9] at hl9
            have hbl9 := HX.out.2.1.later hb2
            have hbs := bs_rb V9 hV9s wr
            have hrow9 := hbl9.row.alloc (.cells V9 84)
            obtain ⟨xs9, hxs9⟩ : ∃ xs9, rbs R vs = xs9 := ⟨_, rfl⟩
            rw [hxs9] at hrow9
            have hn9 : ∀ i u, V9.toList[i]? = some u → (wr.alloc (.cells V9 84)).cell? ((⟨wr.heap.size, 0, none⟩ : Addr).add i) = some u := fun i u hi => by
              rw [Addr.add_lit, Nat.zero_add, (Blk.new wr 84 _).cell]
              simpa using hi
            have hge := HX.out.2.2.2.2.2.size
            have hge2 := hb2.size
            have hRl9 := HX.out.2.2.2.2.1
            have hfr : ∀ v ∈ vs, v.ownBlock ≠ vi.ownBlock := fun v hv => by
              obtain ⟨i, hi, rfl⟩ := List.mem_iff_getElem.1 hv
              have hbl := HX.out.2.1
              have hil : i < R.length := by have := hbl.len; omega
              have hwi := hbl.wds i _ _ (List.getElem?_eq_getElem hil) (List.getElem?_eq_getElem hi)
              obtain ⟨g, e9, _, hlt9⟩ := own_pos hwi (by have := Nat.pos_of_ne_zero (show 2 ^ (R[i]).c ≠ 0 by simp); omega)
              obtain ⟨g', e9', hge9, _⟩ := own_pos how (by omega)
              rw [e9, e9']
              intro e; injection e with e; omega
            have HY := Lib.hid (And.intro hfr (And.intro hbl9 (And.intro hxs9 (And.intro hV9 (And.intro how hb2)))))
            clear hfr hbl9 hxs9 hV9 how hb2 hbx hb9 hvi
            go_wp2_with (at_builtin; refine wpList_append_own _ rfl _ _ 29 rfl w.heap.size 84 i0 (.agg zeroRb) 4 48 Try.underlying29 hi hz0 hz1 hz2 rfl (by decide) _ _ _ rfl hrow9 ⟨wr.heap.size, 0, none⟩ 1 1 V9.toList rfl (by simp [hV9s]) hn9 hone9 (by unfold maxLen; omega) (by omega) (by simp; omega) ?_)
            intro ov w6 how6 hgr6 _
            go_wp2_with fail
            refine (hs w6).mono ?_
            rintro e6 _ ⟨rfl, rfl⟩
            go_wp2_with fail
            go_roundw
            case rel =>
              have hW5 : Below wr.heap.size wr (wr.alloc (.cells V9 84)) := (Below.refl _ _).alloc (Nat.le_refl _) _
              have hbl5 := HY.out.2.1.later hW5
              have hB5 := bel_later (bel_later HX.out.2.2.2.2.2 HY.out.2.2.2.2.2) hW5
              have hb6 : Below w.heap.size w w6 := hB5.grown hgr6 hB5.size (fun i hi => (hbl5.row.lt i hi).1)
              have hsn := hbl5.snoc (b := ⟨e + 1, c, t, wat ws (e + 1) j⟩) (wv := vi) (bv' := ov) (w' := w6) (by rw [hHZ]; exact (ownsRow_le HY.out.2.2.2.2.1 (by omega)).alloc _) HY.out.1 (by
                rw [HY.out.2.2.1, show (Rb.cs ⟨e + 1, c, t, wat ws (e + 1) j⟩ vi).toList = V9.toList by rw [← HY.out.2.2.2.1]; simp [Rb.cs]]
                exact how6) hgr6
              have hBk : B[k]? = some ⟨x, c, t⟩ := by
                have := congrArg (fun l => l[0]?) HD.out.1
                simpa using this
              have hkl := (List.getElem?_eq_some_iff.1 hBk).1
              have hd1 : B.drop (k + 1) = r := by rw [show B.drop (k + 1) = (B.drop k).drop 1 by rw [List.drop_drop], HD.out.1]; rfl
              refine ⟨k + 1, e + 1 + j, R ++ [⟨e + 1, c, t, wat ws (e + 1) j⟩], vs ++ [vi], by omega, by go_num, by omega, by omega, ?_, hsn, ?_, ?_, ?_, hb6⟩
              · rw [hd1, ← hHZ]; exact HD.out.2.2.1
              · rw [List.map_append, HX.out.2.2.1, List.take_add_one, hBk, HD.out.2.1]; rfl
              · intro r9 hr9
                rcases List.mem_append.1 hr9 with h9 | h9
                · exact HX.out.2.2.2.1 r9 h9
                · obtain rfl : r9 = _ := by simpa using h9
                  rw [hHZ]
              · simp; omega
            case measure => simp [intOf]; omega
    · have hEe : e = ed := by omega
      subst hEe
      have hE2 : E = e ∧ B.drop k = [] := by
        have hEd : E = e := by
          rcases HK.out.2.2.2.1 with h9 | h9
          · rw [h9]; exact HK.out.2.2.2.2.1
          · have := tile_le hT; have := h9.1; have := HK.out.2.2.2.2.1; omega
        refine ⟨hEd, ?_⟩
        cases hdr : B.drop k with
        | nil => rfl
        | cons d r =>
          rw [hdr] at hT
          obtain ⟨_, _, _, _, h5⟩ := hT
          have := tile_le h5
          generalize 2 ^ d.c = z at *
          omega
      have hkB : B.take k = B := by
        have h9 := hE2.2
        rw [List.drop_eq_nil_iff] at h9
        exact List.take_of_length_le h9
      rw [hkB] at hRB
      obtain ⟨a9, c9, hsl⟩ := owns_sl hbl.row
      have HX := Lib.hid (And.intro hbl (And.intro hRB (And.intro hRw (And.intro hRl (And.intro hbe (And.intro hE2 hkB))))))
      clear hbl hRB hRw hRl hbe hE2 hkB hT
      go_wp2_with fail
      go_ret2
      refine ⟨?_, HX.out.2.2.2.2.1⟩
      unfold BlA
      rw [if_pos (by rw [HX.out.2.2.2.2.2.1.1]; exact HK.out.2.2.2.2.1.symm)]
      exact ⟨_, _, _, rfl, HX.out.1, HX.out.2.1, HX.out.2.2.1⟩
end Go.Proofs.Ytgnpoehcmlmajaa
