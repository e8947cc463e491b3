/-
  That bytes of a cut are read back as they were written, and written as they were read. Nothing here is a statement of the document.
-/
import Derived.Test.YtikdgbmdepplgaaGreatDoorRtB
import Derived.Test.YtikdgbmdepplgaaGreatDoorTbS
import Derived.Deep.Slices
import Derived.Test.YtikdgbmdepplgaaGreatDoorRvG
import Derived.Test.YtikdgbmdepplgaaGreatDoorPfxM
namespace Go.Proofs.YtikdgbmdepplgaaGreatDoor
open Go.RowKit Go.Shelf Go.ChangeShapes Go.WideShapes Go.ChangeAt
set_option linter.unusedVariables false
set_option maxRecDepth 100000
theorem c_bool : Tryz.prog.cellsOf 4 = 1 := by kernel_rfl

/-! ### api.Rib -/
theorem c_ro : Tryz.prog.cellsOf 50 = 21 := by kernel_rfl
theorem c_slro : Tryz.prog.cellsOf 22 = 1 := by kernel_rfl
theorem c_bxro : Tryz.prog.cellsOf 24 = 1 := by kernel_rfl
theorem ro_cells {H : Type} {enc : TypeId × Value → H} {W : World} {sp : Nat → Bool} {held : Bool} {fuel : Nat} {cs : List Value} {y : DataW H × List MemPlace} (h : DataW.trod enc Tryz.prog W 0 sp held fuel 50 cs = some y) : ∃ r : Ro, cs = r.cs.toList := by
  obtain ⟨xs, m, _, _, hlen, hxs, hg⟩ := DataW.trod_struct Tryz.underlying50 h
  rw [c_ro] at hlen
  obtain ⟨y0, y1, y2, y3, rfl⟩ : ∃ y0 y1 y2 y3, xs = [y0, y1, y2, y3] := by
    match xs, hxs with
    | [y0, y1, y2, y3], _ => exact ⟨y0, y1, y2, y3, rfl⟩
  have t0 : DataW.trod enc Tryz.prog W 0 sp held m 46 (List.take (Tryz.prog.cellsOf 46) (List.drop 0 cs)) = some y0 := hg 0 _ rfl
  rw [c_px] at t0
  have t1 : DataW.trod enc Tryz.prog W 0 sp held m 3 (List.take (Tryz.prog.cellsOf 3) (List.drop 18 cs)) = some y1 := hg 1 _ rfl
  rw [c_int] at t1
  have t2 : DataW.trod enc Tryz.prog W 0 sp held m 3 (List.take (Tryz.prog.cellsOf 3) (List.drop 19 cs)) = some y2 := hg 2 _ rfl
  rw [c_int] at t2
  have t3 : DataW.trod enc Tryz.prog W 0 sp held m 3 (List.take (Tryz.prog.cellsOf 3) (List.drop 20 cs)) = some y3 := hg 3 _ rfl
  rw [c_int] at t3
  obtain ⟨p, hp, _, _⟩ := px_cells t0
  obtain ⟨u1, e1, _, f1⟩ := DataW.trod_int Tryz.underlying3 t1
  obtain ⟨u2, e2, _, f2⟩ := DataW.trod_int Tryz.underlying3 t2
  obtain ⟨u3, e3, _, f3⟩ := DataW.trod_int Tryz.underlying3 t3
  refine ⟨⟨p, u1, u2, u3⟩, ?_⟩
  have q18 : (cs.drop 18).take 1 ++ cs.drop 19 = cs.drop 18 := by rw [show cs.drop 19 = (cs.drop 18).drop 1 by rw [List.drop_drop], List.take_append_drop]
  have q19 : (cs.drop 19).take 1 ++ cs.drop 20 = cs.drop 19 := by rw [show cs.drop 20 = (cs.drop 19).drop 1 by rw [List.drop_drop], List.take_append_drop]
  have ql : (cs.drop 20).take 1 = cs.drop 20 := List.take_of_length_le (by simp; omega)
  have hs : cs = cs.take 18 ++ ((cs.drop 18).take 1 ++ ((cs.drop 19).take 1 ++ ((cs.drop 20).take 1))) := by rw [ql, q19, q18, List.take_append_drop]
  rw [List.drop_zero] at hp
  rw [hs, hp, e1, e2, e3]
  simp [Ro.cs]
theorem rorows_of {H : Type} {enc : TypeId × Value → H} {W : World} {sp : Nat → Bool} {held : Bool} {fuel : Nat} {cs : List Value} {y : DataW H × List MemPlace} (h : DataW.trod enc Tryz.prog W 0 sp held fuel 22 cs = some y) : ∃ a n c L, cs = [.slice a n c] ∧ List.length L = n ∧ RoAt W a L ∧ n ≤ c ∧ c ≤ maxLen ∧ (a = none → c = 0) := by
  rcases Go.Deep.open_slice Tryz.underlying22 h with ⟨hcs, _⟩ | ⟨x, len', cap', q, nn, Dt, Pl, hcs, _, hl, hm, hq, _, hi⟩
  · exact ⟨none, 0, 0, [], hcs, rfl, .inl rfl, Nat.le_refl _, Nat.zero_le _, fun _ => rfl⟩
  · have hex : ∀ i, i < len' → ∃ y : Ro, ∀ j, j < 21 → W.cell? (x.add (i * 21 + j)) = (y.cs)[j]? := by
      intro i hil
      obtain ⟨cs', hc', ht'⟩ := hi i (by rw [hq]; split <;> omega)
      rw [c_ro] at hc'
      obtain ⟨_, hlen, hat⟩ := World.cells?_some hc'
      obtain ⟨y, rfl⟩ := ro_cells ht'
      refine ⟨y, fun j hj => ?_⟩
      have h9 := hat j hj
      rw [Go.Deep.add_add] at h9
      rw [h9]
      simp
    obtain ⟨f, hf2⟩ : ∃ f : Nat → Ro, ∀ i, i < len' → ∀ j, j < 21 → W.cell? (x.add (i * 21 + j)) = ((f i).cs)[j]? :=
      ⟨fun i => if h : i < len' then (hex i h).choose else Ro.zero, fun i hil => by simp only [dif_pos hil]; exact (hex i hil).choose_spec⟩
    refine ⟨some x, len', cap', (List.range len').map f, hcs, by simp, ?_, hl, hm, fun h => by cases h⟩
    by_cases h0 : len' = 0
    · left; rw [h0]; rfl
    · right
      have h1 := hf2 0 (by omega) 0 (by omega)
      have h2 : ((f 0).cs)[0]? = some (.int .i64 (f 0).p.a.v) := by rw [Ro.cp _ _ (by omega), Px.ca _ _ (by omega), Ad.c0]
      rw [h2] at h1
      obtain ⟨b, o, s⟩ := x
      obtain rfl : s = none := by simpa [Addr.add] using World.cell?_spot h1
      refine ⟨b, o, rfl, ?_, fun i hi j hj => ?_⟩
      · have := cell_lt h1
        simpa [Addr.add_lit] using this
      · have hil : i < len' := by simpa using hi
        have h3 := hf2 i hil j hj
        rw [Addr.add_lit] at h3
        rw [Nat.add_assoc, h3]
        congr 2
        simp [rog, hil]
theorem rib_of {H : Type} {enc : TypeId × Value → H} {W : World} {sp : Nat → Bool} {base : Nat} {held : Bool} {v : Value} {d : DataW H} {p : List MemPlace} (hv : Value.okWide Tryz.prog W .any base 24 v) (h : DataW.Trod enc Tryz.prog W 0 sp held 24 v d p) : ∃ a n c L, v = .agg #[.slice a n c] ∧ List.length L = n ∧ RoAt W a L ∧ n ≤ c ∧ c ≤ maxLen ∧ (a = none → c = 0) := by
  obtain ⟨cs, rfl, hsz⟩ := okWide_struct Tryz.underlying24 hv
  obtain ⟨fuel, hf⟩ := h
  obtain ⟨xs, m, _, _, hlen, hxs, hg⟩ := DataW.trod_struct Tryz.underlying24 (show DataW.trod enc Tryz.prog W 0 sp held fuel 24 cs.toList = some _ from hf)
  rw [c_bxro] at hlen
  obtain ⟨y0, rfl⟩ : ∃ y0, xs = [y0] := by
    match xs, hxs with
    | [a], _ => exact ⟨a, rfl⟩
  have t0 : DataW.trod enc Tryz.prog W 0 sp held m 22 (List.take (Tryz.prog.cellsOf 22) (List.drop 0 cs.toList)) = some y0 := hg 0 _ rfl
  rw [c_slro, List.drop_zero, List.take_of_length_le (by omega)] at t0
  obtain ⟨a, n, c, L, h1, h2, h3⟩ := rorows_of t0
  exact ⟨a, n, c, L, congrArg Value.agg (Array.toList_inj.1 (by rw [h1])), h2, h3⟩

/-! ### api.Batch -/
theorem c_up : Tryz.prog.cellsOf 48 = 22 := by kernel_rfl
theorem c_slup : Tryz.prog.cellsOf 25 = 1 := by kernel_rfl
theorem c_bxup : Tryz.prog.cellsOf 27 = 1 := by kernel_rfl
theorem up_cells {H : Type} {enc : TypeId × Value → H} {W : World} {sp : Nat → Bool} {held : Bool} {fuel : Nat} {cs : List Value} {y : DataW H × List MemPlace} (h : DataW.trod enc Tryz.prog W 0 sp held fuel 48 cs = some y) : ∃ r : Up, cs = r.cs.toList := by
  obtain ⟨xs, m, _, _, hlen, hxs, hg⟩ := DataW.trod_struct Tryz.underlying48 h
  rw [c_up] at hlen
  obtain ⟨y0, y1, y2, y3, y4, rfl⟩ : ∃ y0 y1 y2 y3 y4, xs = [y0, y1, y2, y3, y4] := by
    match xs, hxs with
    | [y0, y1, y2, y3, y4], _ => exact ⟨y0, y1, y2, y3, y4, rfl⟩
  have t0 : DataW.trod enc Tryz.prog W 0 sp held m 46 (List.take (Tryz.prog.cellsOf 46) (List.drop 0 cs)) = some y0 := hg 0 _ rfl
  rw [c_px] at t0
  have t1 : DataW.trod enc Tryz.prog W 0 sp held m 3 (List.take (Tryz.prog.cellsOf 3) (List.drop 18 cs)) = some y1 := hg 1 _ rfl
  rw [c_int] at t1
  have t2 : DataW.trod enc Tryz.prog W 0 sp held m 4 (List.take (Tryz.prog.cellsOf 4) (List.drop 19 cs)) = some y2 := hg 2 _ rfl
  rw [c_bool] at t2
  have t3 : DataW.trod enc Tryz.prog W 0 sp held m 3 (List.take (Tryz.prog.cellsOf 3) (List.drop 20 cs)) = some y3 := hg 3 _ rfl
  rw [c_int] at t3
  have t4 : DataW.trod enc Tryz.prog W 0 sp held m 3 (List.take (Tryz.prog.cellsOf 3) (List.drop 21 cs)) = some y4 := hg 4 _ rfl
  rw [c_int] at t4
  obtain ⟨p, hp, _, _⟩ := px_cells t0
  obtain ⟨u1, e1, _, f1⟩ := DataW.trod_int Tryz.underlying3 t1
  obtain ⟨u2, e2, _⟩ := DataW.trod_bool Tryz.underlying4 t2
  obtain ⟨u3, e3, _, f3⟩ := DataW.trod_int Tryz.underlying3 t3
  obtain ⟨u4, e4, _, f4⟩ := DataW.trod_int Tryz.underlying3 t4
  refine ⟨⟨p, u1, u2, u3, u4⟩, ?_⟩
  have q18 : (cs.drop 18).take 1 ++ cs.drop 19 = cs.drop 18 := by rw [show cs.drop 19 = (cs.drop 18).drop 1 by rw [List.drop_drop], List.take_append_drop]
  have q19 : (cs.drop 19).take 1 ++ cs.drop 20 = cs.drop 19 := by rw [show cs.drop 20 = (cs.drop 19).drop 1 by rw [List.drop_drop], List.take_append_drop]
  have q20 : (cs.drop 20).take 1 ++ cs.drop 21 = cs.drop 20 := by rw [show cs.drop 21 = (cs.drop 20).drop 1 by rw [List.drop_drop], List.take_append_drop]
  have ql : (cs.drop 21).take 1 = cs.drop 21 := List.take_of_length_le (by simp; omega)
  have hs : cs = cs.take 18 ++ ((cs.drop 18).take 1 ++ ((cs.drop 19).take 1 ++ ((cs.drop 20).take 1 ++ ((cs.drop 21).take 1)))) := by rw [ql, q20, q19, q18, List.take_append_drop]
  rw [List.drop_zero] at hp
  rw [hs, hp, e1, e2, e3, e4]
  simp [Up.cs]
theorem uprows_of {H : Type} {enc : TypeId × Value → H} {W : World} {sp : Nat → Bool} {held : Bool} {fuel : Nat} {cs : List Value} {y : DataW H × List MemPlace} (h : DataW.trod enc Tryz.prog W 0 sp held fuel 25 cs = some y) : ∃ a n c L, cs = [.slice a n c] ∧ List.length L = n ∧ UpAt W a L ∧ n ≤ c ∧ c ≤ maxLen ∧ (a = none → c = 0) := by
  rcases Go.Deep.open_slice Tryz.underlying25 h with ⟨hcs, _⟩ | ⟨x, len', cap', q, nn, Dt, Pl, hcs, _, hl, hm, hq, _, hi⟩
  · exact ⟨none, 0, 0, [], hcs, rfl, .inl rfl, Nat.le_refl _, Nat.zero_le _, fun _ => rfl⟩
  · have hex : ∀ i, i < len' → ∃ y : Up, ∀ j, j < 22 → W.cell? (x.add (i * 22 + j)) = (y.cs)[j]? := by
      intro i hil
      obtain ⟨cs', hc', ht'⟩ := hi i (by rw [hq]; split <;> omega)
      rw [c_up] at hc'
      obtain ⟨_, hlen, hat⟩ := World.cells?_some hc'
      obtain ⟨y, rfl⟩ := up_cells ht'
      refine ⟨y, fun j hj => ?_⟩
      have h9 := hat j hj
      rw [Go.Deep.add_add] at h9
      rw [h9]
      simp
    obtain ⟨f, hf2⟩ : ∃ f : Nat → Up, ∀ i, i < len' → ∀ j, j < 22 → W.cell? (x.add (i * 22 + j)) = ((f i).cs)[j]? :=
      ⟨fun i => if h : i < len' then (hex i h).choose else Up.zero, fun i hil => by simp only [dif_pos hil]; exact (hex i hil).choose_spec⟩
    refine ⟨some x, len', cap', (List.range len').map f, hcs, by simp, ?_, hl, hm, fun h => by cases h⟩
    by_cases h0 : len' = 0
    · left; rw [h0]; rfl
    · right
      have h1 := hf2 0 (by omega) 0 (by omega)
      have h2 : ((f 0).cs)[0]? = some (.int .i64 (f 0).p.a.v) := by rw [Up.cp _ _ (by omega), Px.ca _ _ (by omega), Ad.c0]
      rw [h2] at h1
      obtain ⟨b, o, s⟩ := x
      obtain rfl : s = none := by simpa [Addr.add] using World.cell?_spot h1
      refine ⟨b, o, rfl, ?_, fun i hi j hj => ?_⟩
      · have := cell_lt h1
        simpa [Addr.add_lit] using this
      · have hil : i < len' := by simpa using hi
        have h3 := hf2 i hil j hj
        rw [Addr.add_lit] at h3
        rw [Nat.add_assoc, h3]
        congr 2
        simp [upg, hil]
theorem bat_of {H : Type} {enc : TypeId × Value → H} {W : World} {sp : Nat → Bool} {base : Nat} {held : Bool} {v : Value} {d : DataW H} {p : List MemPlace} (hv : Value.okWide Tryz.prog W .any base 27 v) (h : DataW.Trod enc Tryz.prog W 0 sp held 27 v d p) : ∃ a n c L, v = .agg #[.slice a n c] ∧ List.length L = n ∧ UpAt W a L ∧ n ≤ c ∧ c ≤ maxLen ∧ (a = none → c = 0) := by
  obtain ⟨cs, rfl, hsz⟩ := okWide_struct Tryz.underlying27 hv
  obtain ⟨fuel, hf⟩ := h
  obtain ⟨xs, m, _, _, hlen, hxs, hg⟩ := DataW.trod_struct Tryz.underlying27 (show DataW.trod enc Tryz.prog W 0 sp held fuel 27 cs.toList = some _ from hf)
  rw [c_bxup] at hlen
  obtain ⟨y0, rfl⟩ : ∃ y0, xs = [y0] := by
    match xs, hxs with
    | [a], _ => exact ⟨a, rfl⟩
  have t0 : DataW.trod enc Tryz.prog W 0 sp held m 25 (List.take (Tryz.prog.cellsOf 25) (List.drop 0 cs.toList)) = some y0 := hg 0 _ rfl
  rw [c_slup, List.drop_zero, List.take_of_length_le (by omega)] at t0
  obtain ⟨a, n, c, L, h1, h2, h3⟩ := uprows_of t0
  exact ⟨a, n, c, L, congrArg Value.agg (Array.toList_inj.1 (by rw [h1])), h2, h3⟩
end Go.Proofs.YtikdgbmdepplgaaGreatDoor
namespace Go.Proofs.YtikdgbmdepplgaaGreatDoor
open Go.RowKit Go.Shelf Go.ChangeShapes Go.WideShapes Go.ChangeAt
set_option linter.unusedVariables false
set_option maxRecDepth 100000
/-! ### What comes of them -/
inductive FoldR (A : List Ro → List Up → List Ro → Int → Prop) : List Ro → List (List Up) → List Ro → Int → Prop
  | done {L : List Ro} : FoldR A L [] L 0
  | stop {L : List Ro} {U : List Up} {Us : List (List Up)} {M : List Ro} {er : Int} : A L U M er → er ≠ 0 → FoldR A L (U :: Us) [] er
  | next {L : List Ro} {U : List Up} {Us : List (List Up)} {M D : List Ro} {er : Int} : A L U M 0 → FoldR A M Us D er → FoldR A L (U :: Us) D er
theorem fold_same {L M : List Ro} {Us : List (List Up)} {e : Int} (h : FoldR AppR L Us M e) : ∀ {N : List Ro} {f : Int}, FoldR AppI L Us N f → M = N ∧ e = f := by
  induction h with
  | done =>
    intro N f k
    cases k
    exact ⟨rfl, rfl⟩
  | stop h1 h2 =>
    intro N f k
    cases k with
    | stop k1 k2 => exact ⟨rfl, (app_same h1 k1).2⟩
    | next k1 k2 => exact absurd (app_same h1 k1).2 h2
  | next h1 h2 ih =>
    intro N f k
    cases k with
    | stop k1 k2 => exact absurd (app_same h1 k1).2.symm k2
    | next k1 k2 =>
      obtain ⟨rfl, _⟩ := app_same h1 k1
      exact ih k2
theorem runU_len : ∀ (U : List Up) {L D : List Ro}, runU L U = some D → D.length ≤ L.length + U.length
  | [], L, D, h => by cases h; simp
  | u :: U, L, D, h => by
    rw [runU] at h
    split at h
    · cases h
    · have := runU_len U h
      have := stepL_len L u
      simp only [List.length_cons]
      omega
theorem runI_len : ∀ (U : List Up) {L D : List Ro}, runI L U = some D → D.length ≤ L.length + U.length
  | [], L, D, h => by cases h; simp
  | u :: U, L, D, h => by
    rw [runI] at h
    split at h
    · cases h
    · have := runI_len U h
      have := insR_len L u
      simp only [List.length_cons]
      omega
theorem appR_len {L M : List Ro} {U : List Up} {e : Int} (h : AppR L U M e) : M.length ≤ 168 := by
  cases h with
  | rib => simp
  | bat => simp
  | gone => simp
  | full => simp
  | good h1 h2 h3 h4 h5 =>
    have := okRib_len h1
    have := h2.1.2
    have := runU_len U h3
    have := h4.1.length_eq
    omega
theorem appI_len {L M : List Ro} {U : List Up} {e : Int} (h : AppI L U M e) : M.length ≤ 168 := by
  cases h with
  | rib => simp
  | bat => simp
  | gone => simp
  | full => simp
  | good h1 h2 h3 h4 =>
    have := okRib_len h1
    have := h2.1.2
    have := runI_len U h3
    omega
theorem appI_some (L : List Ro) (U : List Up) : ∃ M e, AppI L U M e := by
  by_cases h1 : okRib L
  · by_cases h2 : okBat U
    · cases h3 : runI L U with
      | none => exact ⟨_, _, .gone h1 h2 h3⟩
      | some D =>
        by_cases h4 : disN D D.length ≤ 40
        · exact ⟨_, _, .good h1 h2 h3 h4⟩
        · exact ⟨_, _, .full h1 h2 h3 h4⟩
    · exact ⟨_, _, .bat h1 h2⟩
  · exact ⟨_, _, .rib h1⟩
theorem appI_one {L M N : List Ro} {U : List Up} {e f : Int} (h : AppI L U M e) (k : AppI L U N f) : M = N ∧ e = f := by
  cases h with
  | rib h1 => cases k with
    | rib k1 => exact ⟨rfl, rfl⟩
    | bat k1 => exact absurd k1 h1
    | gone k1 => exact absurd k1 h1
    | full k1 => exact absurd k1 h1
    | good k1 => exact absurd k1 h1
  | bat h1 h2 => cases k with
    | rib k1 => exact absurd h1 k1
    | bat k1 => exact ⟨rfl, rfl⟩
    | gone _ k1 => exact absurd k1 h2
    | full _ k1 => exact absurd k1 h2
    | good _ k1 => exact absurd k1 h2
  | gone h1 h2 h3 => cases k with
    | rib k1 => exact absurd h1 k1
    | bat _ k1 => exact absurd h2 k1
    | gone => exact ⟨rfl, rfl⟩
    | full _ _ k1 => rw [h3] at k1; cases k1
    | good _ _ k1 => rw [h3] at k1; cases k1
  | full h1 h2 h3 h4 => cases k with
    | rib k1 => exact absurd h1 k1
    | bat _ k1 => exact absurd h2 k1
    | gone _ _ k1 => rw [h3] at k1; cases k1
    | full => exact ⟨rfl, rfl⟩
    | good _ _ k1 k2 => rw [h3] at k1; cases k1; exact absurd k2 h4
  | good h1 h2 h3 h4 => cases k with
    | rib k1 => exact absurd h1 k1
    | bat _ k1 => exact absurd h2 k1
    | gone _ _ k1 => rw [h3] at k1; cases k1
    | full _ _ k1 k2 => rw [h3] at k1; cases k1; exact absurd h4 k2
    | good _ _ k1 k2 => rw [h3] at k1; cases k1; exact ⟨rfl, rfl⟩

/-! ### Where they lie -/
def batg (Us : List (List Up)) (i : Nat) : List Up := Us.getD i []
theorem batg_get {Us : List (List Up)} {i : Nat} (h : i < Us.length) : batg Us i = Us[i] := by simp [batg, h]
def BatAt (w : World) (p : Addr) (U : List Up) : Prop := ∃ a n c, w.cell? p = some (.slice a n c) ∧ U.length = n ∧ UpAt w a U ∧ n ≤ c ∧ c ≤ maxLen ∧ (a = none → c = 0)
structure Bats (w : World) (g o : Nat) (Us : List (List Up)) : Prop where
  lt : g < w.heap.size
  row : ∀ i, i < Us.length → BatAt w ⟨g, o + i, none⟩ (batg Us i)
def BatsAt (w : World) (a : Option Addr) (Us : List (List Up)) : Prop := Us = [] ∨ ∃ g o, a = some ⟨g, o, none⟩ ∧ Bats w g o Us
theorem BatAt.later {w w' : World} {p : Addr} {U : List Up} (h : BatAt w p U) (hp : p.block < w.heap.size) (k : Below w.heap.size w w') : BatAt w' p U := by
  obtain ⟨a, n, c, h1, h2, h3, h4⟩ := h
  exact ⟨a, n, c, (k.cell hp).trans h1, h2, h3.later k, h4⟩
theorem Bats.later {w w' : World} {g o : Nat} {Us : List (List Up)} (h : Bats w g o Us) (k : Below w.heap.size w w') : Bats w' g o Us :=
  ⟨Nat.lt_of_lt_of_le h.lt k.size, fun i hi => (h.row i hi).later h.lt k⟩
theorem BatsAt.later {w w' : World} {a : Option Addr} {Us : List (List Up)} (h : BatsAt w a Us) (k : Below w.heap.size w w') : BatsAt w' a Us := by
  rcases h with h | ⟨g, o, h1, h2⟩
  · exact .inl h
  · exact .inr ⟨g, o, h1, h2.later k⟩
theorem BatsAt.spot {w : World} {a : Option Addr} {Us : List (List Up)} (h : BatsAt w a Us) {i : Nat} (hi : i < Us.length) : ∃ g o, a = some ⟨g, o, none⟩ ∧ Bats w g o Us := by
  rcases h with rfl | h
  · simp at hi
  · exact h
theorem BatsAt.take {w : World} {a : Option Addr} {Us : List (List Up)} (h : BatsAt w a Us) (m : Nat) : BatsAt w a (Us.take m) := by
  rcases h with rfl | ⟨g, o, h1, h2⟩
  · exact .inl (by simp)
  · refine .inr ⟨g, o, h1, h2.lt, fun i hi => ?_⟩
    have hi2 : i < Us.length := by rw [List.length_take] at hi; omega
    have := h2.row i hi2
    rw [batg_get hi2] at this
    rw [batg_get hi, List.getElem_take]
    exact this
theorem Bats.load {w : World} {g o : Nat} {Us : List (List Up)} (h : Bats w g o Us) {i : Nat} (hi : i < Us.length) : ∃ a n c, (∀ w', Below w.heap.size w w' → (loadSem 27 (.pointer (some ⟨g, o + i, none⟩))).run Tryz.prog w' = .ok (.agg #[.slice a n c]) w') ∧ (batg Us i).length = n ∧ UpAt w a (batg Us i) ∧ n ≤ c ∧ c ≤ maxLen ∧ (a = none → c = 0) := by
  obtain ⟨a, n, c, h1, h2, h3⟩ := h.row i hi
  refine ⟨a, n, c, fun w' k => ?_, h2, h3⟩
  exact run_loadAt_mid (P := Tryz.prog) w' g (o + i) 27 [.slice a n c] _ (fun j v hj => by
    have hj0 : j = 0 := by have := (List.getElem?_eq_some_iff.1 hj).1; simpa using this
    subst hj0
    have hv : v = .slice a n c := by simpa using hj.symm
    rw [hv]
    exact (k.cell (p := ⟨g, o + i, none⟩) h.lt).trans h1) Tryz.underlying27 rfl s_bat1
theorem bat_box (w : World) (a : Option Addr) (n c : Nat) : ∃ W, (storeSem 27 (.pointer (some ⟨w.heap.size, 0, none⟩)) (.agg #[.slice a n c])).run Tryz.prog (w.alloc (.cells #[.slice none 0 0] 27)) = .ok () W ∧ Blk W w.heap.size 27 #[.slice a n c] ∧ Below w.heap.size w W :=
  ⟨_, st_bat (Blk.new w _ _), Blk.row (Blk.new w _ _) _, below_setRow ((Below.refl _ _).alloc (Nat.le_refl _) _) (Nat.le_refl _) _⟩
/-- Candidates lie in no RIB's box. -/
theorem RoAt.off {w : World} {a x : Option Addr} {n c g : Nat} {L : List Ro} (h : RoAt w a L) (b : Blk w g 24 #[.slice x n c]) : L = [] ∨ ∀ y, a = some y → y.block ≠ g := by
  rcases h with h | ⟨g', o, h1, h2⟩
  · exact .inl h
  · by_cases hL : L.length = 0
    · exact .inl (List.eq_nil_of_length_eq_zero hL)
    · refine .inr fun y hy e => ?_
      rw [h1] at hy
      injection hy with hy
      subst hy
      have e2 : g' = g := e
      subst e2
      have h3 := h2.row 0 (by omega) 20 (by omega)
      rw [(rog L 0).qh] at h3
      have h4 := b.cell (o + 0 * 21 + 20)
      rw [h3] at h4
      simp at h4

/-! ### Batches that are data -/
theorem c_bats : Tryz.prog.cellsOf 27 = 1 := by kernel_rfl
end Go.Proofs.YtikdgbmdepplgaaGreatDoor
namespace Go.Proofs.YtikdgbmdepplgaaGreatDoor
open Go.RowKit Go.Shelf
set_option linter.unusedVariables false

theorem f16 {n : Nat} (h : n ≤ 128) : fill8 n ≤ 16 := by unfold fill8; omega
theorem fill_ge (n : Nat) : n ≤ 8 * fill8 n := by unfold fill8; omega
theorem at_zero_bt {b : B16} {i : Nat} (h : b.at (i / 8) = 0) : bt b i = false := by unfold bt; rw [h]; simp
theorem pad_take {b : B16} {n : Nat} (hn : n ≤ 128) (h : clear b n) : padB (b.l.take (fill8 n)) = b := bt_ext fun i hi => by
  have hB : Bys (b.l.take (fill8 n)) := b.bys.take2 _
  have h16 : i / 8 < 16 := by omega
  by_cases h1 : i / 8 < fill8 n
  · unfold bt
    rw [padB_at _ hB _ h16]
    have : (b.l.take (fill8 n)).getD (i / 8) 0 = b.at (i / 8) := by simp [B16.at, List.getElem?_take, h1]
    rw [this]
  · rw [h i (by have := fill_ge n; omega) hi]
    refine at_zero_bt ?_
    rw [padB_at _ hB _ h16]
    simp [List.getElem?_take, h1]
theorem pad_body {M : List Nat} (hB : Bys M) (h : M.length ≤ 16) : (padB M).l.take M.length = M := by
  apply List.ext_getElem?
  intro i
  rw [List.getElem?_take]
  by_cases h1 : i < M.length
  · rw [if_pos h1]
    have h2 := padB_at M hB i (by omega)
    unfold B16.at at h2
    have h3 : i < (padB M).l.length := by rw [(padB M).len]; omega
    simp [h3, h1] at h2
    simp [h3, h1, h2]
  · rw [if_neg h1, List.getElem?_eq_none (by omega)]
theorem encP_len {p : Px} (h : okP p) : (encP p).length = 2 + fill8 p.n.toNat := by
  have hw := wid_le p.a.v
  have := f16 (show p.n.toNat ≤ 128 by have := h.2.2.1; omega)
  unfold encP
  simp [p.a.b.len]
  omega
theorem enc_v {p : Px} (h : okP p) : ((p.a.v.toNat : Nat) : Int) = p.a.v := by have := wid_cases h.1.1; omega
theorem enc_n {p : Px} (h : okP p) : ((p.n.toNat : Nat) : Int) = p.n := by have := h.2.1; omega
theorem dec_enc {p : Px} (h : okP p) (R : List Nat) : decPE (encP p ++ R) = 0 ∧ decPX (encP p ++ R) = p ∧ decPN (encP p ++ R) = (encP p).length := by
  have hw := wid_le p.a.v
  have hn : p.n.toNat ≤ 128 := by have := h.2.2.1; omega
  have hf := f16 hn
  have h0 : by0 (encP p ++ R) = p.a.v.toNat := rfl
  have h1 : by1 (encP p ++ R) = p.n.toNat := rfl
  have hl : (encP p ++ R).length = 2 + fill8 p.n.toNat + R.length := by rw [List.length_append, encP_len h]
  have hd : ((encP p ++ R).drop 2).take (fill8 p.n.toNat) = p.a.b.l.take (fill8 p.n.toNat) := by
    have e : (encP p ++ R).drop 2 = p.a.b.l.take (fill8 p.n.toNat) ++ R := rfl
    rw [e, List.take_append_of_le_length (by simp [p.a.b.len]; omega), List.take_take, Nat.min_self]
  have hp : padF (encP p ++ R) 2 p.n.toNat = p.a.b := by unfold padF; rw [hd]; exact pad_take hn h.2.2.2
  have hE : decPE (encP p ++ R) = 0 := by
    unfold decPE bodyE
    rw [h0, h1, enc_v h, hp, (kept_iff _ _).2 h.2.2.2, if_neg (by omega), if_neg h.1.1, if_neg (by omega), if_neg (by have := h.2.2.1; omega), if_neg (by omega), if_pos rfl]
  refine ⟨hE, ?_, ?_⟩
  · unfold decPX
    rw [if_pos hE, h0, h1, hp, enc_v h, enc_n h]
  · unfold decPN
    rw [if_pos hE, h1, encP_len h]
theorem dec_short {p : Px} (h : okP p) (j : Nat) (hj : j < (encP p).length) : decPE ((encP p).take j) = 7 := by
  rw [encP_len h] at hj
  have hl : ((encP p).take j).length = j := by rw [List.length_take, encP_len h]; omega
  unfold decPE
  rw [hl]
  by_cases h1 : j < 1
  · rw [if_pos h1]
  · rw [if_neg h1]
    have h0 : by0 ((encP p).take j) = p.a.v.toNat := by
      match j, h1 with
      | j + 1, _ => rfl
    rw [h0, enc_v h, if_neg h.1.1]
    by_cases h2 : j < 2
    · rw [if_pos h2]
    · rw [if_neg h2]
      have h3 : by1 ((encP p).take j) = p.n.toNat := by
        match j, h2 with
        | j + 2, _ => rfl
        | 1, h2 => exact absurd (by omega) h2
      rw [h3, if_neg (by have := h.2.2.1; omega)]
      unfold bodyE
      rw [hl, if_pos hj]
theorem enc_dec {L : List Nat} (hB : Bys L) (h : decPE L = 0) : okP (decPX L) ∧ encP (decPX L) = L.take (decPN L) ∧ decPN L ≤ L.length := by
  have hX : decPX L = ⟨⟨(by0 L : Int), padF L 2 (by1 L)⟩, (by1 L : Int)⟩ := if_pos h
  have hN : decPN L = 2 + fill8 (by1 L) := if_pos h
  unfold decPE at h
  by_cases h1 : L.length < 1
  · rw [if_pos h1] at h; omega
  rw [if_neg h1] at h
  by_cases h2 : wid (by0 L : Int) = 0
  · rw [if_pos h2] at h; omega
  rw [if_neg h2] at h
  by_cases h3 : L.length < 2
  · rw [if_pos h3] at h; omega
  rw [if_neg h3] at h
  by_cases h4 : wid (by0 L : Int) < by1 L
  · rw [if_pos h4] at h; omega
  rw [if_neg h4] at h
  unfold bodyE at h
  by_cases h5 : L.length < 2 + fill8 (by1 L)
  · rw [if_pos h5] at h; omega
  rw [if_neg h5] at h
  by_cases h6 : keptB (padF L 2 (by1 L)) (by1 L) = padF L 2 (by1 L)
  rotate_left
  · rw [if_neg h6] at h; omega
  have hc := (kept_iff _ _).1 h6
  have hw := wid_le (by0 L : Int)
  have hf := f16 (show by1 L ≤ 128 by omega)
  have hML : ((L.drop 2).take (fill8 (by1 L))).length = fill8 (by1 L) := by rw [List.length_take, List.length_drop]; omega
  have hMB : Bys ((L.drop 2).take (fill8 (by1 L))) := fun m hm => hB m (List.mem_of_mem_drop (List.mem_of_mem_take hm))
  have hpb := pad_body hMB (by omega)
  rw [hML] at hpb
  rw [hX, hN]
  refine ⟨⟨⟨h2, clear_mono hc (show by1 L ≤ wid (by0 L : Int) by omega)⟩, by simp, by simp; omega, by simpa using hc⟩, ?_, by omega⟩
  unfold encP padF
  simp only [Int.toNat_natCast]
  rw [hpb]
  rcases L with _ | ⟨x, _ | ⟨y, L⟩⟩
  · simp at h1
  · simp at h3
  · rw [Nat.add_comm 2]
    rfl
end Go.Proofs.YtikdgbmdepplgaaGreatDoor
