/-
  The document's Decode: up to its lists. Nothing here is a statement of the document.
-/
import Derived.Test.YtgnpoehcmlmajaaRfH
import Derived.Test.YtgnpoehcmlmajaaArpH
import Derived.Test.YtgnpoehcmlmajaaRgF
namespace Go.Proofs.Ytgnpoehcmlmajaa
open Go.RowKit Go.Shelf
set_option linter.unusedVariables false
/-- A list runs out over good places, none of them twice, or comes to one that is not good, or again to one of them. -/
theorem list_or {ws : List Nat} {n : Nat} (G : Nat → Prop) (hG : ∀ x, G x → 17 ≤ x ∧ x < n) : ∀ (m : Nat) (acc : List Nat) (s : Nat), acc.length + m = n → acc.Nodup → (∀ x ∈ acc, G x) →
    (∃ L, Lst ws s L ∧ (∀ x ∈ L, G x) ∧ (acc ++ L).Nodup) ∨ (∃ L x, LstX ws s L x ∧ x ≠ 0 ∧ (∀ y ∈ L, G y) ∧ (acc ++ L).Nodup ∧ (¬ G x ∨ x ∈ acc ++ L))
  | m, acc, s, hm, hn, ha => by
    by_cases h0 : s = 0
    · exact .inl ⟨[], h0, by simp, by simpa using hn⟩
    · by_cases hg : G s
      · by_cases hs : s ∈ acc
        · exact .inr ⟨[], s, rfl, h0, by simp, by simpa using hn, .inr (by simpa using hs)⟩
        · have hn2 : (acc ++ [s]).Nodup := List.nodup_append.2 ⟨hn, by simp, fun a ha b hb => by
            obtain rfl : b = s := by simpa using hb
            exact fun e => hs (by rw [← e]; exact ha)⟩
          have ha2 : ∀ x ∈ acc ++ [s], G x := fun x hx => by
            rcases List.mem_append.1 hx with h9 | h9
            · exact ha x h9
            · obtain rfl : x = s := by simpa using h9
              exact hg
          cases m with
          | zero =>
            exfalso
            have := nodup_len n (acc ++ [s]) hn2 (fun x hx => (hG x (ha2 x hx)).2)
            simp at this
            omega
          | succ m =>
            rcases list_or G hG m (acc ++ [s]) (ws.getD s 0) (by simp; omega) hn2 ha2 with ⟨L, h1, h2, h3⟩ | ⟨L, x, h1, h2, h3, h4, h5⟩
            · exact .inl ⟨s :: L, ⟨rfl, (hG s hg).1, h1⟩, fun x hx => by
                rcases List.mem_cons.1 hx with rfl | h9
                · exact hg
                · exact h2 x h9, by simpa using h3⟩
            · exact .inr ⟨s :: L, x, ⟨rfl, (hG s hg).1, h1⟩, h2, fun y hy => by
                rcases List.mem_cons.1 hy with rfl | h9
                · exact hg
                · exact h3 y h9, by simpa using h4, h5.imp id (by intro h9; simpa using h9)⟩
      · exact .inr ⟨[], s, rfl, h0, by simp, by simpa using hn, .inl hg⟩
/-- What a list comes to that may not be in it. -/
def BadX (ws : List Nat) (bs : List Bool) (L : Nat → List Nat) (c x : Nat) : Prop := bs.getD x false = false ∨ (bs.getD x false = true ∧ ws.getD (x - 1) 0 ≠ hdN c false) ∨ x ∈ L c
def GoodL (ws : List Nat) (bs : List Bool) (c : Nat) (l : List Nat) : Prop := (∀ x ∈ l, 1 ≤ x ∧ x < ws.length ∧ bs.getD x false = true ∧ ws.getD (x - 1) 0 = hdN c false) ∧ l.Nodup
theorem lists_or {ws : List Nat} {bs : List Bool} (hb : ∀ x, bs.getD x false = true → 17 ≤ x ∧ x < ws.length) : ∀ k, k ≤ 6 → (∃ L : Nat → List Nat, ∀ c, c < k → Lst ws (ws.getD (9 + c) 0) (L c) ∧ GoodL ws bs c (L c)) ∨ (∃ (L : Nat → List Nat) (c0 x0 : Nat), c0 ≤ 5 ∧ FlX ws bs L c0 ∧ LstX ws (ws.getD (9 + c0) 0) (L c0) x0 ∧ x0 ≠ 0 ∧ BadX ws bs L c0 x0)
  | 0, _ => .inl ⟨fun _ => [], fun c hc => by omega⟩
  | k + 1, hk => by
    rcases lists_or hb k (by omega) with ⟨L, hL⟩ | h9
    · have hG : ∀ x, (bs.getD x false = true ∧ ws.getD (x - 1) 0 = hdN k false) → 17 ≤ x ∧ x < ws.length := fun x hx => hb x hx.1
      rcases list_or (ws := ws) (fun x => bs.getD x false = true ∧ ws.getD (x - 1) 0 = hdN k false) hG ws.length [] (ws.getD (9 + k) 0) (by simp) (by simp) (by simp) with ⟨l, h1, h2, h3⟩ | ⟨l, x, h1, h2, h3, h4, h5⟩
      · refine .inl ⟨upd L k l, fun c hc => ?_⟩
        unfold upd
        split
        · rename_i he
          subst he
          exact ⟨h1, fun x hx => ⟨by have := (hG x (h2 x hx)).1; omega, (hG x (h2 x hx)).2, (h2 x hx).1, (h2 x hx).2⟩, by simpa using h3⟩
        · exact hL c (by omega)
      · have hkk : upd L k l k = l := by unfold upd; rw [if_pos rfl]
        have hg : ∀ c, c ≤ k → GoodL ws bs c (upd L k l c) := fun c hc => by
          unfold upd
          split
          · rename_i he
            subst he
            exact ⟨fun x hx => ⟨by have := (hG x (h3 x hx)).1; omega, (hG x (h3 x hx)).2, (h3 x hx).1, (h3 x hx).2⟩, by simpa using h4⟩
          · exact (hL c (by omega)).2
        refine .inr ⟨upd L k l, k, x, by omega, ⟨fun c hc => ?_, fun c hc => (hg c hc).1, fun c hc => (hg c hc).2⟩, by rw [hkk]; exact h1, h2, ?_⟩
        · unfold upd
          rw [if_neg (by omega)]
          exact (hL c hc).1
        · unfold BadX
          rw [hkk]
          rcases h5 with h5 | h5
          · cases hbx : bs.getD x false with
            | false => exact .inl rfl
            | true => exact .inr (.inl ⟨rfl, fun e => h5 ⟨hbx, e⟩⟩)
          · exact .inr (.inr (by simpa using h5))
    · exact .inr h9
theorem first_or {α : Type} (P : α → Prop) : ∀ (l : List α), (∀ b ∈ l, P b) ∨ ∃ m, m < l.length ∧ (∀ k, k < m → ∀ b, l[k]? = some b → P b) ∧ ∀ b, l[m]? = some b → ¬ P b
  | [] => .inl (by simp)
  | a :: r => by
    by_cases h : P a
    · rcases first_or P r with h9 | ⟨m, h1, h2, h3⟩
      · exact .inl (fun b hb => by
          rcases List.mem_cons.1 hb with rfl | hb
          · exact h
          · exact h9 b hb)
      · refine .inr ⟨m + 1, by simp; omega, fun k hk b hb => ?_, fun b hb => h3 b (by simpa using hb)⟩
        cases k with
        | zero => obtain rfl : a = b := by simpa using hb
                  exact h
        | succ k => exact h2 k (by omega) b (by simpa using hb)
    · exact .inr ⟨0, by simp, fun k hk => by omega, fun b hb => by
        obtain rfl : a = b := by simpa using hb
        exact h⟩
theorem nought_or (ws : List Nat) : ∀ (n a : Nat), (∀ i, i < n → ws.getD (a + i) 0 = 0) ∨ ∃ m, m < n ∧ (∀ i, i < m → ws.getD (a + i) 0 = 0) ∧ ws.getD (a + m) 0 ≠ 0
  | 0, a => .inl (fun i hi => by omega)
  | n + 1, a => by
    rcases nought_or ws n a with h | ⟨m, h1, h2, h3⟩
    · by_cases h0 : ws.getD (a + n) 0 = 0
      · exact .inl (fun i hi => by
          by_cases he : i = n
          · rw [he]; exact h0
          · exact h i (by omega))
      · exact .inr ⟨n, by omega, h, h0⟩
    · exact .inr ⟨m, by omega, h2, h3⟩
section
variable {ws : List Nat} {B : List Bl} {L : Nat → List Nat}
theorem beg_of (hC : Chain ws 16 B) (he : ws.getD 15 0 ≤ ws.length) (i : Nat) : (begK B ws.length B.length).getD i false = true ↔ ∃ b ∈ B, b.x = i := by
  have hx : ∀ b ∈ B, b.x < ws.length := fun b hb => by
    obtain ⟨h1, h2, h3, h4⟩ := chain_mem hC (Nat.le_refl _) hb
    have := (pow5 h1).1
    omega
  rw [begK_get hx i _ (Nat.le_refl _), List.take_length]
theorem beg_lt (hC : Chain ws 16 B) (he : ws.getD 15 0 ≤ ws.length) (x : Nat) (h : (begK B ws.length B.length).getD x false = true) : 17 ≤ x ∧ x < ws.length := by
  obtain ⟨b, hb, rfl⟩ := (beg_of hC he x).1 h
  obtain ⟨h1, h2, h3, h4⟩ := chain_mem hC (Nat.le_refl _) hb
  have := (pow5 h1).1
  omega
theorem inv_of (hC : Chain ws 16 B) (he : ws.getD 15 0 ≤ ws.length) (hF : Fl ws (begK B ws.length B.length) L) (hfree : ∀ b ∈ B, b.t = false → b.x ∈ L b.c) : Inv ws (begK B ws.length B.length) B L := by
  refine ⟨hC, he, beg_of hC he, hF.lst, fun c hc x => ⟨fun hx => ?_, ?_⟩, hF.nodup⟩
  · obtain ⟨g1, g2, g3, g4⟩ := hF.mem c hc x hx
    obtain ⟨b, hb, rfl⟩ := (beg_of hC he x).1 g3
    obtain ⟨h1, h2, h3, h4⟩ := chain_mem hC (Nat.le_refl _) hb
    obtain ⟨e1, e2⟩ := hdN_both h1 hc (h3.symm.trans g4)
    exact ⟨b, hb, rfl, e1, e2⟩
  · rintro ⟨b, hb, rfl, rfl, ht⟩
    exact hfree b hb ht
theorem lead_or {bs : List Bool} (h : Inv ws bs B L) (x : Nat) : Lead ws bs (x : Int) ∨ ((x : Int) ≠ 0 ∧ No ws bs (x : Int)) := by
  by_cases h0 : x = 0
  · subst h0
    exact .inl (.inl ⟨rfl, h.no_none fun b hb => by have := (h.at hb).2.1; omega⟩)
  · by_cases hb : ∃ b ∈ B, b.x = x
    · obtain ⟨b, hb, rfl⟩ := hb
      cases ht : b.t with
      | true => exact .inl (.inr ⟨b.x, b.c, rfl, h.yes hb ht⟩)
      | false => exact .inr ⟨by omega, h.no_free hb ht⟩
    · exact .inr ⟨by omega, h.no_none fun b hb' e => hb ⟨b, hb', by omega⟩⟩
end
/-- Decode refuses these words. -/
def Refused (ws : List Nat) : Prop := ∀ (b len cap : Nat), len = 4 * ws.length → len ≤ cap → ∀ w, Lies w (some ⟨b, 0, none⟩) (wbytes ws) → Calls Try.prog 9 #[.slice (some ⟨b, 0, none⟩) len cap] w fun e w' => e = .returned (.tuple #[.pointer none, .int .i64 160]) ∧ Below w.heap.size w w'
theorem decode_or {ws : List Nat} (h : Sz ws) : (∃ B L, Dec ws B L) ∨ Refused ws := by
  by_cases h16 : 16 ≤ ws.getD 15 0
  case neg => exact .inr fun b len cap hl hc w hL => decode_no1 h (fun hA => inblocks_edge hA rfl (.inl (by omega))) b len cap hl hc w hL
  by_cases he : ws.getD 15 0 ≤ ws.length
  case neg => exact .inr fun b len cap hl hc w hL => decode_no1 h (fun hA => inblocks_edge hA rfl (.inr ⟨h16, by omega⟩)) b len cap hl hc w hL
  rcases chain_or (ws := ws) (ws.getD 15 0 - 16) 16 (Nat.le_refl _) h16 with ⟨B, hC⟩ | ⟨B, E, hT, hS⟩
  case inr => exact .inr fun b len cap hl hc w hL => decode_no1 h (fun hA => inblocks_stuck hA rfl hT hS he h16) b len cap hl hc w hL
  rcases nought_or ws (ws.length - ws.getD 15 0) (ws.getD 15 0) with hz | ⟨m, h1, h2, h3⟩
  case inr => exact .inr fun b len cap hl hc w hL => decode_no1 h (fun hA => inblocks_behind hA rfl hC he h16 (m := m) (by omega) (fun i hi1 hi2 => by
      have := h2 (i - ws.getD 15 0) (by omega)
      rwa [show ws.getD 15 0 + (i - ws.getD 15 0) = i by omega] at this) rfl h3) b len cap hl hc w hL
  have hz' : ∀ i, ws.getD 15 0 ≤ i → i < ws.length → ws.getD i 0 = 0 := fun i hi1 hi2 => by
    have := hz (i - ws.getD 15 0) (by omega)
    rwa [show ws.getD 15 0 + (i - ws.getD 15 0) = i by omega] at this
  rcases lists_or (ws := ws) (bs := begK B ws.length B.length) (beg_lt hC he) 6 (Nat.le_refl _) with ⟨L, hL6⟩ | ⟨L, c0, x0, hc0, hF, hX, hx0, hbad⟩
  case inr =>
    refine .inr fun b len cap hl hc w hL => decode_no2 h hC he h16 hz' (fun {w} {g p q} hA => ?_) b len cap hl hc w hL
    have hxs : x0 < 4294967296 := by
      have : ∀ (l : List Nat) (s : Nat), s < 4294967296 → LstX ws s l x0 → x0 < 4294967296 := by
        intro l
        induction l with
        | nil => intro s hs h9; rw [← show s = x0 from h9]; exact hs
        | cons y r ih => intro s hs h9; exact ih _ (word_sm h.sml y) h9.2.2
      exact this (L c0) _ (word_sm h.sml _) hX
    exact inlists_bad hA hF hc0 hX hx0 hxs hbad
  have hF : Fl ws (begK B ws.length B.length) L := ⟨fun c hc => (hL6 c (by omega)).1, fun c hc => (hL6 c (by omega)).2.1, fun c hc => (hL6 c (by omega)).2.2⟩
  rcases first_or (fun b : Bl => b.x ∈ L b.c ∧ ∀ i, b.x < i → i < b.x + 2 ^ b.c → ws.getD i 0 = 0) (ofT false B) with hgood | ⟨m, hm, hgood, hbad⟩
  case inr =>
    refine .inr fun b len cap hl hc w hL => decode_no2 h hC he h16 hz' (fun hA => inlists_piece hA hF hC he hm hgood fun b hb => ?_) b len cap hl hc w hL
    by_cases hx : b.x ∈ L b.c
    · refine .inr ⟨hx, ?_⟩
      rcases nought_or ws (2 ^ b.c - 1) (b.x + 1) with h9 | ⟨j, h1, h2, h3⟩
      · exfalso
        refine hbad b hb ⟨hx, fun i hi1 hi2 => ?_⟩
        have := h9 (i - (b.x + 1)) (by omega)
        rwa [show b.x + 1 + (i - (b.x + 1)) = i by omega] at this
      · exact ⟨j, by omega, h2, h3⟩
    · exact .inl hx
  have hfree : ∀ b ∈ B, b.t = false → b.x ∈ L b.c := fun b hb ht => (hgood b (List.mem_filter.2 ⟨hb, by simp [ht]⟩)).1
  have hnt : ∀ b ∈ B, b.t = false → ∀ i, b.x < i → i < b.x + 2 ^ b.c → ws.getD i 0 = 0 := fun b hb ht => (hgood b (List.mem_filter.2 ⟨hb, by simp [ht]⟩)).2
  have hI := inv_of hC he hF hfree
  rcases lead_or hI (ws.getD 5 0) with h4 | ⟨h0, h4⟩
  case inr => exact .inr fun b len cap hl hc w hL => decode_no3 h hC he h16 hz' hF hfree hnt h0 h4 b len cap hl hc w hL
  rcases lead_or hI (ws.getD 6 0) with h6 | ⟨h0, h6⟩
  case inr => exact .inr fun b len cap hl hc w hL => decode_no4 h hC he h16 hz' hF hfree hnt h4 h0 h6 b len cap hl hc w hL
  exact .inl ⟨B, L, h.lo, h.hi, h.sml, h.first, hC, he, h16, hz', hF, hfree, hnt, h4, h6⟩
end Go.Proofs.Ytgnpoehcmlmajaa
namespace Go.Proofs.Ytgnpoehcmlmajaa
open Go.RowKit Go.Shelf
set_option linter.unusedVariables false
/-- The words of bytes. -/
def wordsB (n : Nat) (l : List Nat) : List Nat := (List.range n).map (wdB l)
theorem wordsB_len (n : Nat) (l : List Nat) : (wordsB n l).length = n := by simp [wordsB]
theorem wordsB_get {n i : Nat} (l : List Nat) (hi : i < n) : (wordsB n l).getD i 0 = wdB l i := by simp [wordsB, hi]
theorem wordsB_sm {n : Nat} {l : List Nat} (h : Bys l) : ∀ x ∈ wordsB n l, x < 4294967296 := by
  intro x hx
  obtain ⟨i, _, rfl⟩ := List.mem_map.1 hx
  exact wdB_lt h i
theorem part4 {l : List Nat} (h : Bys l) {i : Nat} (hi : 4 * i + 4 ≤ l.length) : (l.drop (4 * i)).take 4 = highB (wdB l i) 4 := by
  have h1 := highB_valB ((l.drop (4 * i)).take 4) (bys_part h _ _)
  have h2 : ((l.drop (4 * i)).take 4).length = 4 := by simp; omega
  rw [h2] at h1
  exact h1.symm
theorem bytes_words {n : Nat} {l : List Nat} (h : Bys l) (hl : l.length = 4 * n) : l = wbytes (wordsB n l) := by
  have hwl : (wbytes (wordsB n l)).length = 4 * n := by rw [wbytes_len, wordsB_len]
  apply List.ext_getElem?
  intro i
  by_cases hi : i < 4 * n
  · have hk : i / 4 < n := by omega
    have e1 := wbytes_drop (wordsB n l) (i / 4) (by rw [wordsB_len]; exact hk)
    rw [wordsB_get l hk, ← part4 h (i := i / 4) (by omega)] at e1
    have e2 := congrArg (fun a => a[i % 4]?) e1
    simp only [List.getElem?_take, List.getElem?_drop, show i % 4 < 4 by omega, if_true] at e2
    rw [show 4 * (i / 4) + i % 4 = i by omega] at e2
    exact e2.symm
  · rw [List.getElem?_eq_none (by omega), List.getElem?_eq_none (by omega)]
theorem first4 {l : List Nat} (h : Bys l) (hl : 4 ≤ l.length) : l.take 4 = wbytes [wdB l 0] := by
  have := part4 h (i := 0) (by omega)
  simpa [wbytes] using this
set_option maxRecDepth 100000 in
set_option maxHeartbeats 1000000 in
theorem decode_short (a : Option Addr) (len cap : Nat) (hlen : len < 64) (w : World) : Calls Try.prog 9 #[.slice a len cap] w fun e w' => e = .returned (.tuple #[.pointer none, .int .i64 7]) ∧ w = w' := by
  have d1 : decide (((len : Nat) : Int) < 64) = true := decide_eq_true (by omega)
  have d2 : decide (len < 64) = true := decide_eq_true (by omega)
  have h1 : (len : Int) < 64 := by omega
  go_enter Try.func9, Try.ntmps9
  go_wp2_with fail
  go_ret2
  exact ⟨rfl, rfl⟩
/-- Which error a length asks for. -/
def errL (len y : Nat) : Int := if len < 4 * y then 7 else 160
set_option maxRecDepth 100000 in
set_option maxHeartbeats 2000000 in
theorem decode_size (b len cap : Nat) (l : List Nat) (hl : l.length = len) (h64 : 64 ≤ len) (hcap : len ≤ cap) (hle : len ≤ 70000) (hB : Bys l) (hbad : ¬ (len = 4 * wdB l 0 ∧ 64 ≤ wdB l 0 ∧ wdB l 0 ≤ 16384)) (w : World) (hL : Lies w (some ⟨b, 0, none⟩) l) :
    Calls Try.prog 9 #[.slice (some ⟨b, 0, none⟩) len cap] w fun e w' => e = .returned (.tuple #[.pointer none, .int .i64 (errL len (wdB l 0))]) ∧ Below w.heap.size w w' := by
  have hrd := read_any (some ⟨b, 0, none⟩) 4 cap (wbytes [wdB l 0]) w (by rw [wbytes_len]; rfl) (by omega) (by rw [← first4 hB (by omega)]; exact lies_pre hL 4)
  have hy := wdB_lt hB 0
  have d1 : decide (((len : Nat) : Int) < 64) = false := decide_eq_false (by omega)
  have d2 : decide (len < 64) = false := decide_eq_false (by omega)
  have h4c : 4 ≤ cap := by omega
  have h4i : (4 : Int) ≤ (cap : Int) := by omega
  clear hL hB hl
  generalize wdB l 0 = y at *
  go_enter Try.func9, Try.ntmps9
  go_wp2_with fail
  refine hrd.mono ?_
  rintro e w1 ⟨r, rfl, hr, hR, hb1⟩
  clear hrd
  have hu := u32_any hR (wbytes_bys _) (by rw [wbytes_len]; simp)
  rw [show (0 : Nat) = 4 * 0 from rfl, came_word (ws := [y]) (k := 0) (by simp), show ([y] : List Nat).getD 0 0 = y from rfl, pile_word hy] at hu
  have HR := Lib.hid (And.intro hr (And.intro hR hb1))
  have hmh := fun w' => mayhave_any ((y : Nat) : Int) w'
  have hw1 : IntKind.u64.wrap (4 * ((y : Nat) : Int)) = ((4 * y : Nat) : Int) := by
    have e : (4 * (y : Int)) % 18446744073709551616 = 4 * (y : Int) := Int.emod_eq_of_lt (by omega) (by omega)
    simp only [IntKind.wrap, show IntKind.u64.bits = 64 from rfl, show IntKind.u64.signed = false from rfl, Bool.false_and, Bool.false_eq_true, if_false]
    rw [show (2 ^ 64 : Int) = 18446744073709551616 from rfl, e]
    omega
  have hw2 : IntKind.u64.wrap ((y : Nat) : Int) = ((y : Nat) : Int) := by
    have e : (y : Int) % 18446744073709551616 = (y : Int) := Int.emod_eq_of_lt (by omega) (by omega)
    simp only [IntKind.wrap, show IntKind.u64.bits = 64 from rfl, show IntKind.u64.signed = false from rfl, Bool.false_and, Bool.false_eq_true, if_false]
    rw [show (2 ^ 64 : Int) = 18446744073709551616 from rfl, e]
  have hw3 : IntKind.u64.wrap ((len : Nat) : Int) = ((len : Nat) : Int) := wrap_u64s hle
  have hw5 : wrap64 ((y : Nat) : Int) = ((y : Nat) : Int) := wrap_u32s hy
  clear hr hR hb1
  by_cases hs : len < 4 * y
  · have d3 : decide (((len : Nat) : Int) < ((4 * y : Nat) : Int)) = true := decide_eq_true (by omega)
    have e9 : errL len y = 7 := if_pos hs
    have HE := Lib.hid e9
    clear e9 hmh
    generalize 4 * y = z at *
    go_wp2_with fail
    refine hu.mono ?_
    rintro e w2 ⟨rfl, hA⟩
    clear hu
    have hb2 : Below w.heap.size w w2 := hA.below HR.out.2.2 HR.out.2.2.size (Nat.le_of_lt HR.out.1)
    clear hA
    have H2 := Lib.hid hb2
    clear hb2
    go_wp2_with fail
    go_ret2
    exact ⟨by rw [HE.out]; rfl, H2.out⟩
  · have e9 : errL len y = 160 := if_neg hs
    have HE := Lib.hid e9
    clear e9
    have d3 : decide (((len : Nat) : Int) < ((4 * y : Nat) : Int)) = false := decide_eq_false (by omega)
    by_cases hg : 4 * y < len
    · have d4 : decide (((4 * y : Nat) : Int) < ((len : Nat) : Int)) = true := decide_eq_true (by omega)
      clear hmh
      generalize 4 * y = z at *
      go_wp2_with fail
      refine hu.mono ?_
      rintro e w2 ⟨rfl, hA⟩
      clear hu
      have hb2 : Below w.heap.size w w2 := hA.below HR.out.2.2 HR.out.2.2.size (Nat.le_of_lt HR.out.1)
      clear hA
      have H2 := Lib.hid hb2
      clear hb2
      go_wp2_with fail
      go_ret2
      exact ⟨by rw [HE.out]; rfl, H2.out⟩
    · have d4 : decide (((4 * y : Nat) : Int) < ((len : Nat) : Int)) = false := decide_eq_false (by omega)
      have hmv : (decide ((64 : Int) ≤ (y : Int)) && decide ((y : Int) ≤ 16384)) = false := by
        by_cases h1 : 64 ≤ y
        · have : ¬ y ≤ 16384 := fun h2 => hbad ⟨by omega, h1, h2⟩
          simp; omega
        · simp; omega
      rw [hmv] at hmh
      clear hmv hbad
      generalize 4 * y = z at *
      go_wp2_with fail
      refine hu.mono ?_
      rintro e w2 ⟨rfl, hA⟩
      clear hu
      have hb2 : Below w.heap.size w w2 := hA.below HR.out.2.2 HR.out.2.2.size (Nat.le_of_lt HR.out.1)
      clear hA
      have H2 := Lib.hid hb2
      clear hb2
      go_wp2_with fail
      refine (hmh w2).mono ?_
      rintro e w3 ⟨rfl, rfl⟩
      clear hmh
      go_wp2_with fail
      go_ret2
      exact ⟨by rw [HE.out]; rfl, H2.out⟩
end Go.Proofs.Ytgnpoehcmlmajaa
namespace Go.Proofs.Ytgnpoehcmlmajaa
open Go.RowKit Go.Shelf
set_option linter.unusedVariables false
section
attribute [local go_sem ↓] load_ra_rule store_ra_rule load_rb_rule store_rb_rule build_rbs_rule
/-- The document's Decode refuses. -/
def NoR (w w' : World) (e : Ending) (err : Int) : Prop := e = .returned (.tuple #[.agg zeroRa, .int .i64 err]) ∧ Below w.heap.size w w'
theorem zeroRa_one : zeroRa.all (·.oneCell') = true := by simp [zeroRa, Value.oneCell']
theorem nor_end {w W : World} {err : Int} {tmps : Array Value} {g : Nat} (hp : tmps.getD 2 undef = .pointer (some ⟨g, 0, none⟩)) (hb : Blk W g 36 zeroRa) (he : tmps.getD 3 undef = .int .i64 err) (hB : Below w.heap.size w W) :
    bodyPost Try.prog Try.f10 (fun e w' => NoR w w' e err) .ret { tmps := tmps, defers := [] } W := by
  refine bodyPost_ret (results_ra2 rfl tmps W g zeroRa hp hb rfl) rfl ?_
  rw [he]
  exact ⟨rfl, hB⟩
set_option maxRecDepth 100000 in
set_option maxHeartbeats 2000000 in
theorem rdec_short (a : Option Addr) (len cap : Nat) (hlen : len < 64) (w : World) :
    Calls Try.prog 10 #[.slice a len cap] w fun e w' => NoR w w' e 7 := by
  have d1 : decide (((len : Nat) : Int) < 64) = true := decide_eq_true (by omega)
  have h1 : (len : Int) < 64 := by omega
  obtain ⟨W1, hW1⟩ : ∃ W1, w.alloc (.cells zeroRa 36) = W1 := ⟨_, rfl⟩
  have hb1 : Below w.heap.size w W1 := by rw [← hW1]; exact (Below.refl _ _).alloc (Nat.le_refl _) _
  have z1 : Blk W1 w.heap.size 36 zeroRa := by rw [← hW1]; exact Blk.new _ _ _
  have hst := sra z1 (V' := zeroRa) rfl rfl zeroRa_one
  have HB := Lib.hid (And.intro hb1 (And.intro (below_setRow hb1 (Nat.le_refl _) zeroRa) (z1.row zeroRa)))
  clear hb1 z1
  unfold zeroRa at hW1 hst
  go_enter Try.func10, Try.ntmps10
  go_wp2_with fail
  exact nor_end rfl HB.out.2.2 rfl HB.out.2.1
set_option maxRecDepth 100000 in
set_option maxHeartbeats 2000000 in
theorem rdec_short2 (b len cap : Nat) (l : List Nat) (hl : l.length = len) (h64 : 64 ≤ len) (hcap : len ≤ cap) (hle : len ≤ 65536) (hB : Bys l) (hbad : len < 4 * wdB l 0) (w : World) (hL : Lies w (some ⟨b, 0, none⟩) l) :
    Calls Try.prog 10 #[.slice (some ⟨b, 0, none⟩) len cap] w fun e w' => NoR w w' e 7 := by
  have hy := wdB_lt hB 0
  have d1 : decide (((len : Nat) : Int) < 64) = false := decide_eq_false (by omega)
  have h1 : ¬ (len : Int) < 64 := by omega
  obtain ⟨W1, hW1⟩ : ∃ W1, w.alloc (.cells zeroRa 36) = W1 := ⟨_, rfl⟩
  have hb1 : Below w.heap.size w W1 := by rw [← hW1]; exact (Below.refl _ _).alloc (Nat.le_refl _) _
  have z1 : Blk W1 w.heap.size 36 zeroRa := by rw [← hW1]; exact Blk.new _ _ _
  have hst := sra z1 (V' := zeroRa) rfl rfl zeroRa_one
  have HB := Lib.hid (And.intro hb1 (And.intro (below_setRow hb1 (Nat.le_refl _) zeroRa) (z1.row zeroRa)))
  clear hb1 z1
  unfold zeroRa at hW1 hst
  have hw := rword_any b 0 len cap l W1 hl hcap (by omega) hB (hL.kept HB.out.1) 0 (by omega)
  clear hL hB hl
  generalize wdB l 0 = y at *
  have hi : (len : Int) < 4 * (y : Int) := by omega
  have hi2 : ((0 : Nat) : Int) = 0 := rfl
  rw [hi2] at hw
  go_enter Try.func10, Try.ntmps10
  go_wp2_with fail
  refine hw.mono ?_
  rintro e _ ⟨rfl, rfl⟩
  clear hw
  go_wp2_with fail
  exact nor_end rfl HB.out.2.2 rfl HB.out.2.1
end
end Go.Proofs.Ytgnpoehcmlmajaa
namespace Go.Proofs.Ytgnpoehcmlmajaa
open Go.RowKit Go.Shelf
set_option linter.unusedVariables false
section
attribute [local go_sem ↓] load_ra_rule store_ra_rule load_rb_rule store_rb_rule build_rbs_rule
set_option maxRecDepth 100000 in
set_option maxHeartbeats 2000000 in
theorem rdec_size (b len cap : Nat) (l : List Nat) (hl : l.length = len) (h64 : 64 ≤ len) (hcap : len ≤ cap) (hle : len ≤ 65536) (hB : Bys l) (hns : ¬ len < 4 * wdB l 0) (hbad : ¬ (64 ≤ wdB l 0 ∧ len = 4 * wdB l 0 ∧ 16 ≤ wdB l 15 ∧ wdB l 15 ≤ wdB l 0)) (w : World) (hL : Lies w (some ⟨b, 0, none⟩) l) :
    Calls Try.prog 10 #[.slice (some ⟨b, 0, none⟩) len cap] w fun e w' => NoR w w' e 160 := by
  have hy := wdB_lt hB 0
  have hy2 := wdB_lt hB 15
  have d1 : decide (((len : Nat) : Int) < 64) = false := decide_eq_false (by omega)
  have h1 : ¬ (len : Int) < 64 := by omega
  obtain ⟨W1, hW1⟩ : ∃ W1, w.alloc (.cells zeroRa 36) = W1 := ⟨_, rfl⟩
  have hb1 : Below w.heap.size w W1 := by rw [← hW1]; exact (Below.refl _ _).alloc (Nat.le_refl _) _
  have z1 : Blk W1 w.heap.size 36 zeroRa := by rw [← hW1]; exact Blk.new _ _ _
  have hst := sra z1 (V' := zeroRa) rfl rfl zeroRa_one
  have HB := Lib.hid (And.intro hb1 (And.intro (below_setRow hb1 (Nat.le_refl _) zeroRa) (z1.row zeroRa)))
  have hw := rword_any b 0 len cap l W1 hl hcap (by omega) hB (hL.kept hb1) 0 (by omega)
  have hv := rword_any b 0 len cap l W1 hl hcap (by omega) hB (hL.kept hb1) 15 (by omega)
  clear hb1 z1
  unfold zeroRa at hW1 hst
  clear hL hB hl
  generalize wdB l 0 = y at *
  generalize wdB l 15 = ed at *
  have hi : ¬ (len : Int) < 4 * (y : Int) := by omega
  have hi2 : ((0 : Nat) : Int) = 0 := rfl
  have hi3 : ((15 : Nat) : Int) = 15 := rfl
  rw [hi2] at hw
  rw [hi3] at hv
  go_enter Try.func10, Try.ntmps10
  go_wp2_with fail
  refine hw.mono ?_
  rintro e _ ⟨rfl, rfl⟩
  go_wp2_with fail
  refine hw.mono ?_
  rintro e _ ⟨rfl, rfl⟩
  go_wp2_with fail
  refine hv.mono ?_
  rintro e _ ⟨rfl, rfl⟩
  clear hw hv
  have hy3 : (y : Int) ≤ 16384 := by omega
  by_cases c1 : y < 64
  · have c1i : (y : Int) < 64 := by omega
    go_wp2_with fail
    exact nor_end rfl HB.out.2.2 rfl HB.out.2.1
  have c1i : ¬ (y : Int) < 64 := by omega
  by_cases c3n : ¬ len = 4 * y
  · have c3i : ¬ (len : Int) = 4 * (y : Int) := by omega
    go_wp2_with fail
    exact nor_end rfl HB.out.2.2 rfl HB.out.2.1
  have c3 : len = 4 * y := Classical.not_not.1 c3n
  have c3i : (len : Int) = 4 * (y : Int) := by omega
  by_cases c4 : ed < 16
  · have c4i : (ed : Int) < 16 := by omega
    go_wp2_with fail
    exact nor_end rfl HB.out.2.2 rfl HB.out.2.1
  have c4i : ¬ (ed : Int) < 16 := by omega
  have c5i : (y : Int) < (ed : Int) := by
    have : ¬ ed ≤ y := fun h => hbad ⟨by omega, c3, by omega, h⟩
    omega
  go_wp2_with fail
  exact nor_end rfl HB.out.2.2 rfl HB.out.2.1
end
end Go.Proofs.Ytgnpoehcmlmajaa
namespace Go.Proofs.Ytgnpoehcmlmajaa
open Go.RowKit Go.Shelf
set_option linter.unusedVariables false
section
attribute [local go_sem ↓] load_ra_rule store_ra_rule load_rb_rule store_rb_rule build_rbs_rule
/-- Bytes that are words. -/
structure Byt (l ws : List Nat) (len : Nat) : Prop where
  bys : Bys l
  ln : l.length = len
  four : len = 4 * ws.length
  words : ∀ i, i < ws.length → wdB l i = ws.getD i 0
theorem Byt.word {l ws : List Nat} {b len cap : Nat} {w : World} (h : Byt l ws len) (hs : Sz ws) (hcap : len ≤ cap) (hL : Lies w (some ⟨b, 0, none⟩) l) {i : Nat} (hi : i < ws.length) :
    Calls Try.prog 46 #[.slice (some ⟨b, 0, none⟩) len cap, .int .i64 (i : Int)] w fun e w' => e = .returned (.int .u32 ((ws.getD i 0 : Nat) : Int)) ∧ w = w' := by
  have h1 := hs.hi
  have h2 := h.four
  have := rword_any b 0 len cap l w h.ln hcap (by omega) h.bys hL i (by omega)
  rwa [h.words i hi] at this
theorem Byt.two {l ws : List Nat} {b len cap : Nat} {w : World} (h : Byt l ws len) (hs : Sz ws) (hcap : len ≤ cap) (hL : Lies w (some ⟨b, 0, none⟩) l) {i : Nat} (hi : i + 1 < ws.length) :
    Calls Try.prog 48 #[.slice (some ⟨b, 0, none⟩) len cap, .int .i64 (i : Int)] w fun e w' => e = .returned (.int .u64 ((twoN ws i : Nat) : Int)) ∧ w = w' := by
  have h1 := hs.hi
  have h2 := h.four
  have := rtwo_any b 0 len cap l w h.ln hcap (by omega) h.bys hL i (by omega)
  rwa [h.words i (by omega), h.words (i + 1) hi] at this
set_option maxRecDepth 100000 in
set_option maxHeartbeats 2000000 in
theorem rdec_stuck {l ws : List Nat} {b len cap : Nat} (h : Byt l ws len) (hs : Sz ws) (hcap : len ≤ cap) (h16 : 16 ≤ ws.getD 15 0) (he : ws.getD 15 0 ≤ ws.length) {B : List Bl} {E : Nat} (hT : Tile ws 16 B E) (hst : Stuck ws E) (w : World) (hL : Lies w (some ⟨b, 0, none⟩) l) :
    Calls Try.prog 10 #[.slice (some ⟨b, 0, none⟩) len cap] w fun e w' => NoR w w' e 160 := by
  have h64 := hs.lo
  have hhi := hs.hi
  have h4 := h.four
  have d1 : decide (((len : Nat) : Int) < 64) = false := decide_eq_false (by omega)
  have h1 : ¬ (len : Int) < 64 := by omega
  obtain ⟨W1, hW1⟩ : ∃ W1, w.alloc (.cells zeroRa 36) = W1 := ⟨_, rfl⟩
  have hb1 : Below w.heap.size w W1 := by rw [← hW1]; exact (Below.refl _ _).alloc (Nat.le_refl _) _
  have z1 : Blk W1 w.heap.size 36 zeroRa := by rw [← hW1]; exact Blk.new _ _ _
  have hw := h.word hs hcap (hL.kept hb1) (i := 0) (by omega)
  have hv := h.word hs hcap (hL.kept hb1) (i := 15) (by omega)
  have hbk := rblocks_any b len cap ws.length l ws W1 h.ln rfl h.four hcap hs.hi h.bys h.words (hL.kept hb1) hT (.inr hst) he h16
  have hne : ¬ E = ws.getD 15 0 := by have := hst.1; omega
  rw [hs.first] at hw
  have hno : ∀ (w' : World) (e : Ending), BlA ws E B W1 w' e → e = .returned (.tuple #[.slice none 0 0, .bool false]) := fun w' e h => by unfold BlA at h; rwa [if_neg hne] at h
  have HB := Lib.hid (And.intro hb1 (And.intro z1 hno))
  have HK := Lib.hid hbk
  clear hb1 z1 hL hT hst hbk hne hno
  unfold zeroRa at hW1
  have hy2 := word_sm hs.sml 15
  clear hs h
  generalize ws.getD 15 0 = ed at *
  generalize ws.length = y at *
  have HI := Lib.hid h4
  have hle : len ≤ 65536 := by omega
  have hl64 : 64 ≤ len := by omega
  have hi9 : ¬ (len : Int) < 4 * (y : Int) := by omega
  clear h4
  have hi2 : ((0 : Nat) : Int) = 0 := rfl
  have hi3 : ((15 : Nat) : Int) = 15 := rfl
  rw [hi2] at hw
  rw [hi3] at hv
  have c2 : ¬ (16384 : Int) < (y : Int) := by omega
  go_enter Try.func10, Try.ntmps10
  go_wp2_with fail
  refine hw.mono ?_
  rintro e _ ⟨rfl, rfl⟩
  go_wp2_with fail
  refine hw.mono ?_
  rintro e _ ⟨rfl, rfl⟩
  go_wp2_with fail
  refine hv.mono ?_
  rintro e _ ⟨rfl, rfl⟩
  clear hw hv
  have hi8 : (len : Int) = 4 * (y : Int) := by have := HI.out; omega
  have e1 : ¬ (y : Int) < 64 := by omega
  have e3 : ¬ (ed : Int) < 16 := by omega
  have e4 : ¬ (y : Int) < (ed : Int) := by omega
  go_wp2_with fail
  refine HK.out.mono ?_
  rintro e W2 ⟨hA, hb2⟩
  have hA := HB.out.2.2 _ _ hA
  subst hA
  have z2 := HB.out.2.1.kept (Kept.of_below [] hb2) (by simp)
  have hst := sra z2 (V' := zeroRa) rfl rfl zeroRa_one
  have H2 := Lib.hid (And.intro (below_setRow (bel_later HB.out.1 hb2) (Nat.le_refl _) zeroRa) (z2.row zeroRa))
  clear z2 hb2
  unfold zeroRa at hst
  go_wp2_with fail
  exact nor_end rfl H2.out.2 rfl H2.out.1
end
end Go.Proofs.Ytgnpoehcmlmajaa
