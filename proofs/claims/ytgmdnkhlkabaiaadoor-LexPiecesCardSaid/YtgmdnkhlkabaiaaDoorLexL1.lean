/-
  What chapter 7's laws share: tokens in memory, the fact on Lex, long, between.
-/
import Derived.Test.YtgmdnkhlkabaiaaDoorLexW9
import Derived.Test.YtgmdnkhlkabaiaaDoorLexM3
namespace Go.Proofs.YtgmdnkhlkabaiaaDoor
open Go.RowKit Lx

/-- Tokens that stand in memory, as a slice. -/
def RowT (w : World) (v : Value) (ts : List Tok) : Prop :=
  (v = .slice none 0 0 ∧ ts = []) ∨ ∃ g cap, v = .slice (some ⟨g, 0, none⟩) ts.length cap ∧ ts.length ≤ cap ∧ cap ≤ maxLen ∧ g < w.heap.size ∧
    ∀ i t, ts[i]? = some t → w.cell? ⟨g, i * 3, none⟩ = some (.int .i64 t.kind) ∧ w.cell? ⟨g, i * 3 + 1, none⟩ = some (.string (mkT t.text)) ∧ w.cell? ⟨g, i * 3 + 2, none⟩ = some (.int .i64 t.at_)
theorem rowT_own {w : World} {base : Nat} {v : Value} {ts : List Tok} (h : w.ownsRow base 30 3 v ts.length (cellsT ts)) : RowT w v ts := by
  rcases h.2 with ⟨rfl, h0⟩ | ⟨g, cap, cur, rfl, _, hg, h1, h2, _⟩
  · exact Or.inl ⟨rfl, List.eq_nil_of_length_eq_zero h0⟩
  · exact Or.inr ⟨g, cap, rfl, h1, h2, (Array.getElem?_eq_some_iff.1 hg).1, fun i t hi => own_cells h i t hi⟩
theorem RowT.below {w w' : World} {n : Nat} {v : Value} {ts : List Tok} (h : RowT w v ts) (hb : Below n w w') (hn : w.heap.size ≤ n) : RowT w' v ts := by
  rcases h with h | ⟨g, cap, h1, h2, h3, h4, h5⟩
  · exact Or.inl h
  · refine Or.inr ⟨g, cap, h1, h2, h3, Nat.lt_of_lt_of_le h4 hb.size, fun i t hi => ?_⟩
    rw [hb.cell (p := ⟨g, i * 3, none⟩) (Nat.lt_of_lt_of_le h4 hn), hb.cell (p := ⟨g, i * 3 + 1, none⟩) (Nat.lt_of_lt_of_le h4 hn), hb.cell (p := ⟨g, i * 3 + 2, none⟩) (Nat.lt_of_lt_of_le h4 hn)]
    exact h5 i t hi

theorem lex_fact : lx [120, 32, 58, 61, 32, 49, 32, 47, 47, 32, 111, 110, 101, 10, 121] 0 false = ([⟨1, [120], 0⟩, ⟨4, [58, 61], 2⟩, ⟨3, [49], 5⟩, ⟨5, [10], 13⟩, ⟨1, [121], 14⟩, ⟨5, [], 15⟩], none) := by
  kernel_rfl

set_option maxRecDepth 100000 in
set_option maxHeartbeats 3200000 in
theorem cutUp_any (w : World) (hE : LexEnv w.heap.size w) : Calls Tryd.prog 6 #[] w fun e w' => e = .returned (.bool true) ∧ Below w.heap.size w w' := by
  have LX := Lib.hid (lex_any ⟨#[120, 32, 58, 61, 32, 49, 32, 47, 47, 32, 111, 110, 101, 10, 121]⟩ w hE)
  clear hE
  go_enter Tryd.func6, Tryd.ntmps6
  go_wp2_with fail
  refine LX.out.mono ?_
  rintro e w1 ⟨hsay, hb⟩
  unfold LexSays at hsay
  rw [if_neg (by decide), show (⟨#[120, 32, 58, 61, 32, 49, 32, 47, 47, 32, 111, 110, 101, 10, 121]⟩ : ByteArray).data.toList = [120, 32, 58, 61, 32, 49, 32, 47, 47, 32, 111, 110, 101, 10, 121] from rfl, lex_fact] at hsay
  obtain ⟨v, rfl, hown⟩ := hsay
  rcases rowT_own hown with ⟨_, h⟩ | ⟨g, cap, rfl, h1, h2, h3, h4⟩
  · cases h
  · clear hown
    obtain ⟨a1, a2, a3⟩ := h4 1 _ rfl
    obtain ⟨b1, b2, b3⟩ := h4 3 _ rfl
    obtain ⟨c1, c2, c3⟩ := h4 5 _ rfl
    clear h4
    have m1 : (mkT [58, 61]).toList = [58, 61] := by rw [Lib.toList_data]; rfl
    have m2 : (mkT [10]).toList = [10] := by rw [Lib.toList_data]; rfl
    simp only [Nat.reduceMul, Nat.reduceAdd] at a1 a2 a3 b1 b2 b3 c1 c2 c3
    go_wp2_with fail
    go_ret
    exact ⟨rfl, hb⟩

theorem long_any (s : ByteArray) (w : World) : Calls Tryd.prog 7 #[.string s] w fun e w' => e = .returned (.bool (decide (1500 < s.size))) ∧ w = w' := by
  go_enter Tryd.func7, Tryd.ntmps7
  go_wp2_with fail
  go_ret
  refine ⟨?_, rfl⟩
  have e : ((1500 : Int) < (s.size : Int)) ↔ 1500 < s.size := by omega
  show Ending.returned (Value.bool (decide ((1500 : Int) < (s.size : Int)))) = _
  rw [decide_eq_decide.2 e]

theorem stop_four {b : UInt8} (h : isStop b = true) : (b.toNat : Int) = 32 ∨ (b.toNat : Int) = 9 ∨ (b.toNat : Int) = 13 ∨ (b.toNat : Int) = 10 := by
  simp [isStop] at h; omega

set_option maxRecDepth 100000 in
set_option maxHeartbeats 3200000 in
theorem between_any (s : ByteArray) (w : World) (hs : s.size ≤ 4000) (hB : Btw s.data.toList) : Calls Tryd.prog 9 #[.string s] w fun e w' => e = .returned (.bool true) ∧ w = w' := by
  have HB := Lib.hid hB
  clear hB
  go_enter Tryd.func9, Tryd.ntmps9
  go_wp2_with fail
  go_loop [0, 3] (fun x _ => ∃ t : ByteArray, x = .string t ∧ t.size ≤ 4000 ∧ Btw t.data.toList) (fun x _ => match x with | .string t => t.size | _ => 0)
  case atStart => exact ⟨s, rfl, hs, HB.out⟩
  case round =>
    obtain ⟨t, rfl, ht, hb⟩ := hrel
    have hlen : t.data.toList.length = t.size := by simp
    have hz := rs_zero t
    have HP : ∀ r, [47, 47].isPrefixOf t.data.toList = r → Hid (∀ W, Calls Tryd.prog 14 #[.string t, .string ⟨#[47, 47]⟩] W fun e w' => e = .returned (.bool r) ∧ W = w') := fun r hr => Lib.hid fun W => by
      refine (Tryd.strings_HasPrefix t ⟨#[47, 47]⟩ _).mono ?_
      rintro e w' ⟨rfl, rfl⟩
      exact ⟨by rw [← hr]; rfl, rfl⟩
    have IB : ∀ n : Int, (if lineV t.data.toList = t.data.toList.length then -1 else (lineV t.data.toList : Int)) = n → Hid (∀ W, Calls Tryd.prog 15 #[.string t, .int .u8 10] W fun e w' => e = .returned (.int .i64 n) ∧ W = w') := fun n hn => Lib.hid fun W => by
      refine (Tryd.strings_IndexByte t 10 W).mono ?_
      rintro e w' ⟨rfl, rfl⟩
      exact ⟨by rw [← hn, ← index_line]; rfl, rfl⟩
    have hex : ∀ n, n ≤ t.size → (t.extract n t.size).data.toList = t.data.toList.drop n ∧ (t.extract n t.size).size = t.size - n := fun n hn => ⟨rs_extract_all t n, extract_size t n hn⟩
    have htl : t.toList = t.data.toList := Lib.toList_data t
    have h0 : ∀ b r, t.data.toList = b :: r → ∃ h : 0 < t.size, t[0]'h = b := fun b r e => by
      have hp : 0 < t.size := by rw [← hlen, e]; simp
      have := rs_cons t 0 hp
      rw [hz, e] at this
      exact ⟨hp, (List.cons.inj this).1.symm⟩
    generalize hl : t.data.toList = l at *
    cases hb with
    | nil =>
      clear HP IB h0 hex
      go_wp2_with fail
      go_ret
      exact ⟨rfl, rfl⟩
    | blank b r h1 h2 =>
      obtain ⟨hpos, hb0⟩ := h0 b r rfl
      have hp := HP false (by
        have : b ≠ 47 := fun e => by rw [e] at h1; cases h1
        simp [List.isPrefixOf, Ne.symm this])
      have h4 := stop_four h1
      rw [← hb0] at h4
      obtain ⟨x1, x2⟩ := hex 1 (by omega)
      have HX : Hid ((t.extract 1 t.size).size ≤ 4000 ∧ Btw (t.extract 1 t.size).data.toList ∧ (t.extract 1 t.size).size < t.size) := Lib.hid ⟨by omega, by rw [x1]; exact h2, by omega⟩
      have hne : t.toList.isEmpty = false := by rw [htl]; rfl
      have hposi : (0 : Int) < (t.size : Int) := by omega
      have h1i : (1 : Int) ≤ (t.size : Int) := by omega
      clear HP IB h0 hex x1 x2 hz hb0 hl h1 h2 hlen htl
      rcases h4 with h4 | h4 | h4 | h4
      all_goals
        go_wp2_with (go_at_call 14; refine (hp.out _).mono ?_; rintro e w2 ⟨rfl, rfl⟩)
        go_round
        case rel => exact ⟨_, rfl, HX.out.1, HX.out.2.1⟩
        case measure => exact HX.out.2.2
    | remEnd _ h1 h2 =>
      have hp := HP true h1
      have hi := IB (-1) (by rw [if_pos h2])
      have hne : t.toList.isEmpty = false := by rw [htl, List.isEmpty_eq_false_iff]; intro e; rw [e] at h1; cases h1
      clear HP IB h0 hex hz htl
      go_wp2_with (first | (go_at_call 14; refine (hp.out _).mono ?_; rintro e w2 ⟨rfl, rfl⟩) | (go_at_call 15; refine (hi.out _).mono ?_; rintro e w2 ⟨rfl, rfl⟩))
      go_ret
      exact ⟨rfl, rfl⟩
    | rem _ h1 h2 =>
      have hp := HP true h1
      have hne : t.toList.isEmpty = false := by rw [htl, List.isEmpty_eq_false_iff]; intro e; rw [e] at h1; cases h1
      by_cases h3 : lineV l = l.length
      · have hi := IB (-1) (by rw [if_pos h3])
        clear HP IB h0 hex hz htl
        go_wp2_with (first | (go_at_call 14; refine (hp.out _).mono ?_; rintro e w2 ⟨rfl, rfl⟩) | (go_at_call 15; refine (hi.out _).mono ?_; rintro e w2 ⟨rfl, rfl⟩))
        go_ret
        exact ⟨rfl, rfl⟩
      · have hi := IB (lineV l : Int) (by rw [if_neg h3])
        have hle := lineV_le l
        have h5 := lineV_two h1
        obtain ⟨x1, x2⟩ := hex (lineV l) (by omega)
        have HX : Hid ((t.extract (lineV l) t.size).size ≤ 4000 ∧ Btw (t.extract (lineV l) t.size).data.toList ∧ (t.extract (lineV l) t.size).size < t.size) := Lib.hid ⟨by omega, by rw [x1]; exact h2, by omega⟩
        have hn : lineV l ≤ t.size := by omega
        clear HP IB h0 hex hz htl x1 x2 h1 h2 h3 h5 hle
        generalize lineV l = n at *
        have hni : (n : Int) ≤ (t.size : Int) := by omega
        go_wp2_with (first | (go_at_call 14; refine (hp.out _).mono ?_; rintro e w2 ⟨rfl, rfl⟩) | (go_at_call 15; refine (hi.out _).mono ?_; rintro e w2 ⟨rfl, rfl⟩))
        go_round
        case rel => exact ⟨_, rfl, HX.out.1, HX.out.2.1⟩
        case measure => exact HX.out.2.2
end Go.Proofs.YtgmdnkhlkabaiaaDoor
