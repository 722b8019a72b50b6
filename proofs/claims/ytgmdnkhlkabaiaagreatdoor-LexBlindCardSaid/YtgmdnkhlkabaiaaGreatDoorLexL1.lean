/-
  What chapter 7's laws share: tokens in memory, the fact on Lex, long.
-/
import Derived.Test.YtgmdnkhlkabaiaaGreatDoorLexW9
import Derived.Test.YtgmdnkhlkabaiaaGreatDoorLexM3
namespace Go.Proofs.YtgmdnkhlkabaiaaGreatDoor
open Go.RowKit Lx

/-- Tokens that stand in memory, as a slice. -/
def RowT (w : World) (v : Value) (ts : List Tok) : Prop :=
  (v = .slice none 0 0 ∧ ts = []) ∨ ∃ g cap, v = .slice (some ⟨g, 0, none⟩) ts.length cap ∧ ts.length ≤ cap ∧ cap ≤ maxLen ∧ g < w.heap.size ∧
    ∀ i t, ts[i]? = some t → w.cell? ⟨g, i * 3, none⟩ = some (.int .i64 t.kind) ∧ w.cell? ⟨g, i * 3 + 1, none⟩ = some (.string (mkT t.text)) ∧ w.cell? ⟨g, i * 3 + 2, none⟩ = some (.int .i64 t.at_)
theorem rowT_own {w : World} {base : Nat} {v : Value} {ts : List Tok} (h : w.ownsRow base 35 3 v ts.length (cellsT ts)) : RowT w v ts := by
  rcases h.2 with ⟨rfl, h0⟩ | ⟨g, cap, cur, rfl, _, hg, h1, h2, _⟩
  · exact Or.inl ⟨rfl, List.eq_nil_of_length_eq_zero h0⟩
  · exact Or.inr ⟨g, cap, rfl, h1, h2, (Array.getElem?_eq_some_iff.1 hg).1, fun i t hi => own_cells h i t hi⟩
theorem RowT.below {w w' : World} {n : Nat} {v : Value} {ts : List Tok} (h : RowT w v ts) (hb : Below n w w') (hn : w.heap.size ≤ n) : RowT w' v ts := by
  rcases h with h | ⟨g, cap, h1, h2, h3, h4, h5⟩
  · exact Or.inl h
  · refine Or.inr ⟨g, cap, h1, h2, h3, Nat.lt_of_lt_of_le h4 hb.size, fun i t hi => ?_⟩
    rw [hb.cell (p := ⟨g, i * 3, none⟩) (Nat.lt_of_lt_of_le h4 hn), hb.cell (p := ⟨g, i * 3 + 1, none⟩) (Nat.lt_of_lt_of_le h4 hn), hb.cell (p := ⟨g, i * 3 + 2, none⟩) (Nat.lt_of_lt_of_le h4 hn)]
    exact h5 i t hi

theorem lex_fact : lx [120, 32, 58, 61, 32, 49, 32, 47, 47, 32, 111, 110, 101, 10, 121] 0 false = ([⟨1, [120], 0⟩, ⟨4, [58, 61], 2⟩, ⟨3, [49], 5⟩, ⟨5, [10], 13⟩, ⟨1, [121], 14⟩, ⟨5, [], 15⟩], none) := by
  kernel_rfl

set_option maxRecDepth 100000 in
set_option maxHeartbeats 3200000 in
theorem cutUp_any (w : World) (hE : LexEnv w.heap.size w) : Calls Tryz.prog 11 #[] w fun e w' => e = .returned (.bool true) ∧ Below w.heap.size w w' := by
  have LX := Lib.hid (lex_any ⟨#[120, 32, 58, 61, 32, 49, 32, 47, 47, 32, 111, 110, 101, 10, 121]⟩ w hE)
  clear hE
  go_enter Tryz.func11, Tryz.ntmps11
  go_wp2_with fail
  refine LX.out.mono ?_
  rintro e w1 ⟨hsay, hb⟩
  unfold LexSays at hsay
  rw [if_neg (by decide), show (⟨#[120, 32, 58, 61, 32, 49, 32, 47, 47, 32, 111, 110, 101, 10, 121]⟩ : ByteArray).data.toList = [120, 32, 58, 61, 32, 49, 32, 47, 47, 32, 111, 110, 101, 10, 121] from rfl, lex_fact] at hsay
  obtain ⟨v, rfl, hown⟩ := hsay
  rcases rowT_own hown with ⟨_, h⟩ | ⟨g, cap, rfl, h1, h2, h3, h4⟩
  · cases h
  · clear hown
    obtain ⟨a1, a2, a3⟩ := h4 1 _ rfl
    obtain ⟨b1, b2, b3⟩ := h4 3 _ rfl
    obtain ⟨c1, c2, c3⟩ := h4 5 _ rfl
    clear h4
    have m1 : (mkT [58, 61]).toList = [58, 61] := by rw [Lib.toList_data]; rfl
    have m2 : (mkT [10]).toList = [10] := by rw [Lib.toList_data]; rfl
    simp only [Nat.reduceMul, Nat.reduceAdd] at a1 a2 a3 b1 b2 b3 c1 c2 c3
    go_wp2_with fail
    go_ret
    exact ⟨rfl, hb⟩

theorem long_any (s : ByteArray) (w : World) : Calls Tryz.prog 12 #[.string s] w fun e w' => e = .returned (.bool (decide (1500 < s.size))) ∧ w = w' := by
  go_enter Tryz.func12, Tryz.ntmps12
  go_wp2_with fail
  go_ret
  refine ⟨?_, rfl⟩
  have e : ((1500 : Int) < (s.size : Int)) ↔ 1500 < s.size := by omega
  show Ending.returned (Value.bool (decide ((1500 : Int) < (s.size : Int)))) = _
  rw [decide_eq_decide.2 e]

end Go.Proofs.YtgmdnkhlkabaiaaGreatDoor
