/-
  The walks of the reference's sum, first part: a text's bits.
-/
import Derived.Test.YtdjhbepocleehaaDoorSumW1
namespace Go.Proofs.YtdjhbepocleehaaDoor
open Go.RowKit

/-- A byte's bits, the least first; a text's. -/
def bits8 (b k : Nat) : List Bool := (List.range k).map fun i => b.testBit i
def bitsB (l : List Nat) : List Bool := l.flatMap fun b => bits8 b 8
theorem bits8_succ (b k : Nat) : bits8 b (k + 1) = bits8 b k ++ [b.testBit k] := by simp [bits8, List.range_succ]
theorem bits8_length (b k : Nat) : (bits8 b k).length = k := by simp [bits8]
theorem bitsB_length (l : List Nat) : (bitsB l).length = 8 * l.length := by
  induction l with
  | nil => rfl
  | cons b l ih => simp only [bitsB, List.flatMap_cons, List.length_append, bits8_length, List.length_cons] at ih ⊢; omega
theorem bitsB_snoc (l : List Nat) (b : Nat) : bitsB (l ++ [b]) = bitsB l ++ bits8 b 8 := by simp [bitsB]

theorem info_bool : (Tryd.prog.info? 4).map (fun i => (i.zero, i.size, i.bytes)) = some (some (.bool false), 1, 1) := by kernel_rfl
theorem u8_bit (b k : Nat) (hb : b < 256) : (bits .and .u8 ((b : Int) / 2 ^ k) 1 == 1) = b.testBit k := by
  have e : (b : Int) / 2 ^ k = ((b / 2 ^ k : Nat) : Int) := by norm_cast
  have hlt : b / 2 ^ k < 256 := Nat.lt_of_le_of_lt (Nat.div_le_self _ _) hb
  have := u8_and_nat (b / 2 ^ k) 1 hlt (by omega)
  rw [nat_mask1] at this
  rw [e, show (1 : Int) = ((1 : Nat) : Int) from rfl, this, Nat.testBit_eq_decide_div_mod_eq]
  rcases Nat.mod_two_eq_zero_or_one (b / 2 ^ k) with h | h <;> rw [h] <;> rfl

theorem ownsRow_ge {w : World} {base : Nat} {e : TypeId} {size : Nat} {v : Value} {n : Nat} {xs : List Value} (h : w.ownsRow base e size v n xs) : ∀ k, v.ownBlock = some k → base ≤ k := by
  intro k hk
  rcases h.2 with ⟨rfl, _⟩ | ⟨g, cap, cur, rfl, hg, _⟩
  · cases hk
  · cases hk; exact hg

def BitsEnd (s : ByteArray) (w : World) (e : Ending) (w' : World) : Prop :=
  ∃ v, e = .returned v ∧ w'.ownsRow w.heap.size 4 1 v (8 * s.size) ((bitsB (bs s)).map Value.bool) ∧ Below w.heap.size w w'

set_option maxRecDepth 100000 in
set_option maxHeartbeats 800000 in
theorem bitsOf_any (s : ByteArray) (w : World) (hs : s.size ≤ 1000) :
    Calls Tryd.prog 53 #[.string s] w (BitsEnd s w) := by
  obtain ⟨i0, hi, hz0, hz1, hz2⟩ := info_parts info_bool
  go_enter Tryd.func53, Tryd.ntmps53
  go_wp2_with fail
  go_loopw [3, 4] (fun v i wr => ∃ k : Nat, k ≤ s.size ∧ i = .int .i64 k ∧ wr.ownsRow w.heap.size 4 1 v (8 * k) ((bitsB ((bs s).take k)).map Value.bool) ∧ Below w.heap.size w wr) (fun _ i _ => s.size - (intOf i).toNat)
  case atStart => exact ⟨0, Nat.zero_le _, rfl, World.ownsRow_nil _ _ _ _, Below.refl _ _⟩
  case round =>
    obtain ⟨k, hk, rfl, hown, hb⟩ := hrel
    by_cases hlt : k < s.size
    · have hb8 : s[k].toNat < 256 := s[k].toNat_lt
      have HT := Lib.hid (bs_take_succ s k hlt)
      go_wp2_with fail
      obtain ⟨wo, rfl⟩ : ∃ wo : World, wo = wr := ⟨_, rfl⟩
      go_loopw [3, 5] (fun v j wq => ∃ m : Nat, m ≤ 8 ∧ j = .int .i64 m ∧ wq.ownsRow w.heap.size 4 1 v (8 * k + m) ((bitsB ((bs s).take k) ++ bits8 s[k].toNat m).map Value.bool) ∧ Below w.heap.size w wq) (fun _ j _ => 8 - (intOf j).toNat)
      case atStart => exact ⟨0, by omega, rfl, by simpa [bits8] using hown, hb⟩
      case round =>
        obtain ⟨m, hm, rfl, hown2, hb2⟩ := hrel
        clear hown hb
        by_cases hm8 : m < 8
        · have ht := u8_bit s[k].toNat m hb8
          have HS := Lib.hid (bits8_succ s[k].toNat m)
          generalize s[k].toNat.testBit m = x at *
          have HB8 := Lib.hid hb8; clear hb8
          go_wp2_with (at_builtin; refine wpList_append_own _ rfl _ _ 95 rfl w.heap.size 4 i0 (.bool false) 1 1 Tryd.underlying95 hi hz0 hz1 hz2 rfl (by decide) _ _ _ rfl (hown2.alloc _) ⟨_, 0, none⟩ 1 1 [.bool x] rfl rfl ?c1 ?c2 ?c3 ?c4 ?c5 ?_)
          case c1 => exact cell_one_new _ _ _
          case c2 => intro u hu; rw [List.mem_singleton.1 hu]; rfl
          case c3 => unfold maxLen; omega
          case c4 => omega
          case c5 => have := hb2.size; simp; omega
          intro v' w1 hown' hgrow _
          have hb3 : Below w.heap.size w w1 := (hb2.alloc hb2.size _).grown hgrow (by have := hb2.size; simp; omega) (ownsRow_ge hown2)
          rw [← List.map_singleton, ← List.map_append, ← HS.out, ← List.map_append] at hown'
          have HO := Lib.hid hown'
          clear hown' hgrow hb2 hown2
          go_wp2_with fail
          go_roundw
          case rel => exact ⟨m + 1, by omega, by go_num, HO.out, hb3⟩
          case measure => simp [intOf]; omega
        · have e : m = 8 := by omega
          subst e
          rw [← bitsB_snoc, ← HT.out, show 8 * k + 8 = 8 * (k + 1) by omega] at hown2
          have HO := Lib.hid hown2
          clear hown2
          go_wp2_with fail
          go_roundw
          case rel => exact ⟨k + 1, by omega, by go_num, HO.out, hb2⟩
          case measure => simp [intOf]; omega
    · obtain rfl : k = s.size := by omega
      rw [List.take_of_length_le (by rw [bs_length]; omega)] at hown
      have HO := Lib.hid hown
      clear hown
      go_wp2_with fail
      go_ret
      exact ⟨_, rfl, HO.out, hb⟩
end Go.Proofs.YtdjhbepocleehaaDoor
