/-
  The walks of package sum: pushZero, More, Sum by their contracts (wherever the table 'leaves' stands as it is laid).
-/
import Derived.Test.YtjdihgmngiplkaaDoorRows
import Derived.Test.YtjdihgmngiplkaaDoorText
import Derived.WalkKit
import Derived.WalkSpells
import Derived.WalkLawsBesides
import Derived.Lib.Hide
namespace Go.Proofs.YtjdihgmngiplkaaDoor
open Go.RowKit

def Leaves (w : World) : Prop := ∀ n : Nat, n < 16 → w.cell? ⟨8, n, none⟩ = some (.int .u32 (Crc.leaf n : Nat))

theorem and15 (r : Nat) (h : r < 2 ^ 32) : bits .and .u32 (r : Int) 15 = ((r % 16 : Nat) : Int) := by
  have := u32_and_nat r 15 (by omega) (by omega)
  rw [nat_mask4] at this
  exact this
theorem xor32 (a b : Nat) (ha : a < 2 ^ 32) (hb : b < 2 ^ 32) : bits .xor .u32 (a : Int) (b : Int) = ((a ^^^ b : Nat) : Int) := u32_xor_nat a b (by omega) (by omega)

set_option maxHeartbeats 400000 in
theorem pushZero_any (r : Nat) (w : World) (hr : r < 2 ^ 32) (hL : Leaves w) :
    Calls Tryd.prog 159 #[.int .u32 r] w fun e w' => e = .returned (.int .u32 (Crc.steps 8 r : Nat)) ∧ w = w' := by
  obtain ⟨q, hq⟩ : ∃ q, q = Crc.steps 4 r := ⟨_, rfl⟩
  have hqlt : q < 2 ^ 32 := by rw [hq]; exact Crc.steps_lt 4 r hr
  obtain ⟨z, hz⟩ : ∃ z, z = Crc.steps 4 q := ⟨_, rfl⟩
  have c1 := hL (r % 16) (by omega)
  have c2 := hL (q % 16) (by omega)
  have n1 := Crc.nibble r
  have n2 := Crc.nibble q
  have l1 := Crc.leaf_lt (r % 16) (by omega)
  have l2 := Crc.leaf_lt (q % 16) (by omega)
  rw [← hq] at n1
  rw [← hz] at n2
  generalize Crc.leaf (r % 16) = L1 at *
  generalize Crc.leaf (q % 16) = L2 at *
  have h1 := and15 r hr
  have h2 := and15 q hqlt
  have x1 : bits .xor .u32 (L1 : Int) ((r : Int) / 16) = (q : Int) := by rw [show (r : Int) / 16 = ((r / 16 : Nat) : Int) from rfl, xor32 _ _ l1 (by omega), n1]
  have x2 : bits .xor .u32 (L2 : Int) ((q : Int) / 16) = (z : Int) := by rw [show (q : Int) / 16 = ((q / 16 : Nat) : Int) from rfl, xor32 _ _ l2 (by omega), n2]
  have HZ : Hid (z = Crc.steps 8 r) := by rw [hz, hq]; exact Crc.nibbles r
  clear n1 n2 hq hz hL
  go_enter Tryd.func159, Tryd.ntmps159
  go_wp2_with fail
  go_ret
  exact ⟨by rw [HZ.out]; rfl, rfl⟩

theorem not32 (a : Nat) (h : a < 2 ^ 32) : bits .xor .u32 IntKind.u32.max (a : Int) = ((a ^^^ Crc.F : Nat) : Int) := by
  have := xor32 Crc.F a (by decide) h
  rw [Nat.xor_comm] at this
  exact this
theorem ret_u32 {a b : Nat} (h : a = b) : Ending.returned (.int .u32 (a : Int)) = .returned (.int .u32 (b : Int)) := by rw [h]

set_option maxHeartbeats 400000 in
theorem more_any (c : Nat) (s : ByteArray) (w : World) (hc : c < 2 ^ 32) (hs : s.size ≤ maxLen) (hL : Leaves w) :
    Calls Tryd.prog 140 #[.int .u32 c, .string s] w fun e w' => e = .returned (.int .u32 (Crc.more c (bs s) : Nat)) ∧ w = w' := by
  unfold maxLen at hs
  have HL := Lib.hid hL; clear hL
  have hn := not32 c hc
  have hf : c ^^^ Crc.F < 2 ^ 32 := Nat.xor_lt_two_pow hc (by decide)
  have HM : Hid (Crc.fold (c ^^^ Crc.F) (bs s) ^^^ Crc.F = Crc.more c (bs s)) := by exact rfl
  have HB := Lib.hid (bs_bytes s)
  generalize c ^^^ Crc.F = d at *
  go_enter Tryd.func140, Tryd.ntmps140
  go_wp2_with fail
  go_loop [5, 11] (fun r i => ∃ k : Nat, k ≤ s.size ∧ i = .int .i64 k ∧ r = .int .u32 (Crc.fold d ((bs s).take k) : Nat)) (fun _ i => s.size - (intOf i).toNat)
  case atStart => exact ⟨0, Nat.zero_le _, rfl, rfl⟩
  case round =>
    obtain ⟨k, hk, rfl, rfl⟩ := hrel
    have hb : Crc.fold d ((bs s).take k) < 2 ^ 32 := Crc.fold_lt _ (fun b hb => HB.out b (List.mem_of_mem_take hb)) _ hf
    by_cases hlt : k < s.size
    · have HS : Hid (Crc.steps 8 (Crc.fold d ((bs s).take k) ^^^ s[k].toNat) = Crc.fold d ((bs s).take (k + 1))) := by
        refine Lib.hid ?_
        rw [bs_take_succ s k hlt, Crc.fold_append]; rfl
      generalize Crc.fold d ((bs s).take k) = r at *
      have hx : bits .xor .u32 (r : Int) ((s[k].toNat : Int) % 4294967296) = ((r ^^^ s[k].toNat : Nat) : Int) := by
        have e := s[k].toNat_lt
        rw [show (s[k].toNat : Int) % 4294967296 = (s[k].toNat : Int) by omega]
        exact xor32 r s[k].toNat hb (by omega)
      have hq : r ^^^ s[k].toNat < 2 ^ 32 := Nat.xor_lt_two_pow hb (by have := s[k].toNat_lt; omega)
      go_wp2_with (go_at_call 159; refine (pushZero_any _ _ hq HL.out).mono ?_; rintro e w' ⟨rfl, rfl⟩)
      go_round
      case rel => exact ⟨k + 1, by omega, by go_num, by rw [HS.out]⟩
      case measure => simp [intOf]; omega
    · have hq : Crc.fold d ((bs s).take k) = Crc.fold d (bs s) := by rw [List.take_of_length_le (by rw [bs_length]; omega)]
      rw [hq] at hb ⊢
      clear hq
      generalize Crc.fold d (bs s) = r at *
      have hn2 := not32 r hb
      go_wp2_with fail
      go_ret
      exact ⟨ret_u32 HM.out, rfl⟩
end Go.Proofs.YtjdihgmngiplkaaDoor
