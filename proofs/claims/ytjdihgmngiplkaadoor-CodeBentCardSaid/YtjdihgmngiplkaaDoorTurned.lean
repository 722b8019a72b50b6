/-
  The walk of the laws' 'turned': bits that are turned within 32 in a row.
-/
import Derived.Test.YtjdihgmngiplkaaDoorPick
import Derived.Test.YtjdihgmngiplkaaDoorSumW1
import Derived.Test.YtjdihgmngiplkaaDoorText
import Derived.Deep.QuietTactic
import Derived.BigQuiet
import Derived.RegionTactic
import Derived.ChangeAlike
namespace Go.Proofs.YtjdihgmngiplkaaDoor
open Go.RowKit

theorem and1 (r k : Nat) (h : r < 2 ^ 32) : bits .and .u32 ((r : Int) / 2 ^ k) 1 = ((r / 2 ^ k % 2 : Nat) : Int) := by
  have e : (r : Int) / 2 ^ k = ((r / 2 ^ k : Nat) : Int) := by norm_cast
  have hlt : r / 2 ^ k < 2 ^ 32 := Nat.lt_of_le_of_lt (Nat.div_le_self _ _) h
  have := u32_and_nat (r / 2 ^ k) 1 (by omega) (by omega)
  rw [nat_mask1] at this
  rw [e]; exact this
theorem xor8 (a b : Nat) (ha : a < 256) (hb : b < 256) : bits .xor .u8 (a : Int) (b : Int) = ((a ^^^ b : Nat) : Int) := u8_xor_nat a b ha hb

/-- What has been turned after i bits, from bit k on. -/
def Turned (s : ByteArray) (k B i : Nat) (l : List Nat) : Prop := l.length = s.size ∧ Crc.Bytes l ∧ Crc.le l = Crc.le (bs s) ^^^ (2 ^ k * (B % 2 ^ i))
def TurnedEnd (s : ByteArray) (B : Nat) (w : World) (e : Ending) (w' : World) : Prop :=
  ∃ (l : List Nat) (k i : Nat), e = .returned (.string (txt l)) ∧ Turned s k B i l ∧ k + i ≤ 8 * s.size ∧ i ≤ 32 ∧ Below w.heap.size w w'

theorem mul_xor (k a b : Nat) : 2 ^ k * (a ^^^ b) = (2 ^ k * a) ^^^ (2 ^ k * b) := by
  apply Nat.eq_of_testBit_eq
  intro i
  simp only [Nat.testBit_xor, Nat.testBit_two_pow_mul]
  cases decide (i ≥ k) <;> simp
theorem le_set (l : List Nat) (hl : Crc.Bytes l) (q d : Nat) (hq : q < l.length) (hd : d < 256) : Crc.le (l.set q (l.getD q 0 ^^^ d)) = Crc.le l ^^^ (2 ^ (8 * q) * d) := by
  induction l generalizing q with
  | nil => simp at hq
  | cons x l ih =>
    have hx : x < 2 ^ 8 := hl x (List.mem_cons_self ..)
    cases q with
    | zero =>
      show (x ^^^ d) + 2 ^ 8 * Crc.le l = (x + 2 ^ 8 * Crc.le l) ^^^ (2 ^ 0 * d)
      rw [Crc.split_xor 8 _ _ (Nat.xor_lt_two_pow hx hd), Crc.split_xor 8 x _ hx, Nat.pow_zero, Nat.one_mul, Nat.xor_assoc, Nat.xor_comm d, ← Nat.xor_assoc]
    | succ q =>
      have e := ih (fun b hb => hl b (List.mem_cons_of_mem _ hb)) q (by simpa using hq)
      show x + 2 ^ 8 * Crc.le (l.set q (l.getD q 0 ^^^ d)) = (x + 2 ^ 8 * Crc.le l) ^^^ (2 ^ (8 * (q + 1)) * d)
      rw [e, Crc.split_xor 8 x _ hx, Crc.split_xor 8 x _ hx, mul_xor, ← Nat.xor_assoc, ← Nat.mul_assoc, ← Nat.pow_add, show 8 + 8 * q = 8 * (q + 1) by omega]
theorem Turned.step0 {s : ByteArray} {k B i : Nat} {l : List Nat} (h : Turned s k B i l) (hb : B / 2 ^ i % 2 = 0) : Turned s k B (i + 1) l :=
  ⟨h.1, h.2.1, by rw [h.2.2, Crc.mod_bit0 B i hb]⟩
theorem Turned.step1 {s : ByteArray} {k B i : Nat} {l : List Nat} (h : Turned s k B i l) (hk : k + i < 8 * s.size) (hb : B / 2 ^ i % 2 = 1) :
    Turned s k B (i + 1) (l.set ((k + i) / 8) (l.getD ((k + i) / 8) 0 ^^^ 2 ^ ((k + i) % 8))) := by
  obtain ⟨h1, h2, h3⟩ := h
  have hd : 2 ^ ((k + i) % 8) < 256 := by
    have : 2 ^ ((k + i) % 8) < 2 ^ 8 := Nat.pow_lt_pow_right (by omega) (by omega)
    omega
  have hq : (k + i) / 8 < l.length := by omega
  refine ⟨by rw [List.length_set, h1], fun b hm => ?_, ?_⟩
  · rcases List.mem_or_eq_of_mem_set hm with hm | rfl
    · exact h2 b hm
    · refine Nat.xor_lt_two_pow (n := 8) ?_ hd
      rw [List.getD_eq_getElem?_getD, List.getElem?_eq_getElem hq]
      exact h2 _ (List.getElem_mem hq)
  · rw [le_set l h2 _ _ hq hd, h3, Crc.mod_bit1 B i hb, mul_xor, Nat.xor_assoc, ← Nat.pow_add, ← Nat.pow_add, show 8 * ((k + i) / 8) + (k + i) % 8 = k + i by omega]
theorem xor8_pow (a r : Nat) (ha : a < 256) (hr : r < 8) : bits .xor .u8 (a : Int) ((2 : Int) ^ r % 256) = ((a ^^^ 2 ^ r : Nat) : Int) := by
  have hd : 2 ^ r < 2 ^ 8 := Nat.pow_lt_pow_right (by omega) hr
  have e : (2 : Int) ^ r % 256 = ((2 ^ r : Nat) : Int) := by
    rw [show (2 : Int) ^ r = ((2 ^ r : Nat) : Int) from (Int.natCast_pow 2 r).symm]
    exact Int.emod_eq_of_lt (Int.natCast_nonneg _) (by omega)
  rw [e]; exact xor8 a _ ha (by omega)

set_option maxRecDepth 100000 in
set_option maxHeartbeats 1600000 in
theorem turned_any (s : ByteArray) (at_ : Int) (B : Nat) (w : World) (h0 : 0 < s.size) (hs : s.size ≤ 60000) (hB : B < 2 ^ 32) :
    Calls Tryd.prog 20 #[.string s, .int .i64 at_, .int .u32 B] w (TurnedEnd s B w) := by
  have hcv := Lib.run_convert_string_bytes (P := Tryd.prog) w 9 53 5 s Tryd.underlying9 Tryd.underlying53 Tryd.underlying5
  have HR0 := Lib.hid (RowAt.ofText w s)
  have HB0 := Lib.hid (below_ofText w s)
  generalize Lib.bytesWorld w 5 s = w0 at *
  generalize grownCap w s.size 0 5 = cp at *
  have hne : s.toList.isEmpty = false := by
    rw [ByteArray.toList_eq]
    cases h : s.data.toList with
    | nil => have : s.size = 0 := by rw [← bs_length]; simp [bs, h]
             omega
    | cons => rfl
  go_enter Tryd.func20, Tryd.ntmps20
  go_wp2_with fail
  rw [show (8 : Int) * (s.size : Int) = ((8 * s.size : Nat) : Int) by omega]
  refine (pick_any at_ (8 * s.size) _ (by omega) (by omega)).mono ?_
  rintro e w' ⟨k, hk, rfl, rfl⟩
  go_wp2_with fail
  clear hcv
  go_loopw [8] (fun i wr => ∃ (j : Nat) (l : List Nat), j ≤ 32 ∧ k + j ≤ 8 * s.size ∧ i = .int .i64 j ∧ RowAt wr w.heap.size l ∧ Turned s k B j l ∧ Below w.heap.size w wr) (fun i _ => 32 - (intOf i).toNat)
  case atStart => exact ⟨0, bs s, by omega, by omega, rfl, HR0.out, ⟨bs_length s, bs_bytes s, by rw [Nat.pow_zero, Nat.mod_one, Nat.mul_zero, Nat.xor_zero]⟩, HB0.out⟩
  case round =>
    obtain ⟨j, l, hj32, hkj, rfl, hrow, htu, hb⟩ := hrel
    have hll : l.length = s.size := htu.1
    have hcv2 := RowAt.text (c := cp) hrow hll
    have HTU := Lib.hid htu
    have HROW := Lib.hid hrow
    have HLL := Lib.hid hll
    clear hrow htu hll
    by_cases hlt : j < 32
    · by_cases hlt2 : k + j < 8 * s.size
      · clear hcv2
        have h1 := and1 B j hB
        have hq : (k + j) / 8 < s.size := by omega
        rcases Nat.mod_two_eq_zero_or_one (B / 2 ^ j) with hbit | hbit
        · have HS := Lib.hid (HTU.out.step0 hbit)
          have ht : (bits BinOp.and IntKind.u32 ((B : Int) / 2 ^ j) 1 == 1) = false := by rw [h1, hbit]; rfl
          clear h1 hbit
          go_wp2_with fail
          go_roundw
          case rel => exact ⟨j + 1, l, by omega, by omega, by go_num, HROW.out, HS.out, hb⟩
          case measure => simp [intOf]; omega
        · have HS := Lib.hid (HTU.out.step1 (by omega) hbit)
          have ht : (bits BinOp.and IntKind.u32 ((B : Int) / 2 ^ j) 1 == 1) = true := by rw [h1, hbit]; rfl
          clear h1 hbit
          obtain ⟨hc, hfr⟩ := HROW.out ((k + j) / 8) (by rw [HLL.out]; exact hq)
          have ho : l.getD ((k + j) / 8) 0 < 256 := by
            have hq2 : (k + j) / 8 < l.length := by rw [HLL.out]; exact hq
            rw [List.getD_eq_getElem?_getD, List.getElem?_eq_getElem hq2]
            exact HTU.out.2.1 _ (List.getElem_mem hq2)
          generalize l.getD ((k + j) / 8) 0 = old at *
          have hx := xor8_pow old ((k + j) % 8) ho (by omega)
          go_wp2_with fail
          go_region
          go_wp2_with fail
          go_roundw
          case rel => exact ⟨j + 1, _, by omega, by omega, by go_num, (HROW.out.set _ _).drew, HS.out, (hb.setCell (Nat.le_refl _) _).drew⟩
          case measure => simp [intOf]; omega
      · go_wp2_with fail
        go_ret
        exact ⟨l, k, j, rfl, HTU.out, by omega, by omega, hb⟩
    · go_wp2_with fail
      go_ret
      exact ⟨l, k, j, rfl, HTU.out, by omega, by omega, hb⟩
theorem turned_empty (s : ByteArray) (at_ : Int) (B : Nat) (w : World) (h0 : s.size = 0) :
    Calls Tryd.prog 20 #[.string s, .int .i64 at_, .int .u32 B] w fun e w' => e = .returned (.string s) ∧ w = w' := by
  have hne : s.toList.isEmpty = true := by
    rw [ByteArray.toList_eq]
    cases h : s.data.toList with
    | nil => rfl
    | cons => have : 0 < s.size := by rw [← bs_length]; simp [bs, h]
              omega
  clear h0
  go_enter Tryd.func20, Tryd.ntmps20
  go_wp2_with fail
  go_ret
  exact ⟨rfl, rfl⟩

end Go.Proofs.YtjdihgmngiplkaaDoor
