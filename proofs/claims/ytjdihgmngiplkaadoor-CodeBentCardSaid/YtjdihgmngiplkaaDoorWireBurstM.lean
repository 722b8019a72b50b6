/-
  Plain mathematics of the law WireBurst: a list with its own sum behind it has one sum, whatever it is. No walk.
-/
import Derived.Test.YtjdihgmngiplkaaDoorWireM2
namespace Go.Proofs.YtjdihgmngiplkaaDoor
open Go.RowKit

theorem le_four (c : Nat) (h : c < 2 ^ 32) : Crc.le (four c) = c := by
  simp only [four, Crc.le]; omega
theorem more_sealed (x : List Nat) (hx : Crc.Bytes x) : Crc.more 0 (sealed x) = Crc.steps 32 Crc.F ^^^ Crc.F := by
  have hc := Crc.more_lt x hx 0 (by decide)
  have hF : Crc.fold (0 ^^^ Crc.F) x = Crc.more 0 x ^^^ Crc.F := by unfold Crc.more; rw [Crc.xor_F_F]
  unfold sealed
  rw [show Crc.more 0 (x ++ four (Crc.more 0 x)) = Crc.fold (0 ^^^ Crc.F) (x ++ four (Crc.more 0 x)) ^^^ Crc.F from rfl, Crc.fold_append, hF, Crc.fold_is _ (four_bytes _), le_four _ hc, four_length]
  congr 2
  rw [Nat.xor_comm (Crc.more 0 x), Nat.xor_assoc, Nat.xor_self, Nat.xor_zero]
theorem burst_bad {T : ByteArray} {kind k q i B : Nat} {ps qs : List WPart} {re : Nat} {l : List Nat} (hT : bs T = wholeL kind ps) (hg : Good ps) (hk : kind < 256) (hs : T.size ≤ 60000)
    (hl : l.length = T.size) (hlb : Crc.Bytes l) (hq : q + i ≤ 8 * T.size) (hi : i ≤ 32) (hB : B < 2 ^ i) (hle : Crc.le l = Crc.le (bs T) ^^^ (2 ^ q * B)) (hne : l ≠ bs T) (hO : OP (txt l) k qs re) : re ≠ 0 := fun h0 => by
  obtain ⟨g1, g2, g3⟩ := hO.good h0 (by rw [txt_size, hl]; exact hs)
  rw [bs_txt l hlb] at g3
  apply hne
  apply (Crc.burst (bs T) l (bs_bytes T) hlb (by rw [hl, bs_length]) q i B (by rw [bs_length]; exact hq) hB hi hle).2
  rw [hT, g3]
  unfold wholeL
  rw [more_sealed _ (headL_bytes hk hg.2.2.tag), more_sealed _ (headL_bytes g2 g1.2.2.tag)]
end Go.Proofs.YtjdihgmngiplkaaDoor
