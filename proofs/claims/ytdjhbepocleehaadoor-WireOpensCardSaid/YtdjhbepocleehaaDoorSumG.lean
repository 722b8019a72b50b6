/-
  Small lemmas on numbers and worlds that the reference's sum asks for.
-/
import Derived.Test.YtdjhbepocleehaaDoorSumW1
import Derived.Deep.RegionWith
import Derived.Deep.DrawnRows
namespace Go.Proofs.YtdjhbepocleehaaDoor
open Go.RowKit

theorem pow_lt (k : Nat) (h : k < 32) : 2 ^ k < 2 ^ 32 := Nat.pow_lt_pow_right (by omega) h
theorem pow_mod (k : Nat) (h : k < 32) : (2 : Int) ^ k % 4294967296 = ((2 ^ k : Nat) : Int) := by
  have e : (2 : Int) ^ k = ((2 ^ k : Nat) : Int) := (Int.natCast_pow 2 k).symm
  rw [e]
  exact Int.emod_eq_of_lt (Int.natCast_nonneg _) (by have := pow_lt k h; omega)
theorem and1 (r k : Nat) (h : r < 2 ^ 32) : bits .and .u32 ((r : Int) / 2 ^ k) 1 = ((r / 2 ^ k % 2 : Nat) : Int) := by
  have e : (r : Int) / 2 ^ k = ((r / 2 ^ k : Nat) : Int) := by norm_cast
  have hlt : r / 2 ^ k < 2 ^ 32 := Nat.lt_of_le_of_lt (Nat.div_le_self _ _) h
  have := u32_and_nat (r / 2 ^ k) 1 (by omega) (by omega)
  rw [nat_mask1] at this
  rw [e]; exact this

theorem below_setRow {B : Nat} {a w : World} (h : Below B a w) {g : Nat} (hg : B ≤ g) (cs : Array Value) : Below B a (w.setRow g cs) :=
  h.trans ⟨rfl, rfl, rfl, by simp, fun k hk => setRow_other w g k cs (by omega)⟩

end Go.Proofs.YtdjhbepocleehaaDoor
