/-
  What the ops of chapter 6 make of integers, as plain functions.
-/
import Derived.WalkKit
import Derived.Laws.BitsLemmas
namespace Go.Proofs.YtonpbbflloljgaaDoor
open Go.RowKit

/-- The way in which all ends: Zero, Shift, Going. -/
def wayV (op b : Int) : Int :=
  if op = 4 ∨ op = 5 then (if b = 0 then 3 else 0) else if op = 9 ∨ op = 10 then (if b < 0 then 4 else 0) else 0
def oneV (c : Bool) : Int := if c then 1 else 0
/-- What an op of two makes, where nothing ends. -/
def madeV (op a b : Int) : Int :=
  if op = 1 then wrap64 (a + b) else
  if op = 2 then wrap64 (a - b) else
  if op = 3 then wrap64 (a * b) else
  if op = 4 then wrap64 (a.tdiv b) else
  if op = 5 then a.tmod b else
  if op = 6 then bits .and .i64 a b else
  if op = 7 then bits .or .i64 a b else
  if op = 8 then bits .xor .i64 a b else
  if op = 9 then wrap64 (a * 2 ^ min b.toNat 64) else
  if op = 10 then a / 2 ^ min b.toNat 64 else
  if op = 11 then oneV (decide (a < b)) else
  if op = 12 then oneV (decide (a ≤ b)) else
  if op = 13 then oneV (decide (b < a)) else
  if op = 14 then oneV (decide (b ≤ a)) else
  if op = 15 then oneV (a == b) else
  if op = 16 then oneV (a != b) else 0
def binV (op a b : Int) : Int := if wayV op b = 0 then madeV op a b else 0
def unV (op a : Int) : Int :=
  if op = 17 then wrap64 (-a) else
  if op = 18 then bits .xor .i64 (-1) a else
  if op = 19 then oneV (a == 0) else 0
theorem wayV_going (op b : Int) (h1 : op ≠ 4) (h2 : op ≠ 5) (h3 : op ≠ 9) (h4 : op ≠ 10) : wayV op b = 0 := by
  unfold wayV; rw [if_neg (by omega), if_neg (by omega)]
end Go.Proofs.YtonpbbflloljgaaDoor
