/-
  What package vary's functions are asked to do, as one bundle: its parts are proved of the landed code elsewhere.
-/
import Derived.Test.YtjdihgmngiplkaaDoorErrV
namespace Go.Proofs.YtjdihgmngiplkaaDoor
open Go.RowKit

structure VaryC : Prop where
  num : ∀ (n : Nat) (w : World), n < 2 ^ 64 → Calls Tryd.prog 61 #[.int .u64 n] w fun e w' => e = .returned (.string (txt (Vy.enc n))) ∧ Below w.heap.size w w'
  readNum : ∀ (s : ByteArray) (a rn rnext re : Nat) (w : World), s.size ≤ 1000000 → a ≤ s.size → RN ((bs s).drop a) a rn rnext re →
    Calls Tryd.prog 100 #[.string s, .int .i64 a] w fun e w' => e = .returned (.tuple #[.int .u64 rn, .int .i64 rnext, errV re]) ∧ Below w.heap.size w w'
  readNum_bad : ∀ (s : ByteArray) (a : Int) (w : World), s.size ≤ 1000000 → -9223372036854775808 ≤ a → a ≤ 9223372036854775807 → (a < 0 ∨ (s.size : Int) < a) →
    Calls Tryd.prog 100 #[.string s, .int .i64 a] w fun e w' => e = .returned (.tuple #[.int .u64 0, .int .i64 0, errV 2]) ∧ Below w.heap.size w w'
  int : ∀ (n : Int) (w : World), -9223372036854775808 ≤ n → n ≤ 9223372036854775807 → Calls Tryd.prog 63 #[.int .i64 n] w fun e w' => e = .returned (.string (txt (Vy.enc (zz n)))) ∧ Below w.heap.size w w'
  readInt : ∀ (s : ByteArray) (a rn rnext re : Nat) (w : World), s.size ≤ 1000000 → a ≤ s.size → RN ((bs s).drop a) a rn rnext re → rn < 2 ^ 64 →
    Calls Tryd.prog 145 #[.string s, .int .i64 a] w fun e w' => e = .returned (.tuple #[.int .i64 (uz rn), .int .i64 rnext, errV re]) ∧ Below w.heap.size w w'
  readInt_bad : ∀ (s : ByteArray) (a : Int) (w : World), s.size ≤ 1000000 → -9223372036854775808 ≤ a → a ≤ 9223372036854775807 → (a < 0 ∨ (s.size : Int) < a) →
    Calls Tryd.prog 145 #[.string s, .int .i64 a] w fun e w' => e = .returned (.tuple #[.int .i64 0, .int .i64 0, errV 2]) ∧ Below w.heap.size w w'
  text : ∀ (s : ByteArray) (w : World), s.size ≤ 1000000 → Calls Tryd.prog 67 #[.string s] w fun e w' => e = .returned (.string (txt (Vy.enc s.size) ++ s)) ∧ Below w.heap.size w w'
  readText : ∀ (s t : ByteArray) (a rnext re : Nat) (w : World), s.size ≤ 1000000 → a ≤ s.size → RT s a t rnext re →
    Calls Tryd.prog 121 #[.string s, .int .i64 a] w fun e w' => e = .returned (.tuple #[.string t, .int .i64 rnext, errV re]) ∧ Below w.heap.size w w'
  readText_bad : ∀ (s : ByteArray) (a : Int) (w : World), s.size ≤ 1000000 → -9223372036854775808 ≤ a → a ≤ 9223372036854775807 → (a < 0 ∨ (s.size : Int) < a) →
    Calls Tryd.prog 121 #[.string s, .int .i64 a] w fun e w' => e = .returned (.tuple #[.string (txt []), .int .i64 0, errV 2]) ∧ Below w.heap.size w w'

end Go.Proofs.YtjdihgmngiplkaaDoor
