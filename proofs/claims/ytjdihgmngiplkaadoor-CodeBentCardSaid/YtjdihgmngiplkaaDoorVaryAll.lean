/-
  Package vary's contracts in one bundle.
-/
import Derived.Test.YtjdihgmngiplkaaDoorVaryRest
import Derived.Test.YtjdihgmngiplkaaDoorVaryC
namespace Go.Proofs.YtjdihgmngiplkaaDoor
open Go.RowKit

set_option maxRecDepth 100000 in
set_option maxHeartbeats 800000 in
theorem readText_bad_any (s : ByteArray) (a : Int) (w : World) (hs : s.size ≤ 1000000) (ha : a < 0 ∨ (s.size : Int) < a) :
    Calls Tryd.prog 121 #[.string s, .int .i64 a] w fun e w' => e = .returned (.tuple #[.string (txt []), .int .i64 0, errV 2]) ∧ Below w.heap.size w w' := by
  have HB := Lib.hid ha
  clear ha
  go_enter Tryd.func121, Tryd.ntmps121
  go_wp2_with fail
  refine (readNum_bad_any s a _ hs HB.out).mono ?_
  rintro e w1 ⟨rfl, hb⟩
  rw [errV_2]
  go_wp2_with fail
  go_ret3
  exact ⟨rfl, hb⟩

theorem varyC : VaryC where
  num := num_any
  readNum := readNum_any
  readNum_bad := fun s a w h1 _ _ h2 => readNum_bad_any s a w h1 h2
  int := int_any
  readInt := readInt_any
  readInt_bad := fun s a w h1 _ _ h2 => readInt_bad_any s a w h1 h2
  text := text_any
  readText := readText_any
  readText_bad := fun s a w h1 _ _ h2 => readText_bad_any s a w h1 h2
end Go.Proofs.YtjdihgmngiplkaaDoor
