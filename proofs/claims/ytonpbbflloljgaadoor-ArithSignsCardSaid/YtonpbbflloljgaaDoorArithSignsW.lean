/-
  The walk of the law ArithSigns.
-/
import Derived.Test.YtonpbbflloljgaaDoorRefSign
namespace Go.Proofs.YtonpbbflloljgaaDoor
open Go.RowKit

set_option maxHeartbeats 800000 in
set_option maxRecDepth 100000 in
theorem arithSigns_any (op : Int) (s : ByteArray) (w : World) (_h1 : -9223372036854775808 ≤ op) (_h2 : op ≤ 9223372036854775807) (hs : s.size ≤ maxLen) (hS : Signs w) :
    Calls Tryd.prog 3 #[.int .i64 op, .string s] w fun e w' => e = .returned (.bool true) ∧ Below w.heap.size w w' := by
  have HS := Lib.hid hS
  clear hS
  unfold maxLen at hs
  have hp : Hid (0 < w.heap.size) := Lib.hid (block_lt_of_cell (HS.out 0 (by decide)))
  have next : ∀ w1 : World, Below w.heap.size w w1 → Signs w1 := fun w1 hb n hn => by
    rw [hb.cell (p := ⟨0, n, none⟩) hp.out]; exact HS.out n hn
  have NX := Lib.hid next
  clear next
  by_cases hl : 20 < s.size
  · go_enter Tryd.func3, Tryd.ntmps3
    go_wp2_with fail
    go_ret
    exact ⟨rfl, Below.refl _ _⟩
  · obtain ⟨t1, ht1⟩ : ∃ t, t = takesV op := ⟨_, rfl⟩
    obtain ⟨t2, ht2⟩ : ∃ t, t = makesV op := ⟨_, rfl⟩
    obtain ⟨g, hg⟩ : ∃ g : ByteArray, g = ⟨(signV op).toArray⟩ := ⟨_, rfl⟩
    obtain ⟨n1, hn1⟩ : ∃ n : Int, n = (writV s.toList 16 1 : Nat) := ⟨_, rfl⟩
    obtain ⟨n2, hn2⟩ : ∃ n : Int, n = (writV s.toList 3 17 : Nat) := ⟨_, rfl⟩
    have K1 : Hid (∀ w, Calls Tryd.prog 10 #[.int .i64 op] w fun e w' => e = .returned (.tuple #[.int .i64 t1, .int .i64 t2]) ∧ w = w') := Lib.hid fun w => by rw [ht1, ht2]; exact rkinds_any op w
    have K2 : Hid (∀ w, Calls Tryd.prog 11 #[.int .i64 op] w fun e w' => e = .returned (.tuple #[.int .i64 t1, .int .i64 t2]) ∧ w = w') := Lib.hid fun w => by rw [ht1, ht2]; exact kinds_any op w
    have S1 : Hid (∀ w, Calls Tryd.prog 13 #[.int .i64 op] w fun e w' => e = .returned (.string g) ∧ Below w.heap.size w w') := Lib.hid fun w => by rw [hg]; exact rsign_any op w
    have S2 : Hid (∀ w, Signs w → Calls Tryd.prog 12 #[.int .i64 op] w fun e w' => e = .returned (.string g) ∧ w = w') := Lib.hid fun w h => by rw [hg]; exact sign_any op w h
    have T1 : Hid (∀ w, Signs w → Calls Tryd.prog 14 #[.string s] w fun e w' => e = .returned (.int .i64 n1) ∧ w = w') := Lib.hid fun w h => by rw [hn1]; exact two_any s w h
    have T2 : Hid (∀ w, Signs w → Calls Tryd.prog 16 #[.string s] w fun e w' => e = .returned (.int .i64 n2) ∧ w = w') := Lib.hid fun w h => by rw [hn2]; exact one_any s w h
    have R1 : Hid (∀ w, Calls Tryd.prog 15 #[.string s, .int .i64 1, .int .i64 16] w fun e w' => e = .returned (.int .i64 n1) ∧ Below w.heap.size w w') := Lib.hid fun w => by rw [hn1]; exact rsigned_any s 1 16 w (by decide) (by decide)
    have R2 : Hid (∀ w, Calls Tryd.prog 15 #[.string s, .int .i64 17, .int .i64 19] w fun e w' => e = .returned (.int .i64 n2) ∧ Below w.heap.size w w') := Lib.hid fun w => by rw [hn2]; exact rsigned_any s 17 19 w (by decide) (by decide)
    clear ht1 ht2 hg hn1 hn2
    go_enter Tryd.func3, Tryd.ntmps3
    go_wp2_with (first | (go_at_call 10; refine (K1.out _).mono ?_; rintro e w0 ⟨rfl, rfl⟩) | (go_at_call 11; refine (K2.out _).mono ?_; rintro e w0 ⟨rfl, rfl⟩) | (go_at_call 12; refine (S2.out _ HS.out).mono ?_; rintro e w0 ⟨rfl, rfl⟩))
    refine (S1.out _).mono ?_
    rintro e w1 ⟨rfl, hb1⟩
    have HS1 := Lib.hid (NX.out _ hb1)
    go_wp2_with fail
    refine (T1.out _ HS1.out).mono ?_
    rintro e w0 ⟨rfl, rfl⟩
    go_wp2_with fail
    refine (R1.out _).mono ?_
    rintro e w2 ⟨rfl, hb2⟩
    have hb12 := hb1.trans (hb2.mono hb1.size)
    have HS2 := Lib.hid (NX.out _ hb12)
    go_wp2_with fail
    refine (T2.out _ HS2.out).mono ?_
    rintro e w0 ⟨rfl, rfl⟩
    go_wp2_with fail
    refine (R2.out _).mono ?_
    rintro e w3 ⟨rfl, hb3⟩
    go_wp2_with fail
    go_ret
    exact ⟨rfl, hb12.trans (hb3.mono hb12.size)⟩
end Go.Proofs.YtonpbbflloljgaaDoor
