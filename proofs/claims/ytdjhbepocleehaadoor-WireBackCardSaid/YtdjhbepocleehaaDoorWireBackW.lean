/-
  The walk of the law WireBack: what is sealed is opened, if it can be sealed.
-/
import Derived.Test.YtdjhbepocleehaaDoorWired
import Derived.Test.YtdjhbepocleehaaDoorFew
import Derived.Test.YtdjhbepocleehaaDoorEqual
namespace Go.Proofs.YtdjhbepocleehaaDoor
open Go.RowKit

set_option maxRecDepth 100000 in
set_option maxHeartbeats 1600000 in
theorem wireBack_any (kind : Nat) (v : Value) (ps : List WPart) (w : World) (hk : kind < 2 ^ 8) (hv : PartsAt w v ps) (hL : Leaves w) :
    Calls Tryd.prog 8 #[.int .u8 (kind : Int), v] w fun e w' => e = .returned (.bool true) ∧ Below w.heap.size w w' := by
  have HL := Lib.hid hL
  have HV := Lib.hid hv
  clear hL
  obtain ⟨ao, n, cap, rfl, -, -, -, -, -⟩ := hv
  go_enter Tryd.func8, Tryd.ntmps8
  go_wp2_with fail
  refine (wired_any _ HL.out).mono ?_
  rintro e w1 ⟨rfl, hb1⟩
  have HV1 := Lib.hid (HV.out.below hb1 (Nat.le_refl _))
  go_wp2_with fail
  refine (few_any _ ps _ HV1.out).mono ?_
  rintro e w2 ⟨f, rfl, hf, hb2⟩
  have hb02 : Below w.heap.size w w2 := hb1.trans (hb2.mono hb1.size)
  cases f with
  | false =>
    go_wp2_with fail
    go_ret
    exact ⟨rfl, hb02⟩
  | true =>
    have hfew := hf.1 rfl
    have HV2 := Lib.hid (HV.out.below hb02 (Nat.le_refl _))
    have HL2 := Lib.hid (Leaves.next HL.out hb02)
    have HF := Lib.hid hfew
    have hlen := hfew.len
    clear hf hfew
    go_wp2_with fail
    refine (seal_good kind _ ps _ hk HV2.out HF.out.small (by omega) HL2.out).mono ?_
    rintro e w3 ⟨re, t, rfl, hre, hb3⟩
    have hb03 : Below w.heap.size w w3 := hb02.trans (hb3.mono hb02.size)
    rcases hre with ⟨hg, rfl, rfl⟩ | ⟨_, hre⟩
    · obtain ⟨hws, hwb⟩ := whole_size (kind := kind) hk hg
      have HWB := Lib.hid hwb
      have HG := Lib.hid hg
      have h1 := Vy.enc_len10 ps.length (by have := hg.1; omega)
      have hsz : (txt (wholeL kind ps)).size ≤ 60000 := by omega
      have HL3 := Lib.hid (Leaves.next HL.out hb03)
      clear hws hwb h1
      generalize txt (wholeL kind ps) = T at *
      rw [errV_0]
      go_wp2_with fail
      obtain ⟨k, qs, re, hO⟩ := OP.exists T
      obtain ⟨rfl, rfl, rfl⟩ := OP.full HWB.out HG.out hO
      refine (open_any T k qs 0 _ hsz hO HL3.out).mono ?_
      rintro e w4 ⟨v4, rfl, hpa, hb4⟩
      have hb04 : Below w.heap.size w w4 := hb03.trans (hb4.mono hb03.size)
      have HPA := Lib.hid hpa
      have HV4 := Lib.hid (HV.out.below hb04 (Nat.le_refl _))
      obtain ⟨ao4, n4, cap4, rfl, -, -, -, -, -⟩ := hpa
      rw [errV_0]
      go_wp2_with fail
      refine (equal_any _ _ qs _ HPA.out HV4.out).mono ?_
      rintro e w5 ⟨rfl, hb5⟩
      go_wp2_with fail
      go_ret
      exact ⟨rfl, hb04.trans (hb5.mono hb04.size)⟩
    · have hnn : errV re = .iface 24 (.int .i64 re) := by unfold errV; rw [if_neg (by omega)]
      rw [hnn]
      go_wp2_with fail
      go_ret
      exact ⟨rfl, hb03⟩
end Go.Proofs.YtdjhbepocleehaaDoor
