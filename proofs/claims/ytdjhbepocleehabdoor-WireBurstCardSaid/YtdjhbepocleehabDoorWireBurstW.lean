/-
  The walk of the law WireBurst: of a text in which bits are turned within 32 in a row nothing is opened.
-/
import Derived.Test.YtdjhbepocleehabDoorWired
import Derived.Test.YtdjhbepocleehabDoorFew
import Derived.Test.YtdjhbepocleehabDoorTurned
import Derived.Test.YtdjhbepocleehabDoorWireBurstM
namespace Go.Proofs.YtdjhbepocleehabDoor
open Go.RowKit

set_option maxRecDepth 100000 in
set_option maxHeartbeats 3200000 in
theorem wireBurst_any (kind : Nat) (v : Value) (ps : List WPart) (at_ : Int) (B : Nat) (w : World) (hk : kind < 2 ^ 8) (hv : PartsAt w v ps) (_h1 : -9223372036854775808 ≤ at_) (_h2 : at_ ≤ 9223372036854775807) (hB : B < 2 ^ 32) (hL : Leaves w) :
    Calls Tryd.prog 3 #[.int .u8 (kind : Int), v, .int .i64 at_, .int .u32 B] w fun e w' => e = .returned (.bool true) ∧ Below w.heap.size w w' := by
  have HL := Lib.hid hL
  have HV := Lib.hid hv
  clear hL
  obtain ⟨ao, n, cap, rfl, -, -, -, -, -⟩ := hv
  go_enter Tryd.func3, Tryd.ntmps3
  go_wp2_with fail
  refine (wired_any _ HL.out).mono ?_
  rintro e w1 ⟨rfl, hb1⟩
  have HV1 := Lib.hid (HV.out.below hb1 (Nat.le_refl _))
  go_wp2_with fail
  refine (few_any _ ps _ HV1.out).mono ?_
  rintro e w2 ⟨f, rfl, hf, hb2⟩
  have hb02 : Below w.heap.size w w2 := hb1.trans (hb2.mono hb1.size)
  cases f with
  | false =>
    go_wp2_with fail
    go_ret
    exact ⟨rfl, hb02⟩
  | true =>
    have hfew := hf.1 rfl
    have HV2 := Lib.hid (HV.out.below hb02 (Nat.le_refl _))
    have HL2 := Lib.hid (Leaves.next HL.out hb02)
    have HF := Lib.hid hfew
    have hlen := hfew.len
    clear hf hfew
    go_wp2_with fail
    refine (seal_good kind _ ps _ hk HV2.out HF.out.small (by omega) HL2.out).mono ?_
    rintro e w3 ⟨re, t, rfl, hre, hb3⟩
    have hb03 : Below w.heap.size w w3 := hb02.trans (hb3.mono hb02.size)
    rcases hre with ⟨hg, rfl, rfl⟩ | ⟨_, hre⟩
    · obtain ⟨hws, hwb⟩ := whole_size (kind := kind) hk hg
      have HWB := Lib.hid hwb
      have HG := Lib.hid hg
      have h1 := Vy.enc_len10 ps.length (by have := hg.1; omega)
      have hsz : (txt (wholeL kind ps)).size ≤ 60000 := by omega
      have hpos : 0 < (txt (wholeL kind ps)).size := by omega
      clear hws hwb h1 hg
      generalize txt (wholeL kind ps) = T at *
      rw [errV_0]
      go_wp2_with fail
      refine (turned_any T at_ B _ hpos hsz hB).mono ?_
      rintro e w4 ⟨l, q, i, rfl, htu, hq, hi, hb4⟩
      have hb04 : Below w.heap.size w w4 := hb03.trans (hb4.mono hb03.size)
      have HL4 := Lib.hid (Leaves.next HL.out hb04)
      have hts : (txt l).size ≤ 60000 := by rw [txt_size, htu.1]; exact hsz
      obtain ⟨k2, qs2, re2, hO2⟩ := OP.exists (txt l)
      have HO2 := Lib.hid hO2
      by_cases heq : l = bs T
      · have hR2 := (OP.full (by rw [heq, txt_bs]; exact HWB.out) HG.out hO2).2.2
        subst hR2
        have hte : txt l = T := by rw [heq, txt_bs]
        have hstr : ((txt l).toList == T.toList) = true := by rw [hte, beq_iff_eq]
        clear hO2 hte htu
        generalize txt l = t at *
        go_wp2_with fail
        refine (open_any t k2 qs2 0 _ hts HO2.out HL4.out).mono ?_
        rintro e w5 ⟨v5, rfl, -, hb5⟩
        rw [errV_0]
        go_wp2_with fail
        go_ret
        exact ⟨rfl, hb04.trans (hb5.mono hb04.size)⟩
      · have hR2 := burst_bad HWB.out HG.out hk hsz htu.1 htu.2.1 hq hi (Nat.mod_lt _ (Nat.two_pow_pos i)) htu.2.2 heq hO2
        have hnn2 : errV re2 = .iface 53 (.int .i64 re2) := by unfold errV; rw [if_neg hR2]
        have HNN2 := Lib.hid hnn2
        have hstr : ((txt l).toList == T.toList) = false := by
          rw [beq_eq_false_iff_ne, ByteArray.toList_eq, ByteArray.toList_eq]
          intro h
          apply heq
          rw [← show txt l = T from ByteArray.ext (Array.toList_inj.1 h), bs_txt l htu.2.1]
        clear hO2 hnn2 htu heq
        generalize txt l = t at *
        go_wp2_with fail
        refine (open_any t k2 qs2 re2 _ hts HO2.out HL4.out).mono ?_
        rintro e w5 ⟨v5, rfl, -, hb5⟩
        rw [HNN2.out]
        go_wp2_with fail
        go_ret
        exact ⟨rfl, hb04.trans (hb5.mono hb04.size)⟩
    · have hnn : errV re = .iface 53 (.int .i64 re) := by unfold errV; rw [if_neg (by omega)]
      rw [hnn]
      go_wp2_with fail
      go_ret
      exact ⟨rfl, hb03⟩
end Go.Proofs.YtdjhbepocleehabDoor
