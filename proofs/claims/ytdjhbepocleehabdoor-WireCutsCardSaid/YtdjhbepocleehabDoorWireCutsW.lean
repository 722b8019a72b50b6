/-
  The walk of the law WireCuts: of what is cut off, or has something behind it, nothing is opened.
-/
import Derived.Test.YtdjhbepocleehabDoorWired
import Derived.Test.YtdjhbepocleehabDoorFew
import Derived.Test.YtdjhbepocleehabDoorPick
namespace Go.Proofs.YtdjhbepocleehabDoor
open Go.RowKit

theorem cut_bad {T : ByteArray} {kind k : Nat} {ps qs : List WPart} {re c : Nat} (hT : bs T = wholeL kind ps) (hg : Good ps) (hs : T.size ≤ 60000) (hc : c < T.size) (hO : OP (T.extract 0 c) k qs re) : re ≠ 0 := fun h0 => by
  have hx : (T.extract 0 c).size = c := by rw [ByteArray.size_extract]; omega
  obtain ⟨g1, g2, g3⟩ := hO.good h0 (by omega)
  have hp : bs (T.extract 0 c) <+: wholeL kind ps := by rw [← hT, bs_extract, List.drop_zero]; exact List.take_prefix _ _
  rw [g3] at hp
  have := whole_prefix hg g1 (List.prefix_refl _) hp
  rw [← hT, ← g3, bs_length, bs_length] at this
  omega
theorem more_bad {T m : ByteArray} {kind k : Nat} {ps qs : List WPart} {re : Nat} (hT : bs T = wholeL kind ps) (hg : Good ps) (hs : (T ++ m).size ≤ 60000) (hm : 0 < m.size) (hO : OP (T ++ m) k qs re) : re ≠ 0 := fun h0 => by
  obtain ⟨g1, g2, g3⟩ := hO.good h0 hs
  have hp : wholeL kind ps <+: wholeL k qs := by rw [← g3, bs_append, hT]; exact List.prefix_append _ _
  have := whole_prefix hg g1 hp (List.prefix_refl _)
  rw [← hT, ← g3, bs_length, bs_length, ByteArray.size_append] at this
  omega

theorem bs_nil {m : ByteArray} (h : m.size = 0) : bs m = [] := List.eq_nil_of_length_eq_zero (by rw [bs_length]; exact h)
theorem more_none {T m : ByteArray} {kind k : Nat} {ps qs : List WPart} {re : Nat} (hT : bs T = wholeL kind ps) (hg : Good ps) (hm : m.size = 0) (hO : OP (T ++ m) k qs re) : re = 0 :=
  (OP.full (by rw [bs_append, hT, bs_nil hm, List.append_nil]) hg hO).2.2
theorem isEmpty_size (m : ByteArray) : m.toList.isEmpty = decide (m.size = 0) := by
  rw [ByteArray.toList_eq]
  cases h : m.data.toList with
  | nil =>
    have : m.size = 0 := by rw [← bs_length]; simp [bs, h]
    simp [this]
  | cons =>
    have : 0 < m.size := by rw [← bs_length]; simp [bs, h]
    rw [List.isEmpty_cons]
    exact (decide_eq_false (by omega)).symm

set_option maxRecDepth 100000 in
set_option maxHeartbeats 3200000 in
theorem wireCuts_any (kind : Nat) (v : Value) (ps : List WPart) (cut : Int) (m : ByteArray) (w : World) (hk : kind < 2 ^ 8) (hv : PartsAt w v ps) (_h1 : -9223372036854775808 ≤ cut) (_h2 : cut ≤ 9223372036854775807) (_hm : m.size ≤ maxLen) (hL : Leaves w) :
    Calls Tryd.prog 4 #[.int .u8 (kind : Int), v, .int .i64 cut, .string m] w fun e w' => e = .returned (.bool true) ∧ Below w.heap.size w w' := by
  have HL := Lib.hid hL
  have HV := Lib.hid hv
  clear hL
  unfold maxLen at _hm
  obtain ⟨ao, n, cap, rfl, -, -, -, -, -⟩ := hv
  by_cases h60 : 60 < m.size
  · have h6 : decide ((60 : Int) < (m.size : Int)) = true := by rw [decide_eq_true_eq]; omega
    have hlen0 : ∀ W : World, (Builtin.len_ #[9] 3 #[.string m]).run Tryd.prog W = .ok (.int .i64 (m.size : Int)) W := fun W => by simp [Builtin.len_, go_sem]
    go_enter Tryd.func4, Tryd.ntmps4
    go_wp2_with fail
    refine (wired_any _ HL.out).mono ?_
    rintro e w1 ⟨rfl, hb1⟩
    have HV1 := Lib.hid (HV.out.below hb1 (Nat.le_refl _))
    go_wp2_with fail
    refine (few_any _ ps _ HV1.out).mono ?_
    rintro e w2 ⟨f, rfl, hf, hb2⟩
    have hb02 : Below w.heap.size w w2 := hb1.trans (hb2.mono hb1.size)
    cases f with
    | false =>
      go_wp2_with fail
      go_ret
      exact ⟨rfl, hb02⟩
    | true =>
      go_wp2_with fail
      go_ret
      exact ⟨rfl, hb02⟩
  · have h6 : decide ((60 : Int) < (m.size : Int)) = false := by rw [decide_eq_false_iff_not]; omega
    have h6i : ¬ (60 : Int) < (m.size : Int) := by omega
    go_enter Tryd.func4, Tryd.ntmps4
    go_wp2_with fail
    refine (wired_any _ HL.out).mono ?_
    rintro e w1 ⟨rfl, hb1⟩
    have HV1 := Lib.hid (HV.out.below hb1 (Nat.le_refl _))
    go_wp2_with fail
    refine (few_any _ ps _ HV1.out).mono ?_
    rintro e w2 ⟨f, rfl, hf, hb2⟩
    have hb02 : Below w.heap.size w w2 := hb1.trans (hb2.mono hb1.size)
    cases f with
    | false =>
      go_wp2_with fail
      go_ret
      exact ⟨rfl, hb02⟩
    | true =>
      have hfew := hf.1 rfl
      have HV2 := Lib.hid (HV.out.below hb02 (Nat.le_refl _))
      have HL2 := Lib.hid (Leaves.next HL.out hb02)
      have HF := Lib.hid hfew
      have hlen := hfew.len
      clear hf hfew
      go_wp2_with fail
      refine (seal_good kind _ ps _ hk HV2.out HF.out.small (by omega) HL2.out).mono ?_
      rintro e w3 ⟨re, t, rfl, hre, hb3⟩
      have hb03 : Below w.heap.size w w3 := hb02.trans (hb3.mono hb02.size)
      rcases hre with ⟨hg, rfl, rfl⟩ | ⟨_, hre⟩
      · obtain ⟨hws, hwb⟩ := whole_size (kind := kind) hk hg
        have HWB := Lib.hid hwb
        have HG := Lib.hid hg
        have h1 := Vy.enc_len10 ps.length (by have := hg.1; omega)
        have hsz : (txt (wholeL kind ps)).size ≤ 50000 := by omega
        have hpos : 0 < (txt (wholeL kind ps)).size := by omega
        have HL3 := Lib.hid (Leaves.next HL.out hb03)
        clear hws hwb h1 hg
        generalize txt (wholeL kind ps) = T at *
        rw [errV_0]
        go_wp2_with fail
        refine (pick_any cut T.size _ hpos (by omega)).mono ?_
        rintro e w3a ⟨c, hc, rfl, rfl⟩
        have hci : (c : Int) < (T.size : Int) := by omega
        have hcx : (T.extract 0 c).size ≤ 50000 := by rw [ByteArray.size_extract]; omega
        obtain ⟨k1, qs1, re1, hO1⟩ := OP.exists (T.extract 0 c)
        have HO1 := Lib.hid hO1
        have HR1 := Lib.hid (cut_bad HWB.out HG.out (by omega) hc hO1)
        have hnn1 : errV re1 = .iface 53 (.int .i64 re1) := by unfold errV; rw [if_neg HR1.out]
        have HNN1 := Lib.hid hnn1
        clear hO1 hnn1
        go_wp2_with fail
        refine (open_any (T.extract 0 c) k1 qs1 re1 _ (by omega) HO1.out HL3.out).mono ?_
        rintro e w4 ⟨v4, rfl, -, hb4⟩
        have hb04 : Below w.heap.size w w4 := hb03.trans (hb4.mono hb03.size)
        have HL4 := Lib.hid (Leaves.next HL.out hb04)
        have htm : (T ++ m).size ≤ 60000 := by rw [ByteArray.size_append]; omega
        obtain ⟨k2, qs2, re2, hO2⟩ := OP.exists (T ++ m)
        have HO2 := Lib.hid hO2
        rw [HNN1.out]
        by_cases hm0 : m.size = 0
        · have hR2 := more_none HWB.out HG.out hm0 hO2
          subst hR2
          have hie : m.toList.isEmpty = true := by rw [isEmpty_size, decide_eq_true_eq]; exact hm0
          clear hO2
          go_wp2_with fail
          refine (open_any (T ++ m) k2 qs2 0 _ htm HO2.out HL4.out).mono ?_
          rintro e w5 ⟨v5, rfl, -, hb5⟩
          rw [errV_0]
          go_wp2_with fail
          go_ret
          exact ⟨rfl, hb04.trans (hb5.mono hb04.size)⟩
        · have hie : m.toList.isEmpty = false := by rw [isEmpty_size, decide_eq_false_iff_not]; exact hm0
          have hR2 := more_bad HWB.out HG.out htm (by omega) hO2
          have hnn2 : errV re2 = .iface 53 (.int .i64 re2) := by unfold errV; rw [if_neg hR2]
          have HNN2 := Lib.hid hnn2
          clear hO2 hnn2
          go_wp2_with fail
          refine (open_any (T ++ m) k2 qs2 re2 _ htm HO2.out HL4.out).mono ?_
          rintro e w5 ⟨v5, rfl, -, hb5⟩
          rw [HNN2.out]
          go_wp2_with fail
          go_ret
          exact ⟨rfl, hb04.trans (hb5.mono hb04.size)⟩
      · have hnn : errV re = .iface 53 (.int .i64 re) := by unfold errV; rw [if_neg (by omega)]
        rw [hnn]
        go_wp2_with fail
        go_ret
        exact ⟨rfl, hb03⟩
end Go.Proofs.YtdjhbepocleehabDoor
