/-
  The walks of the reference's sum, third part: divided.
-/
import Derived.Test.YtdjhbepocleehaaDoorRefSum2
import Derived.Test.YtdjhbepocleehaaDoorSumG
namespace Go.Proofs.YtdjhbepocleehaaDoor
open Go.RowKit

def DivEnd (n N0 : Nat) (w : World) (e : Ending) (w' : World) : Prop := e = .returned (.int .u32 (Crc.steps n N0 : Nat)) ∧ Below w.heap.size w w'
/-- What the two appends leave: the bits and 32 zeros, in a row of the call's own. -/
theorem copied (v : Value) (n base : Nat) (bits : List Bool) (w : World) (hown : w.ownsRow base 4 1 v n (bits.map Value.bool)) (hn : n ≤ 100000) :
    ∃ v1 w1 v2 w2, (Builtin.append_ #[95, 95] 95 #[.slice none 0 0, v]).run Tryd.prog w = .ok v1 w1 ∧
      (Builtin.append_ #[95, 3] 95 #[v1, .int .i64 32]).run Tryd.prog w1 = .ok v2 w2 ∧
      w2.ownsRow w.heap.size 4 1 v2 (n + 32) ((bits ++ List.replicate 32 false).map Value.bool) ∧ Below w.heap.size w w2 := by
  obtain ⟨i0, hi, hz0, hz1, hz2⟩ := info_parts info_bool
  have hnil : w.ownsRow w.heap.size 4 1 (.slice none 0 0) 0 [] := World.ownsRow_nil _ _ _ _
  have h1 : ∃ v1 w1, (Builtin.append_ #[95, 95] 95 #[.slice none 0 0, v]).run Tryd.prog w = .ok v1 w1 ∧ w1.ownsRow w.heap.size 4 1 v1 n (bits.map Value.bool) ∧ Below w.heap.size w w1 := by
    have hlen := hown.1
    rcases hown.2 with ⟨rfl, rfl⟩ | ⟨g, cap, cur, rfl, _⟩
    · refine ⟨_, _, run_append_owned_none (P := Tryd.prog) (w := w) w.heap.size 95 95 4 i0 1 Tryd.underlying95 hi _ 0 [] hnil, ?_, Below.refl _ _⟩
      have : bits.map Value.bool = [] := List.eq_nil_of_length_eq_zero (by simpa using hlen)
      rw [this]; exact hnil
    · obtain ⟨v', w', hr, ho, hg, _⟩ := run_append_own (P := Tryd.prog) w w.heap.size 95 95 4 i0 (.bool false) 1 1 Tryd.underlying95 hi hz0 hz1 hz2 rfl (by decide) _ 0 [] hnil ⟨g, 0, none⟩ n cap (bits.map Value.bool) hlen (hown.cells (g := g) rfl) (fun u hu => by obtain ⟨b, _, rfl⟩ := List.mem_map.1 hu; rfl) (by unfold maxLen; omega) (by omega) (Nat.le_refl _)
      exact ⟨v', w', hr, by simpa using ho, (Below.refl _ _).grown hg (Nat.le_refl _) (fun k hk => by cases hk)⟩
  obtain ⟨v1, w1, hr1, ho1, hb1⟩ := h1
  obtain ⟨v2, w2, hr2, ho2, hg2⟩ := run_append_own_zeros (P := Tryd.prog) w1 w.heap.size 95 3 95 4 i0 (.bool false) .i64 Tryd.underlying95 Tryd.underlying3 hi hz0 hz1 (by omega) rfl rfl v1 n _ ho1 32 (by omega) (by omega) hb1.size
  exact ⟨v1, w1, v2, w2, hr1, hr2, by rw [List.map_append, List.map_replicate]; exact ho2, hb1.grown hg2 hb1.size (ownsRow_ge ho1)⟩

/-- The row of bits in the midst of the division: its number. -/
def ST (w : World) (g m X : Nat) (wr : World) (l : List Bool) : Prop := RowB wr g l ∧ l.length = m ∧ leB l = X ∧ Below w.heap.size w wr
theorem ST.flip {w : World} {g m X : Nat} {wr : World} {l : List Bool} (h : ST w g m X wr l) (i : Nat) (hi : i < m) (hg : w.heap.size ≤ g) :
    ST w g m (X ^^^ 2 ^ i) (wr.setCell ⟨g, i, none⟩ (.bool (!l.getD i false))) (l.set i (!l.getD i false)) :=
  ⟨h.1.set _ _, by rw [List.length_set, h.2.1], by rw [leB_set l i (by rw [h.2.1]; exact hi), h.2.2.1], h.2.2.2.setCell hg _⟩
theorem ST.cell {w : World} {g m X : Nat} {wr : World} {l : List Bool} (h : ST w g m X wr l) (i : Nat) (hi : i < m) :
    wr.cell? ⟨g, i, none⟩ = some (.bool (l.getD i false)) ∧ wr.frozen? ⟨g, i, none⟩ = false := h.1 i (by rw [h.2.1]; exact hi)
theorem ST.bit {w : World} {g m X : Nat} {wr : World} {l : List Bool} (h : ST w g m X wr l) (i : Nat) : l.getD i false = X.testBit i := by rw [← leB_testBit, h.2.2.1]
theorem ST.alloc {w : World} {g m X : Nat} {wr : World} {l : List Bool} (h : ST w g m X wr l) (hg : g < wr.heap.size) (o : Obj) : ST w g m X (wr.alloc o) l :=
  ⟨fun j hj => ⟨(World.cell?_of_block (w := wr) (w' := wr.alloc o) (a := ⟨g, j, none⟩) (heap_alloc_old _ _ hg)).trans (h.1 j hj).1, (World.frozen?_of_block (w := wr) (w' := wr.alloc o) (a := ⟨g, j, none⟩) (heap_alloc_old _ _ hg)).trans (h.1 j hj).2⟩, h.2.1, h.2.2.1, h.2.2.2.alloc h.2.2.2.size _⟩
theorem ST.to {w : World} {g m X Y : Nat} {wr : World} {l : List Bool} (h : ST w g m X wr l) (e : X = Y) : ST w g m Y wr l := e ▸ h
/-- The powers, at a block's head. -/
def RowP (w : World) (b : Nat) : Prop := ∀ k : Nat, k < 15 → w.cell? ⟨b, k, none⟩ = some (.int .i64 ((PL.getD k 0 : Nat) : Int))
theorem rowP_new (w : World) : RowP (w.alloc (.cells #[Value.int IntKind.i64 0, Value.int IntKind.i64 1, Value.int IntKind.i64 2, Value.int IntKind.i64 4, Value.int IntKind.i64 5, Value.int IntKind.i64 7, Value.int IntKind.i64 8, Value.int IntKind.i64 10, Value.int IntKind.i64 11, Value.int IntKind.i64 12, Value.int IntKind.i64 16, Value.int IntKind.i64 22, Value.int IntKind.i64 23, Value.int IntKind.i64 26, Value.int IntKind.i64 32] 3)) w.heap.size := fun k hk => by
  rw [cell_of_row _ _ _ _ _ _ (heap_alloc_new _ _)]
  match k, hk with
  | 0, _ => rfl
  | 1, _ => rfl
  | 2, _ => rfl
  | 3, _ => rfl
  | 4, _ => rfl
  | 5, _ => rfl
  | 6, _ => rfl
  | 7, _ => rfl
  | 8, _ => rfl
  | 9, _ => rfl
  | 10, _ => rfl
  | 11, _ => rfl
  | 12, _ => rfl
  | 13, _ => rfl
  | 14, _ => rfl
theorem RowP.set {w : World} {b g i : Nat} {v : Value} (h : RowP w b) (hg : g ≠ b) : RowP (w.setCell ⟨g, i, none⟩ v) b := fun k hk => by
  rw [World.cell?_setCell_other _ _ _ _ (by intro e; cases e; exact hg rfl)]; exact h k hk

theorem or_pow (a i : Nat) (h : a < 2 ^ i) : a ||| 2 ^ i = a ^^^ 2 ^ i := by
  apply Nat.eq_of_testBit_eq
  intro j
  rw [Nat.testBit_or, Nat.testBit_xor, Nat.testBit_two_pow]
  by_cases e : i = j
  · subst e; rw [Nat.testBit_lt_two_pow h]; simp
  · simp [e]
theorem or32_pow (S i : Nat) (hi : i < 32) (hb : S / 2 ^ i % 2 = 1) : bits .or .u32 ((S % 2 ^ i : Nat) : Int) ((2 : Int) ^ i % 4294967296) = ((S % 2 ^ (i + 1) : Nat) : Int) := by
  have hp := pow_lt i hi
  have hm : S % 2 ^ i < 2 ^ i := Nat.mod_lt _ (Nat.two_pow_pos i)
  rw [pow_mod i hi, u32_or_nat _ _ (by omega) (by omega), or_pow _ _ hm, Crc.mod_bit1 S i hb]
theorem S_lt {w : World} {g n S : Nat} {wr : World} {l : List Bool} (h : ST w g (n + 32) (2 ^ n * S) wr l) : S < 2 ^ 32 := by
  have h1 := leB_lt l
  rw [h.2.1, h.2.2.1, Nat.pow_add] at h1
  exact Nat.lt_of_mul_lt_mul_left h1

set_option maxRecDepth 100000 in
set_option maxHeartbeats 1600000 in
theorem divided_any (v : Value) (n c base : Nat) (bl : List Bool) (w : World) (hown : w.ownsRow base 4 1 v n (bl.map Value.bool)) (hn : n ≤ 100000) (hc : c < 2 ^ 32) :
    Calls Tryd.prog 52 #[v, .int .u32 c] w (DivEnd n (leB bl ^^^ c) w) := by
  have hlen : bl.length = n := by simpa using hown.1
  obtain ⟨v1, w1, v2, w2, hr1, hr2, ho2, hb2⟩ := copied v n base bl w hown hn
  obtain ⟨g, cap, rfl, hwg, hgl, hrow, hlen2, hcap⟩ := RowB.ofOwns ho2 (by omega)
  have HN : Hid (leB (bl ++ List.replicate 32 false) = leB bl) := Lib.hid (by rw [leB_append, leB_zeros]; omega)
  generalize bl ++ List.replicate 32 false = l0 at *
  have HR := Lib.hid hrow
  clear hown ho2 hrow
  have HL := Lib.hid hlen2
  have HLB := Lib.hid hlen
  clear hlen hlen2
  go_enter Tryd.func52, Tryd.ntmps52
  go_wp2_with (first | (at_builtin; refine Lib.wpList_append_run _ rfl _ _ _ _ rfl _ _ rfl rfl _ _ hr1 ?_) | (at_builtin; refine Lib.wpList_append_run _ rfl _ _ _ _ rfl _ _ rfl rfl _ _ hr2 ?_))
  clear hr1 hr2
  have hg2 : g < w2.heap.size := hgl
  have HS0 := Lib.hid (show ST w g (n + 32) (leB bl ^^^ (c % 2 ^ 0)) w2 l0 from ⟨HR.out, HL.out, by rw [HN.out, Nat.pow_zero, Nat.mod_one, Nat.xor_zero], hb2⟩)
  clear hb2
  go_loopw [5] (fun i wr => ∃ (j : Nat) (l : List Bool), j ≤ 32 ∧ i = .int .i64 j ∧ ST w g (n + 32) (leB bl ^^^ (c % 2 ^ j)) wr l ∧ g < wr.heap.size) (fun i _ => 32 - (intOf i).toNat)
  case atStart => exact ⟨0, l0, by omega, rfl, HS0.out, hg2⟩
  case round =>
    obtain ⟨j, l, hj, rfl, hst, hgr⟩ := hrel
    have HST := Lib.hid hst
    clear hst
    by_cases hlt : j < 32
    · have h1 := and1 c j hc
      rcases Nat.mod_two_eq_zero_or_one (c / 2 ^ j) with hbit | hbit
      · have HS := Lib.hid (HST.out.to (by rw [Crc.mod_bit0 c j hbit] : _ = leB bl ^^^ (c % 2 ^ (j + 1))))
        have ht : (bits BinOp.and IntKind.u32 ((c : Int) / 2 ^ j) 1 == 1) = false := by rw [h1, hbit]; rfl
        clear h1 hbit
        go_wp2_with fail
        go_roundw
        case rel => exact ⟨j + 1, l, by omega, by go_num, HS.out, hgr⟩
        case measure => simp [intOf]; omega
      · have HS := Lib.hid ((HST.out.flip j (by omega) hwg).to (by rw [Crc.mod_bit1 c j hbit, Nat.xor_assoc] : _ = leB bl ^^^ (c % 2 ^ (j + 1))))
        have ht : (bits BinOp.and IntKind.u32 ((c : Int) / 2 ^ j) 1 == 1) = true := by rw [h1, hbit]; rfl
        obtain ⟨hcell, hfr⟩ := HST.out.cell j (by omega)
        clear h1 hbit
        generalize l.getD j false = x at *
        go_wp2_with fail
        go_roundw
        case rel => exact ⟨j + 1, _, by omega, by go_num, HS.out, by simpa using hgr⟩
        case measure => simp [intOf]; omega
    · have HS := Lib.hid (HST.out.to (by rw [show j = 32 by omega, Nat.mod_eq_of_lt hc] : _ = leB bl ^^^ c))
      clear HST HS0
      generalize leB bl ^^^ c = N0 at *
      go_wp2_with fail
      have hpb : ST w g (n + 32) (2 ^ 0 * Crc.steps 0 N0) (wr.alloc (.cells #[Value.int IntKind.i64 0, Value.int IntKind.i64 1, Value.int IntKind.i64 2, Value.int IntKind.i64 4, Value.int IntKind.i64 5, Value.int IntKind.i64 7, Value.int IntKind.i64 8, Value.int IntKind.i64 10, Value.int IntKind.i64 11, Value.int IntKind.i64 12, Value.int IntKind.i64 16, Value.int IntKind.i64 22, Value.int IntKind.i64 23, Value.int IntKind.i64 26, Value.int IntKind.i64 32] 3)) l :=
        (HS.out.alloc hgr _).to (by simp [Crc.steps])
      have HPB := Lib.hid hpb
      have HRP := Lib.hid (rowP_new wr)
      have hgp : g ≠ wr.heap.size := Nat.ne_of_lt hgr
      clear hpb HS
      generalize wr.heap.size = pb at *
      generalize wr.alloc _ = wa at *
      go_loopw [7] (fun i wq => ∃ (k : Nat) (l : List Bool), k ≤ n ∧ i = .int .i64 k ∧ ST w g (n + 32) (2 ^ k * Crc.steps k N0) wq l ∧ RowP wq pb) (fun i _ => n - (intOf i).toNat)
      case atStart => exact ⟨0, l, by omega, rfl, HPB.out, HRP.out⟩
      case round =>
        obtain ⟨k, l2, hk, rfl, hst2, hrp2⟩ := hrel
        have HST2 := Lib.hid hst2
        have HRP2 := Lib.hid hrp2
        clear hst2 hrp2 HPB HRP
        by_cases hkn : k < n
        · obtain ⟨hcell, hfr⟩ := HST2.out.cell k (by omega)
          rw [HST2.out.bit k, Nat.testBit_two_pow_mul, decide_eq_true (Nat.le_refl k), Nat.sub_self, Bool.true_and] at hcell
          have HSN := Lib.hid (steps_snoc k N0)
          generalize Crc.steps k N0 = S at *
          rcases Nat.mod_two_eq_zero_or_one S with hS | hS
          · have e0 : S.testBit 0 = false := by simp [hS]
            rw [e0] at hcell
            have HE := Lib.hid ((HST2.out.to (div_even k S hS)).to (by rw [← HSN.out]))
            clear hS e0
            go_wp2_with fail
            go_roundw
            case rel => exact ⟨k + 1, _, by omega, by go_num, HE.out, HRP2.out⟩
            case measure => simp [intOf]; omega
          · have e0 : S.testBit 0 = true := by simp [hS]
            rw [e0] at hcell
            have HD := Lib.hid (div_odd k S hS)
            clear hS e0
            go_wp2_with fail
            obtain ⟨wo, hwo⟩ : ∃ wo : World, wo = wr := ⟨_, rfl⟩
            clear hwo
            have HI := Lib.hid (HST2.out.to (by rw [show qk 0 = 0 from rfl, Nat.mul_zero, Nat.xor_zero] : _ = 2 ^ k * S ^^^ 2 ^ k * qk 0))
            go_loopw [47] (fun i wq => ∃ (m : Nat) (l : List Bool), m ≤ 15 ∧ i = .int .i64 m ∧ ST w g (n + 32) (2 ^ k * S ^^^ 2 ^ k * qk m) wq l ∧ RowP wq pb) (fun i _ => 15 - (intOf i).toNat)
            case atStart => exact ⟨0, l2, by omega, rfl, HI.out, HRP2.out⟩
            case round =>
              obtain ⟨m, l3, hm, rfl, hst3, hrp3⟩ := hrel
              have HST3 := Lib.hid hst3
              have HRP3 := Lib.hid hrp3
              clear hst3 hrp3 HI HST2 HRP2 hcell hfr
              by_cases hm15 : m < 15
              · have hp := HRP3.out m hm15
                have hp32 := PL_le m hm15
                have HQ := Lib.hid (qk_succ m hm15)
                generalize PL.getD m 0 = p at *
                obtain ⟨hcell, hfr⟩ := HST3.out.cell (k + 32 - p) (by omega)
                have HF := Lib.hid ((HST3.out.flip (k + 32 - p) (by omega) hwg).to (by rw [HQ.out, mulx, Nat.xor_assoc, ← Nat.pow_add, show k + (32 - p) = k + 32 - p by omega] : _ = 2 ^ k * S ^^^ 2 ^ k * qk (m + 1)))
                have HRF := Lib.hid (HRP3.out.set (i := k + 32 - p) (v := .bool (!l3.getD (k + 32 - p) false)) hgp)
                generalize l3.getD (k + 32 - p) false = x at *
                go_wp2_with fail
                go_roundw
                case rel => exact ⟨m + 1, _, by omega, by go_num, HF.out, HRF.out⟩
                case measure => simp [intOf]; omega
              · have HE := Lib.hid ((HST3.out.to (by rw [show m = 15 by omega] : _ = 2 ^ k * S ^^^ 2 ^ k * qk 15)).to (by rw [HD.out, ← HSN.out] : _ = 2 ^ (k + 1) * Crc.steps (k + 1) N0))
                go_wp2_with fail
                go_roundw
                case rel => exact ⟨k + 1, _, by omega, by go_num, HE.out, HRP3.out⟩
                case measure => simp [intOf]; omega
        · have HE := Lib.hid (HST2.out.to (by rw [show k = n by omega] : _ = 2 ^ n * Crc.steps n N0))
          have hS := S_lt HE.out
          have hbel := HE.out.2.2.2
          have HQ := Lib.hid (rfl : Crc.steps n N0 = Crc.steps n N0)
          clear HST2
          go_wp2_with fail
          generalize hSe : Crc.steps n N0 = S at HE hS
          have HSE := Lib.hid hSe
          clear hSe HQ
          go_loop [10, 72] (fun o i => ∃ m : Nat, m ≤ 32 ∧ i = .int .i64 m ∧ o = .int .u32 (S % 2 ^ m : Nat)) (fun _ i => 32 - (intOf i).toNat)
          case atStart => exact ⟨0, by omega, rfl, by rw [Nat.pow_zero, Nat.mod_one]; rfl⟩
          case round =>
            obtain ⟨m, hm, rfl, rfl⟩ := hrel
            by_cases hm32 : m < 32
            · have hcell := (HE.out.cell (n + m) (by omega)).1
              rw [HE.out.bit (n + m), Nat.testBit_two_pow_mul, decide_eq_true (Nat.le_add_right n m), Nat.add_sub_cancel_left, Bool.true_and] at hcell
              rcases Nat.mod_two_eq_zero_or_one (S / 2 ^ m) with hb | hb
              · have e0 : S.testBit m = false := by rw [Nat.testBit_eq_decide_div_mod_eq, hb]; rfl
                rw [e0] at hcell
                have HM := Lib.hid (Crc.mod_bit0 S m hb)
                clear hb e0
                go_wp2_with fail
                go_round
                case rel => exact ⟨m + 1, by omega, by go_num, by rw [HM.out]⟩
                case measure => simp [intOf]; omega
              · have e0 : S.testBit m = true := by rw [Nat.testBit_eq_decide_div_mod_eq, hb]; rfl
                rw [e0] at hcell
                have HOR := Lib.hid (or32_pow S m hm32 hb)
                clear hb e0
                go_wp2_with fail
                go_round
                case rel => exact ⟨m + 1, by omega, by go_num, by rw [← HOR.out]; push_cast; rfl⟩
                case measure => simp [intOf]; omega
            · have HM : Hid (S % 2 ^ m = Crc.steps n N0) := Lib.hid (by rw [show m = 32 by omega, Nat.mod_eq_of_lt hS, HSE.out])
              go_wp2_with fail
              go_ret
              exact ⟨ret_u32 HM.out, hbel⟩
end Go.Proofs.YtdjhbepocleehaaDoor
