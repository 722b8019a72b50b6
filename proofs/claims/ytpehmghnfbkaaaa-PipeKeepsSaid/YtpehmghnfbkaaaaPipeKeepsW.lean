/-
  The walk of the law PipeKeeps: nothing is lost in a channel, and nothing doubled; nobody waits for what could be done.
-/
import Derived.Test.YtpehmghnfbkaaaaPipeKM
import Derived.Test.YtpehmghnfbkaaaaBools
import Derived.Deep.Cut
import Derived.BigQuiet
import Derived.IntWalk
namespace Go.Proofs.Ytpehmghnfbkaaaa
open Go.RowKit Go.Maps Pp

set_option maxRecDepth 100000 in
set_option maxHeartbeats 12800000 in
theorem pipeKeeps_any (size : Int) (v : Value) (bs : List Bool) (w : World) (_ : -9223372036854775808 ≤ size) (_ : size ≤ 9223372036854775807) (hv : BoolsAt w v bs) :
    Calls Try.prog 4 #[.int .i64 size, v] w fun e w' => e = .returned (.bool true) ∧ Below w.heap.size w w' := by
  obtain ⟨ao, len, cap, rfl, hlen, hcap, hmax, hx⟩ := hv
  unfold maxLen at hmax
  have HX := Lib.hid hx
  clear hx hlen
  go_enter Try.func4, Try.ntmps4
  go_wp2_with fail
  refine (piped_any w).mono ?_
  rintro e w1 ⟨rfl, hb1⟩
  have HB1 := Lib.hid hb1
  clear hb1
  by_cases h80 : 80 < len
  · have h80i : (80 : Int) < (len : Int) := by omega
    go_wp2_with fail
    go_ret
    exact ⟨rfl, HB1.out⟩
  · have h80i : ¬ (80 : Int) < (len : Int) := by omega
    obtain ⟨ρ0, hl0⟩ := live_zero HB1.out 28
    have HL0 := Lib.hid hl0
    clear hl0
    go_wp2_with fail
    refine (pick_any size 9 _ (by decide) (by decide)).mono ?_
    rintro e w2 ⟨sz, hsz, rfl, rfl⟩
    go_wp2_with fail
    refine (live_make HL0.out sz (by omega) (by decide)).mono ?_
    rintro e w3 ⟨rfl, ⟨ρ3, h3, -⟩, -⟩
    rw [show ((Pp.zero.chs.length : Int) + 1) = 1 from rfl]
    have HJ0 : Hid (∃ ρ s, Live w w3 ρ w1.heap.size 0 s ∧ Fi sz s (sOf bs 0) ((sOf bs 0).map fun (x : Nat) => (x : Int)) (aOf bs 0) 0) := Lib.hid ⟨ρ3, _, h3, Fi.zero sz⟩
    clear h3 HL0 HB1
    go_wp2_with fail
    generalize w1.heap.size = pb at *
    go_loopw [8, 9, 10] (fun iv ov tv wr => ∃ T : Nat, T ≤ len ∧ tv = .int .i64 T ∧ iv = .int .i64 ((sOf bs T).length : Nat) ∧ ov = .int .i64 ((aOf bs T).length : Nat) ∧ ∃ ρ s, Live w wr ρ pb T s ∧ Fi sz s (sOf bs T) ((sOf bs T).map fun (x : Nat) => (x : Int)) (aOf bs T) T) (fun _ _ tv _ => len - (intOf tv).toNat)
    case atStart => exact ⟨0, Nat.zero_le _, rfl, rfl, rfl, HJ0.out⟩
    case round =>
      obtain ⟨T, hT, rfl, rfl, rfl, ρ, s, hlive, hfi⟩ := hrel
      have hal := aOf_len bs T
      have hsl := sOf_len bs T
      have HLIVE := Lib.hid hlive
      have HFI := Lib.hid hfi
      clear HJ0 hlive hfi
      by_cases hTl : T < len
      · obtain ⟨vb, vo, rfl, hvb, hcell⟩ := HX.out (by omega)
        have hct := hcell T hTl
        have hcr : wr.cell? ⟨vb, vo + T, none⟩ = some (.bool (bs.getD T false)) := (HLIVE.out.below.cell (p := ⟨vb, vo + T, none⟩) hvb).trans hct
        have hTi : (0 : Int) ≤ (T : Int) ∧ (T : Int) < (len : Int) := by omega
        have HWFT : Hid ((Lit.int .i64 (T : Int)).wf = true) := Lib.hid (wf_small _ (by omega))
        have HF1 : Hid (ρ wr.heap.size = .free) := Lib.hid (HLIVE.out.free (Or.inl (Nat.le_refl _)))
        have hal1 := aOf_len bs (T + 1)
        have hsl1 := sOf_len bs (T + 1)
        clear hct hcell hvb
        have hcr1 := Go.Lib.cell?_alloc_some (.cells #[.int .i64 10, .int .i64 1, .int .i64 0] 61) hcr
        cases hb : bs.getD T false with
        | true =>
          rw [hb] at hcr hcr1
          obtain ⟨hS, hA⟩ := sOf_true hb
          have HS := Lib.hid hS
          have HA := Lib.hid hA
          have hns : ((sOf bs T).length : Int) + 1 = (((sOf bs (T + 1)).length : Nat) : Int) := by rw [hS, List.length_append]; rfl
          have hna : (((aOf bs T).length : Nat) : Int) = (((aOf bs (T + 1)).length : Nat) : Int) := by rw [hA]
          have HNS := Lib.hid hns
          have HNA := Lib.hid hna
          clear hb hS hA hns hna
          obtain ⟨r0, htk, hfi2⟩ := HFI.out.anyS (T : Int)
          have HLIVE1 := Lib.hid ((HLIVE.out.new (alloc_new wr (.cells #[.int .i64 10, .int .i64 1, .int .i64 0] 61))).new (alloc_new _ (.cells #[.int .i64 3, .int .i64 1, .int .i64 (T : Nat)] 61)))
          have HF2 : Hid (ρ (wr.heap.size + 1) = .free) := Lib.hid (HLIVE.out.free (Or.inl (Nat.le_succ _)))
          have HTA := Lib.hid (talk_one (wr.alloc (.cells #[.int .i64 10, .int .i64 1, .int .i64 0] 61)) ⟨3, 1, (T : Int)⟩ 61 (b := wr.heap.size + 1) (by simp))
          have hfi2 : Fi sz r0.st (sOf bs (T + 1)) ((sOf bs (T + 1)).map fun (x : Nat) => (x : Int)) (aOf bs (T + 1)) (T + 1) := by rw [HS.out, HA.out, List.map_append]; exact hfi2
          go_wp2_with fail
          refine (rrecv_any wr 1).mono ?_
          rintro e w5 ⟨rfl, rfl⟩
          go_wp2_with fail
          refine (rsend_any _ 1 _).mono ?_
          rintro e w5 ⟨rfl, rfl⟩
          go_wp2_with fail
          refine (live_talk HLIVE1.out (by omega) T HWFT.out HTA.out (fun g hg => by cases hg; exact HF2.out) 0 (by decide) htk rfl).mono ?_
          rintro e w5 ⟨vw, rfl, ⟨ρ5, h5, -, -⟩, -, -⟩
          obtain ⟨c, hc1, hcn, hcs, hcr2⟩ := hfi2.lens
          have HFI2 := Lib.hid hfi2
          have HL5 := Lib.hid h5
          have HC1 := Lib.hid hc1
          clear h5 hfi2 htk hc1
          go_wp2_with fail
          refine (look_any HL5.out.pipes (by omega)).mono ?_
          rintro e w6 ⟨ag, k6, rfl, L, hm, hlk, hb6⟩
          rw [HC1.out] at hm hlk ⊢
          obtain ⟨g, a0, k0, a1, k1, a2, k2, rfl, hk6, d1, d3, d4⟩ := looked_one hlk hm
          have HL6 := Lib.hid (HL5.out.new (Keeps.of_new hb6))
          have HPL := Lib.hid (plen_one HL6.out HC1.out)
          clear hm hlk hb6
          obtain ⟨ns, hns⟩ : ∃ n, n = (sOf bs (T + 1)).length := ⟨_, rfl⟩
          obtain ⟨na, hna⟩ : ∃ n, n = (aOf bs (T + 1)).length := ⟨_, rfl⟩
          rw [HNS.out, HNA.out, ← hns, ← hna]
          rw [← hns, ← hna] at hcn hcs hcr2
          rw [← hns] at hsl1
          rw [← hna] at hal1
          have HE1 := Lib.hid hns
          have HE2 := Lib.hid hna
          clear hns hna
          generalize hpe : c.nums.length = p at *
          generalize hqe : c.sends.length = q at *
          generalize hre : c.recvs.length = r at *
          clear hpe hqe hre
          rw [show ([c] : List Ch).length = 1 from rfl]
          have hk6i : (0 : Int) ≤ (0 : Int) ∧ (0 : Int) < (1 : Int) := by decide
          have h1' : decide ((sz : Int) < (p : Int)) = false := decide_eq_false (by omega)
          have h2' : decide (sz < p) = false := decide_eq_false (by omega)
          have h3' : ¬ (sz : Int) < (p : Int) := by omega
          have hpq : p + q + na = ns + r := by omega
          have hpz : p ≤ 80 ∧ q ≤ 81 ∧ r ≤ 81 := by omega
          have hcase : (0 < q ∧ p = sz ∧ r = 0) ∨ (q = 0 ∧ 0 < r ∧ p = 0) ∨ (q = 0 ∧ r = 0) := by omega
          clear hcn hcs hcr2
          rcases hcase with ⟨hx1, hx2, hx3⟩ | ⟨hx1, hx2, hx3⟩ | ⟨hx1, hx2⟩
          · have f0a : decide ((0 : Int) < (q : Int)) = true := decide_eq_true (by omega)
            have f0b : decide (0 < q) = true := decide_eq_true (by omega)
            have f0c : (0 : Int) < (q : Int) := by omega
            have f0d : 0 < q := by omega
            have f1a : decide ((0 : Int) < (r : Int)) = false := decide_eq_false (by omega)
            have f1b : decide (0 < r) = false := decide_eq_false (by omega)
            have f1c : ¬ (0 : Int) < (r : Int) := by omega
            have f1d : ¬ 0 < r := by omega
            have g1 : decide ((p : Int) < (sz : Int)) = false := decide_eq_false (by omega)
            have g2 : decide (p < sz) = false := decide_eq_false (by omega)
            have g3 : ¬ (p : Int) < (sz : Int) := by omega
            have e1 : IntKind.i64.wrap ((ns : Int) - (na : Int)) = (ns : Int) - (na : Int) := IntWalk.i64_in _ (by omega)
            have e2 : IntKind.i64.wrap ((p : Int) + (q : Int)) = (p : Int) + (q : Int) := IntWalk.i64_in _ (by omega)
            have e3 : IntKind.i64.wrap ((p : Int) + (q : Int) - (r : Int)) = (ns : Int) - (na : Int) := by rw [IntWalk.i64_in _ (by omega)]; omega
            clear hpq hpz hx1 hx2 hx3
            go_wp2_with fail
            go_quiet (fail)
            go_wp2_with fail
            go_quiet (fail)
            go_wp2_with fail
            refine (HPL.out _).mono ?_
            rintro e w7 ⟨rfl, rfl⟩
            go_wp2_with fail
            go_roundw
            case rel => exact ⟨T + 1, by omega, by go_num, by rw [HE1.out], by rw [HE2.out], ρ5, r0.st, HL6.out.new (keeps_drewK _ _), HFI2.out⟩
            case measure => simp [intOf]; omega
          · have f0a : decide ((0 : Int) < (q : Int)) = false := decide_eq_false (by omega)
            have f0b : decide (0 < q) = false := decide_eq_false (by omega)
            have f0c : ¬ (0 : Int) < (q : Int) := by omega
            have f0d : ¬ 0 < q := by omega
            have f1a : decide ((0 : Int) < (r : Int)) = true := decide_eq_true (by omega)
            have f1b : decide (0 < r) = true := decide_eq_true (by omega)
            have f1c : (0 : Int) < (r : Int) := by omega
            have f1d : 0 < r := by omega
            have g1 : decide ((0 : Int) < (p : Int) + (q : Int)) = false := decide_eq_false (by omega)
            have g2 : decide (0 < p + q) = false := decide_eq_false (by omega)
            have g3 : ¬ (0 : Int) < (p : Int) + (q : Int) := by omega
            have e1 : IntKind.i64.wrap ((ns : Int) - (na : Int)) = (ns : Int) - (na : Int) := IntWalk.i64_in _ (by omega)
            have e2 : IntKind.i64.wrap ((p : Int) + (q : Int)) = (p : Int) + (q : Int) := IntWalk.i64_in _ (by omega)
            have e3 : IntKind.i64.wrap ((p : Int) + (q : Int) - (r : Int)) = (ns : Int) - (na : Int) := by rw [IntWalk.i64_in _ (by omega)]; omega
            clear hpq hpz hx1 hx2 hx3
            go_wp2_with fail
            go_quiet (fail)
            go_wp2_with fail
            go_quiet (fail)
            go_wp2_with fail
            refine (HPL.out _).mono ?_
            rintro e w7 ⟨rfl, rfl⟩
            go_wp2_with fail
            go_roundw
            case rel => exact ⟨T + 1, by omega, by go_num, by rw [HE1.out], by rw [HE2.out], ρ5, r0.st, HL6.out.new (keeps_drewK _ _), HFI2.out⟩
            case measure => simp [intOf]; omega
          · have f0a : decide ((0 : Int) < (q : Int)) = false := decide_eq_false (by omega)
            have f0b : decide (0 < q) = false := decide_eq_false (by omega)
            have f0c : ¬ (0 : Int) < (q : Int) := by omega
            have f0d : ¬ 0 < q := by omega
            have f1a : decide ((0 : Int) < (r : Int)) = false := decide_eq_false (by omega)
            have f1b : decide (0 < r) = false := decide_eq_false (by omega)
            have f1c : ¬ (0 : Int) < (r : Int) := by omega
            have f1d : ¬ 0 < r := by omega
            have e1 : IntKind.i64.wrap ((ns : Int) - (na : Int)) = (ns : Int) - (na : Int) := IntWalk.i64_in _ (by omega)
            have e2 : IntKind.i64.wrap ((p : Int) + (q : Int)) = (p : Int) + (q : Int) := IntWalk.i64_in _ (by omega)
            have e3 : IntKind.i64.wrap ((p : Int) + (q : Int) - (r : Int)) = (ns : Int) - (na : Int) := by rw [IntWalk.i64_in _ (by omega)]; omega
            clear hpq hpz hx1 hx2
            go_wp2_with fail
            go_quiet (fail)
            go_wp2_with fail
            go_quiet (fail)
            go_wp2_with fail
            refine (HPL.out _).mono ?_
            rintro e w7 ⟨rfl, rfl⟩
            go_wp2_with fail
            go_roundw
            case rel => exact ⟨T + 1, by omega, by go_num, by rw [HE1.out], by rw [HE2.out], ρ5, r0.st, HL6.out.new (keeps_drewK _ _), HFI2.out⟩
            case measure => simp [intOf]; omega
        | false =>
          rw [hb] at hcr hcr1
          obtain ⟨hS, hA⟩ := sOf_false hb
          have HS := Lib.hid hS
          have HA := Lib.hid hA
          have hna : ((aOf bs T).length : Int) + 1 = (((aOf bs (T + 1)).length : Nat) : Int) := by rw [hA, List.length_append]; rfl
          have hns : (((sOf bs T).length : Nat) : Int) = (((sOf bs (T + 1)).length : Nat) : Int) := by rw [hS]
          have HNS := Lib.hid hns
          have HNA := Lib.hid hna
          clear hb hS hA hns hna
          obtain ⟨r0, htk, hfi2⟩ := HFI.out.anyR
          have HLIVE1 := Lib.hid (HLIVE.out.new (alloc_new wr (.cells #[.int .i64 10, .int .i64 1, .int .i64 0] 61)))
          have HTA := Lib.hid (talk_one wr ⟨10, 1, 0⟩ 61 (b := wr.heap.size) rfl)
          have hfi2 : Fi sz r0.st (sOf bs (T + 1)) ((sOf bs (T + 1)).map fun (x : Nat) => (x : Int)) (aOf bs (T + 1)) (T + 1) := by rw [HS.out, HA.out]; exact hfi2
          go_wp2_with fail
          refine (rrecv_any wr 1).mono ?_
          rintro e w5 ⟨rfl, rfl⟩
          go_wp2_with fail
          refine (live_talk HLIVE1.out (by omega) T HWFT.out HTA.out (fun g hg => by cases hg; exact HF1.out) 0 (by decide) htk rfl).mono ?_
          rintro e w5 ⟨vw, rfl, ⟨ρ5, h5, -, -⟩, -, -⟩
          obtain ⟨c, hc1, hcn, hcs, hcr2⟩ := hfi2.lens
          have HFI2 := Lib.hid hfi2
          have HL5 := Lib.hid h5
          have HC1 := Lib.hid hc1
          clear h5 hfi2 htk hc1
          go_wp2_with fail
          refine (look_any HL5.out.pipes (by omega)).mono ?_
          rintro e w6 ⟨ag, k6, rfl, L, hm, hlk, hb6⟩
          rw [HC1.out] at hm hlk ⊢
          obtain ⟨g, a0, k0, a1, k1, a2, k2, rfl, hk6, d1, d3, d4⟩ := looked_one hlk hm
          have HL6 := Lib.hid (HL5.out.new (Keeps.of_new hb6))
          have HPL := Lib.hid (plen_one HL6.out HC1.out)
          clear hm hlk hb6
          obtain ⟨ns, hns⟩ : ∃ n, n = (sOf bs (T + 1)).length := ⟨_, rfl⟩
          obtain ⟨na, hna⟩ : ∃ n, n = (aOf bs (T + 1)).length := ⟨_, rfl⟩
          rw [HNS.out, HNA.out, ← hns, ← hna]
          rw [← hns, ← hna] at hcn hcs hcr2
          rw [← hns] at hsl1
          rw [← hna] at hal1
          have HE1 := Lib.hid hns
          have HE2 := Lib.hid hna
          clear hns hna
          generalize hpe : c.nums.length = p at *
          generalize hqe : c.sends.length = q at *
          generalize hre : c.recvs.length = r at *
          clear hpe hqe hre
          rw [show ([c] : List Ch).length = 1 from rfl]
          have hk6i : (0 : Int) ≤ (0 : Int) ∧ (0 : Int) < (1 : Int) := by decide
          have h1' : decide ((sz : Int) < (p : Int)) = false := decide_eq_false (by omega)
          have h2' : decide (sz < p) = false := decide_eq_false (by omega)
          have h3' : ¬ (sz : Int) < (p : Int) := by omega
          have hpq : p + q + na = ns + r := by omega
          have hpz : p ≤ 80 ∧ q ≤ 81 ∧ r ≤ 81 := by omega
          have hcase : (0 < q ∧ p = sz ∧ r = 0) ∨ (q = 0 ∧ 0 < r ∧ p = 0) ∨ (q = 0 ∧ r = 0) := by omega
          clear hcn hcs hcr2
          rcases hcase with ⟨hx1, hx2, hx3⟩ | ⟨hx1, hx2, hx3⟩ | ⟨hx1, hx2⟩
          · have f0a : decide ((0 : Int) < (q : Int)) = true := decide_eq_true (by omega)
            have f0b : decide (0 < q) = true := decide_eq_true (by omega)
            have f0c : (0 : Int) < (q : Int) := by omega
            have f0d : 0 < q := by omega
            have f1a : decide ((0 : Int) < (r : Int)) = false := decide_eq_false (by omega)
            have f1b : decide (0 < r) = false := decide_eq_false (by omega)
            have f1c : ¬ (0 : Int) < (r : Int) := by omega
            have f1d : ¬ 0 < r := by omega
            have g1 : decide ((p : Int) < (sz : Int)) = false := decide_eq_false (by omega)
            have g2 : decide (p < sz) = false := decide_eq_false (by omega)
            have g3 : ¬ (p : Int) < (sz : Int) := by omega
            have e1 : IntKind.i64.wrap ((ns : Int) - (na : Int)) = (ns : Int) - (na : Int) := IntWalk.i64_in _ (by omega)
            have e2 : IntKind.i64.wrap ((p : Int) + (q : Int)) = (p : Int) + (q : Int) := IntWalk.i64_in _ (by omega)
            have e3 : IntKind.i64.wrap ((p : Int) + (q : Int) - (r : Int)) = (ns : Int) - (na : Int) := by rw [IntWalk.i64_in _ (by omega)]; omega
            clear hpq hpz hx1 hx2 hx3
            go_wp2_with fail
            go_quiet (fail)
            go_wp2_with fail
            go_quiet (fail)
            go_wp2_with fail
            refine (HPL.out _).mono ?_
            rintro e w7 ⟨rfl, rfl⟩
            go_wp2_with fail
            go_roundw
            case rel => exact ⟨T + 1, by omega, by go_num, by rw [HE1.out], by rw [HE2.out], ρ5, r0.st, HL6.out.new (keeps_drewK _ _), HFI2.out⟩
            case measure => simp [intOf]; omega
          · have f0a : decide ((0 : Int) < (q : Int)) = false := decide_eq_false (by omega)
            have f0b : decide (0 < q) = false := decide_eq_false (by omega)
            have f0c : ¬ (0 : Int) < (q : Int) := by omega
            have f0d : ¬ 0 < q := by omega
            have f1a : decide ((0 : Int) < (r : Int)) = true := decide_eq_true (by omega)
            have f1b : decide (0 < r) = true := decide_eq_true (by omega)
            have f1c : (0 : Int) < (r : Int) := by omega
            have f1d : 0 < r := by omega
            have g1 : decide ((0 : Int) < (p : Int) + (q : Int)) = false := decide_eq_false (by omega)
            have g2 : decide (0 < p + q) = false := decide_eq_false (by omega)
            have g3 : ¬ (0 : Int) < (p : Int) + (q : Int) := by omega
            have e1 : IntKind.i64.wrap ((ns : Int) - (na : Int)) = (ns : Int) - (na : Int) := IntWalk.i64_in _ (by omega)
            have e2 : IntKind.i64.wrap ((p : Int) + (q : Int)) = (p : Int) + (q : Int) := IntWalk.i64_in _ (by omega)
            have e3 : IntKind.i64.wrap ((p : Int) + (q : Int) - (r : Int)) = (ns : Int) - (na : Int) := by rw [IntWalk.i64_in _ (by omega)]; omega
            clear hpq hpz hx1 hx2 hx3
            go_wp2_with fail
            go_quiet (fail)
            go_wp2_with fail
            go_quiet (fail)
            go_wp2_with fail
            refine (HPL.out _).mono ?_
            rintro e w7 ⟨rfl, rfl⟩
            go_wp2_with fail
            go_roundw
            case rel => exact ⟨T + 1, by omega, by go_num, by rw [HE1.out], by rw [HE2.out], ρ5, r0.st, HL6.out.new (keeps_drewK _ _), HFI2.out⟩
            case measure => simp [intOf]; omega
          · have f0a : decide ((0 : Int) < (q : Int)) = false := decide_eq_false (by omega)
            have f0b : decide (0 < q) = false := decide_eq_false (by omega)
            have f0c : ¬ (0 : Int) < (q : Int) := by omega
            have f0d : ¬ 0 < q := by omega
            have f1a : decide ((0 : Int) < (r : Int)) = false := decide_eq_false (by omega)
            have f1b : decide (0 < r) = false := decide_eq_false (by omega)
            have f1c : ¬ (0 : Int) < (r : Int) := by omega
            have f1d : ¬ 0 < r := by omega
            have e1 : IntKind.i64.wrap ((ns : Int) - (na : Int)) = (ns : Int) - (na : Int) := IntWalk.i64_in _ (by omega)
            have e2 : IntKind.i64.wrap ((p : Int) + (q : Int)) = (p : Int) + (q : Int) := IntWalk.i64_in _ (by omega)
            have e3 : IntKind.i64.wrap ((p : Int) + (q : Int) - (r : Int)) = (ns : Int) - (na : Int) := by rw [IntWalk.i64_in _ (by omega)]; omega
            clear hpq hpz hx1 hx2
            go_wp2_with fail
            go_quiet (fail)
            go_wp2_with fail
            go_quiet (fail)
            go_wp2_with fail
            refine (HPL.out _).mono ?_
            rintro e w7 ⟨rfl, rfl⟩
            go_wp2_with fail
            go_roundw
            case rel => exact ⟨T + 1, by omega, by go_num, by rw [HE1.out], by rw [HE2.out], ρ5, r0.st, HL6.out.new (keeps_drewK _ _), HFI2.out⟩
            case measure => simp [intOf]; omega
      · obtain rfl : T = len := by omega
        have hkk : ¬ (T : Int) < (T : Int) := by omega
        go_wp2_with fail
        go_ret
        exact ⟨rfl, HLIVE.out.below⟩
end Go.Proofs.Ytpehmghnfbkaaaa
