/-
  The walks of package wire, second part: whether parts may be sealed.
-/
import Derived.Test.YtjdihgmngiplkaaDoorWireW1
import Derived.Test.YtjdihgmngiplkaaDoorVaryTx
import Derived.RegionTactic
import Derived.BigQuiet
namespace Go.Proofs.YtjdihgmngiplkaaDoor
open Go.RowKit

def pt (ps : List WPart) (i : Nat) : Nat := (ps.getD i (0, txt [])).1
def pb (ps : List WPart) (i : Nat) : ByteArray := (ps.getD i (0, txt [])).2
/-- Parts that stand in memory, as a slice. -/
def PartsAt (w : World) (v : Value) (ps : List WPart) : Prop :=
  ∃ ao n cap, v = .slice ao n cap ∧ n = ps.length ∧ n ≤ cap ∧ cap ≤ maxLen ∧
    (0 < n → ∃ b o, ao = some ⟨b, o, none⟩ ∧ b < w.heap.size ∧ ∀ i, i < n → w.cell? ⟨b, o + i * 2, none⟩ = some (.int .u8 (pt ps i : Int)) ∧ w.cell? ⟨b, o + i * 2 + 1, none⟩ = some (.string (pb ps i))) ∧
    ∀ p ∈ ps, p.1 < 256
theorem PartsAt.below {w w' : World} {v : Value} {l : List WPart} {B : Nat} (h : PartsAt w v l) (hb : Below B w w') (hB : w.heap.size ≤ B) : PartsAt w' v l := by
  obtain ⟨ao, n, cap, hv, hn, hc, hm, hx, hw⟩ := h
  refine ⟨ao, n, cap, hv, hn, hc, hm, fun h0 => ?_, hw⟩
  obtain ⟨b, o, h1, h2, h3⟩ := hx h0
  refine ⟨b, o, h1, Nat.lt_of_lt_of_le h2 hb.size, fun i hi => ?_⟩
  rw [hb.cell (p := ⟨b, o + i * 2, none⟩) (Nat.lt_of_lt_of_le h2 hB), hb.cell (p := ⟨b, o + i * 2 + 1, none⟩) (Nat.lt_of_lt_of_le h2 hB)]; exact h3 i hi
theorem pt_lt {ps : List WPart} (h : ∀ p ∈ ps, p.1 < 256) (i : Nat) : pt ps i < 256 := by
  unfold pt
  by_cases hi : i < ps.length
  · rw [List.getD_eq_getElem?_getD, List.getElem?_eq_getElem hi]; exact h _ (List.getElem_mem hi)
  · rw [List.getD_eq_getElem?_getD, List.getElem?_eq_none (by omega)]; decide

theorem below_drewN {B : Nat} {a w : World} (h : Below B a w) (n : Nat) : Below B a (w.drewN n) := ⟨h.os, h.tape, h.output, h.size, h.block⟩

/-- Part i may stand behind the one ahead of it. -/
def MayStand (ps : List WPart) (i : Nat) : Prop := 0 < i → pt ps (i - 1) < pt ps i

set_option maxRecDepth 100000 in
set_option maxHeartbeats 1600000 in
theorem mayStand_any (v : Value) (ps : List WPart) (i re : Nat) (w : World) (hv : PartsAt w v ps) (hi : i < ps.length) (hsz : (pb ps i).size ≤ 60000) (hre : (MayStand ps i ∧ re = 0) ∨ (¬ MayStand ps i ∧ re = 10)) :
    Calls Tryd.prog 95 #[v, .int .i64 i] w fun e w' => e = .returned (errV re) ∧ Below w.heap.size w w' := by
  obtain ⟨ao, n, cap, rfl, hn, hnc, hcm, hx, hwf⟩ := hv
  have hin : i < n := by omega
  obtain ⟨b, o, rfl, hbl, hcell⟩ := hx (by omega)
  have hc := hcell i hin
  have hszi : ¬ (60000 : Int) < ((pb ps i).size : Int) := by omega
  have htl := pt_lt hwf i
  by_cases h0 : i = 0
  · subst h0
    have hr : re = 0 := by
      rcases hre with h | h
      · exact h.2
      · exact absurd (fun h => absurd h (Nat.lt_irrefl _)) h.1
    subst hr
    rw [errV_0]
    clear hre hcell hwf htl hn
    generalize pt ps 0 = t at *
    generalize pb ps 0 = x at *
    have hc1 : w.cell? ⟨b, o, none⟩ = some (.int .u8 (t : Int)) := by simpa using hc.1
    have hc2 : w.cell? ⟨b, o + 1, none⟩ = some (.string x) := by simpa using hc.2
    have hg : decide ((0 : Int) < 0) = false := by decide
    clear hc hx
    go_enter Tryd.func95, Tryd.ntmps95
    go_wp2_with fail
    go_quiet (fail)
    go_wp2_with fail
    go_ret
    exact ⟨rfl, below_drewN (Below.refl _ _) _⟩
  · obtain ⟨j, rfl⟩ : ∃ j, i = j + 1 := ⟨i - 1, by omega⟩
    have hcj := hcell j (by omega)
    have htj := pt_lt hwf j
    have hMS : MayStand ps (j + 1) ↔ pt ps j < pt ps (j + 1) := ⟨fun h => h (by omega), fun h _ => h⟩
    rw [hMS] at hre
    clear hcell hwf hn hMS hx
    generalize pt ps (j + 1) = t at *
    generalize pb ps (j + 1) = x at *
    generalize pt ps j = t0 at *
    generalize pb ps j = x0 at *
    obtain ⟨hc1, hc2⟩ := hc
    obtain ⟨hd1, hd2⟩ := hcj
    have hi1 : (0 : Int) ≤ (j : Int) + 1 ∧ (j : Int) + 1 < (n : Int) := by omega
    have hi2 : (j : Int) + 1 < (n : Int) := by omega
    have hi3 : (j : Int) < (n : Int) := by omega
    have hi4 : (0 : Int) ≤ (j : Int) ∧ (j : Int) < (n : Int) := by omega
    have hw : IntKind.i64.wrap (j : Int) = (j : Int) := IntWalk.i64_in _ (by unfold maxLen at hcm; omega)
    have hg : decide ((0 : Int) < (j : Int) + 1) = true := by rw [decide_eq_true_eq]; omega
    go_enter Tryd.func95, Tryd.ntmps95
    go_wp2_with fail
    go_quiet (fail)
    rcases hre with ⟨h, rfl⟩ | ⟨h, rfl⟩
    · have hdec : decide (t ≤ t0) = false := by rw [decide_eq_false_iff_not]; omega
      go_wp2_with fail
      go_ret
      exact ⟨rfl, below_drewN (Below.refl _ _) _⟩
    · have hdec : decide (t ≤ t0) = true := by rw [decide_eq_true_eq]; omega
      go_wp2_with fail
      go_ret
      exact ⟨rfl, below_drewN (Below.refl _ _) _⟩

/-- The tags rise. -/
theorem rises_pt : ∀ {ps : List WPart} {last : Option Nat}, Rises last ps ↔ (∀ p ∈ ps, p.1 < 256) ∧ (∀ i, i < ps.length → MayStand ps i) ∧ (0 < ps.length → Above last (pt ps 0)) := by
  intro ps
  induction ps with
  | nil => intro last; exact ⟨fun _ => ⟨(fun p hp => by cases hp), (fun i hi => by cases hi), fun h => absurd h (Nat.lt_irrefl _)⟩, fun _ => trivial⟩
  | cons p ps ih =>
    intro last
    have hs : ∀ i, pt (p :: ps) (i + 1) = pt ps i := fun i => rfl
    have h0 : pt (p :: ps) 0 = p.1 := rfl
    constructor
    · rintro ⟨h1, h2, h3⟩
      obtain ⟨g1, g2, g3⟩ := ih.1 h3
      refine ⟨fun q hq => ?_, fun i hi => ?_, fun _ => h1⟩
      · rcases List.mem_cons.1 hq with rfl | hq
        · exact h2
        · exact g1 q hq
      · intro hpos
        obtain ⟨j, rfl⟩ : ∃ j, i = j + 1 := ⟨i - 1, by omega⟩
        rw [hs, Nat.add_sub_cancel]
        simp only [List.length_cons] at hi
        by_cases hj : j = 0
        · subst hj
          rw [h0]
          exact g3 (by omega) p.1 rfl
        · obtain ⟨m, rfl⟩ : ∃ m, j = m + 1 := ⟨j - 1, by omega⟩
          rw [hs]
          have := g2 (m + 1) (by omega) (by omega)
          simpa using this
    · rintro ⟨h1, h2, h3⟩
      refine ⟨h3 (by simp), h1 p (List.mem_cons_self ..), ih.2 ⟨fun q hq => h1 q (List.mem_cons_of_mem _ hq), fun i hi => ?_, fun hpos => ?_⟩⟩
      · intro hp
        have := h2 (i + 1) (by simpa using hi) (by omega)
        rw [hs, Nat.add_sub_cancel] at this
        obtain ⟨m, rfl⟩ : ∃ m, i = m + 1 := ⟨i - 1, by omega⟩
        rw [hs] at this
        simpa using this
      · intro x hx
        have := h2 1 (by simpa using hpos) (by omega)
        rw [show (1 : Nat) = 0 + 1 from rfl, hs, Nat.add_sub_cancel, h0] at this
        cases hx
        exact this

set_option maxRecDepth 100000 in
set_option maxHeartbeats 1600000 in
theorem mayBe_any (v : Value) (ps : List WPart) (w : World) (hv : PartsAt w v ps) (hsz : ∀ i, i < ps.length → (pb ps i).size ≤ 60000) :
    Calls Tryd.prog 64 #[v] w fun e w' => ∃ re, e = .returned (errV re) ∧ ((ps.length ≤ 40 ∧ (∀ i, i < ps.length → MayStand ps i) ∧ re = 0) ∨ (¬ (ps.length ≤ 40 ∧ ∀ i, i < ps.length → MayStand ps i) ∧ (re = 4 ∨ re = 10))) ∧ Below w.heap.size w w' := by
  have HV := Lib.hid hv
  obtain ⟨ao, n, cap, rfl, hn, hnc, hcm, -, -⟩ := hv
  unfold maxLen at hcm
  by_cases h40 : 40 < n
  · have h40i : (40 : Int) < (n : Int) := by omega
    go_enter Tryd.func64, Tryd.ntmps64
    go_wp2_with fail
    go_ret
    exact ⟨4, rfl, Or.inr ⟨fun h => by omega, Or.inl rfl⟩, Below.refl _ _⟩
  · have h40i : ¬ (40 : Int) < (n : Int) := by omega
    have HN := Lib.hid hn
    clear hn
    go_enter Tryd.func64, Tryd.ntmps64
    go_wp2_with fail
    go_loopw [11] (fun i wr => ∃ k : Nat, k ≤ n ∧ i = .int .i64 k ∧ (∀ j, j < k → MayStand ps j) ∧ Below w.heap.size w wr) (fun i _ => n - (intOf i).toNat)
    case atStart => exact ⟨0, by omega, rfl, fun j hj => by omega, Below.refl _ _⟩
    case round =>
      obtain ⟨k, hk, rfl, hall, hb⟩ := hrel
      have HA := Lib.hid hall
      clear hall
      by_cases hkn : k < n
      · have HVr := Lib.hid (HV.out.below hb (Nat.le_refl _))
        have hkl : k < ps.length := by rw [← HN.out]; exact hkn
        have hs1 := hsz k hkl
        by_cases hm : MayStand ps k
        · go_wp2_with fail
          refine (mayStand_any _ ps k 0 _ HVr.out hkl hs1 (Or.inl ⟨hm, rfl⟩)).mono ?_
          rintro e w2 ⟨rfl, hb2⟩
          rw [errV_0]
          go_wp2_with fail
          go_roundw
          case rel =>
            refine ⟨k + 1, by omega, by go_num, fun j hj => ?_, hb.trans (hb2.mono hb.size)⟩
            by_cases e : j = k
            · subst e; exact hm
            · exact HA.out j (by omega)
          case measure => simp [intOf]; omega
        · go_wp2_with fail
          refine (mayStand_any _ ps k 10 _ HVr.out hkl hs1 (Or.inr ⟨hm, rfl⟩)).mono ?_
          rintro e w2 ⟨rfl, hb2⟩
          rw [show errV 10 = .iface 26 (.int .i64 10) from rfl]
          go_wp2_with fail
          go_ret
          exact ⟨10, rfl, Or.inr ⟨fun h => hm (h.2 k hkl), Or.inr rfl⟩, hb.trans (hb2.mono hb.size)⟩
      · obtain rfl : k = n := by omega
        go_wp2_with fail
        go_ret
        exact ⟨0, rfl, Or.inl ⟨by have := HN.out; omega, fun i hi => HA.out i (by have := HN.out; omega), rfl⟩, hb⟩
end Go.Proofs.YtjdihgmngiplkaaDoor
