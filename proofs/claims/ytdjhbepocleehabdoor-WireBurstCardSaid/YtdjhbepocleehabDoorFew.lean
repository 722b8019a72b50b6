/-
  The walks of the laws' 'few' (and of slices.ContainsFunc and IndexFunc at it).
-/
import Derived.Test.YtdjhbepocleehabDoorWireW2
namespace Go.Proofs.YtdjhbepocleehabDoor
open Go.RowKit

set_option maxRecDepth 100000 in
set_option maxHeartbeats 1600000 in
theorem few1_any (t : Nat) (x : ByteArray) (w : World) :
    Calls Tryd.prog 12 #[.agg #[.int .u8 (t : Int), .string x]] w fun e w' => e = .returned (.bool (decide (200 < x.size))) ∧ Below w.heap.size w w' := by
  go_enter Tryd.func12, Tryd.ntmps12
  have hd : decide ((200 : Int) < (x.size : Int)) = decide (200 < x.size) := by
    rw [Bool.eq_iff_iff, decide_eq_true_eq, decide_eq_true_eq]; omega
  go_wp2_with fail
  go_ret
  exact ⟨by rw [← hd]; rfl, below_alloc2 w _⟩

set_option maxRecDepth 100000 in
set_option maxHeartbeats 1600000 in
theorem indexFunc_any (v : Value) (ps : List WPart) (w : World) (hv : PartsAt w v ps) :
    Calls Tryd.prog 23 #[v, .func (.func 12) #[] #[]] w fun e w' => ∃ r : Int, e = .returned (.int .i64 r) ∧ ((0 ≤ r ∧ ∃ i, i < ps.length ∧ 200 < (pb ps i).size) ∨ (r = -1 ∧ ∀ i, i < ps.length → (pb ps i).size ≤ 200)) ∧ Below w.heap.size w w' := by
  obtain ⟨ao, n, cap, rfl, hn, hnc, hcm, hx, hwf⟩ := hv
  unfold maxLen at hcm
  have HN := Lib.hid hn
  have HX := Lib.hid hx
  clear hn hx hwf
  go_enter Tryd.func23, Tryd.ntmps23
  go_wp2_with fail
  go_loopw [8] (fun i wr => ∃ k : Nat, k ≤ n ∧ i = .int .i64 k ∧ (∀ j, j < k → (pb ps j).size ≤ 200) ∧ Below w.heap.size w wr) (fun i _ => n - (intOf i).toNat)
  case atStart => exact ⟨0, Nat.zero_le _, rfl, fun j hj => by omega, Below.refl _ _⟩
  case round =>
    obtain ⟨k, hk, rfl, hall, hb⟩ := hrel
    have HA := Lib.hid hall
    clear hall
    by_cases hkn : k < n
    · obtain ⟨b, o, rfl, hbl, hcell⟩ := HX.out (by omega)
      obtain ⟨hc1, hc2⟩ := hcell k hkn
      rw [← hb.cell (p := ⟨b, o + k * 2, none⟩) hbl] at hc1
      rw [← hb.cell (p := ⟨b, o + k * 2 + 1, none⟩) hbl] at hc2
      have hkl : k < ps.length := by rw [← HN.out]; exact hkn
      clear hcell
      generalize hxe : pb ps k = x at *
      generalize pt ps k = t at *
      have HXE := Lib.hid hxe
      clear hxe
      go_wp2_with fail
      refine (few1_any t x _).mono ?_
      rintro e w2 ⟨rfl, hb2⟩
      by_cases h200 : 200 < x.size
      · have hd : decide (200 < x.size) = true := by rw [decide_eq_true_eq]; exact h200
        rw [hd]
        go_wp2_with fail
        go_ret
        exact ⟨(k : Int), rfl, Or.inl ⟨by omega, k, hkl, by rw [HXE.out]; exact h200⟩, hb.trans (hb2.mono hb.size)⟩
      · have hd : decide (200 < x.size) = false := by rw [decide_eq_false_iff_not]; exact h200
        rw [hd]
        go_wp2_with fail
        go_roundw
        case rel =>
          refine ⟨k + 1, by omega, by go_num, fun j hj => ?_, hb.trans (hb2.mono hb.size)⟩
          by_cases e : j = k
          · subst e; rw [HXE.out]; omega
          · exact HA.out j (by omega)
        case measure => simp [intOf]; omega
    · obtain rfl : k = n := by omega
      go_wp2_with fail
      go_ret
      exact ⟨-1, rfl, Or.inr ⟨rfl, fun i hi => HA.out i (by rw [HN.out]; exact hi)⟩, hb⟩

set_option maxRecDepth 100000 in
set_option maxHeartbeats 1600000 in
theorem containsFunc_any (v : Value) (ps : List WPart) (w : World) (hv : PartsAt w v ps) :
    Calls Tryd.prog 11 #[v, .func (.func 12) #[] #[]] w fun e w' => ∃ f : Bool, e = .returned (.bool f) ∧ (f = false ↔ ∀ i, i < ps.length → (pb ps i).size ≤ 200) ∧ Below w.heap.size w w' := by
  have HV := Lib.hid hv
  obtain ⟨ao, n, cap, rfl, -, -, -, -, -⟩ := hv
  go_enter Tryd.func11, Tryd.ntmps11
  go_wp2_with fail
  refine (indexFunc_any _ ps _ HV.out).mono ?_
  rintro e w1 ⟨r, rfl, hr, hb⟩
  rcases hr with ⟨h0, i, hi, hi2⟩ | ⟨rfl, hall⟩
  · have hd : decide ((0 : Int) ≤ r) = true := by rw [decide_eq_true_eq]; exact h0
    go_wp2_with fail
    go_ret
    exact ⟨true, by rw [← hd]; rfl, ⟨fun h => Bool.noConfusion h, fun h => by have := h i hi; omega⟩, hb⟩
  · go_wp2_with fail
    go_ret
    exact ⟨false, rfl, ⟨fun _ => hall, fun _ => rfl⟩, hb⟩

/-- Parts that are few and short. -/
def Few (ps : List WPart) : Prop := ps.length ≤ 45 ∧ ∀ i, i < ps.length → (pb ps i).size ≤ 200
set_option maxRecDepth 100000 in
set_option maxHeartbeats 1600000 in
theorem few_any (v : Value) (ps : List WPart) (w : World) (hv : PartsAt w v ps) :
    Calls Tryd.prog 6 #[v] w fun e w' => ∃ f : Bool, e = .returned (.bool f) ∧ (f = true ↔ Few ps) ∧ Below w.heap.size w w' := by
  have HV := Lib.hid hv
  obtain ⟨ao, n, cap, rfl, hn, -, -, -, -⟩ := hv
  by_cases h45 : n ≤ 45
  · have hd : decide ((n : Int) ≤ 45) = true := by rw [decide_eq_true_eq]; omega
    have hdi : (n : Int) ≤ 45 := by omega
    have HN := Lib.hid hn
    clear hn
    go_enter Tryd.func6, Tryd.ntmps6
    go_wp2_with fail
    refine (containsFunc_any _ ps _ HV.out).mono ?_
    rintro e w1 ⟨f, rfl, hf, hb⟩
    cases f with
    | true =>
      go_wp2_with fail
      go_ret
      exact ⟨false, rfl, ⟨fun h => Bool.noConfusion h, fun h => absurd (hf.2 h.2) (by decide)⟩, hb⟩
    | false =>
      have hall := hf.1 rfl
      go_wp2_with fail
      go_ret
      exact ⟨true, rfl, ⟨fun _ => ⟨by rw [← HN.out]; exact h45, hall⟩, fun _ => rfl⟩, hb⟩
  · have hd : decide ((n : Int) ≤ 45) = false := by rw [decide_eq_false_iff_not]; omega
    have hdi : ¬ (n : Int) ≤ 45 := by omega
    go_enter Tryd.func6, Tryd.ntmps6
    go_wp2_with fail
    go_ret
    exact Or.inl ⟨rfl, fun h => by have := h.1; omega, Below.refl _ _⟩
theorem Few.small {ps : List WPart} (h : Few ps) : Small ps := fun p hp => by
  obtain ⟨i, hi, rfl⟩ := List.mem_iff_getElem.1 hp
  have := h.2 i hi
  unfold pb at this
  rw [List.getD_eq_getElem?_getD, List.getElem?_eq_getElem hi] at this
  have : ps[i].2.size ≤ 200 := this
  omega
theorem Few.len {ps : List WPart} (h : Few ps) : (partsL ps).length ≤ 9675 := by
  have key : ∀ l : List WPart, (∀ p ∈ l, p.2.size ≤ 200) → (partsL l).length ≤ 215 * l.length := by
    intro l
    induction l with
    | nil => intro _; exact Nat.le_refl _
    | cons p l ih =>
      intro hl
      have h1 := ih fun q hq => hl q (List.mem_cons_of_mem _ hq)
      have h2 := hl p (List.mem_cons_self ..)
      have h3 := Vy.enc_len10 p.2.size (by omega)
      rw [partsL_cons, List.length_append, sealed_length, partL_length, List.length_cons]
      omega
  have hl : ∀ p ∈ ps, p.2.size ≤ 200 := fun p hp => by
    obtain ⟨i, hi, rfl⟩ := List.mem_iff_getElem.1 hp
    have := h.2 i hi
    unfold pb at this
    rw [List.getD_eq_getElem?_getD, List.getElem?_eq_getElem hi] at this
    exact this
  have := key ps hl
  have := h.1
  omega
end Go.Proofs.YtdjhbepocleehabDoor
