/-
  The walk of the law PipeMeets.
-/
import Derived.Test.YtpehmghnfbkaaaaPipeNE
import Derived.Deep.Cut
namespace Go.Proofs.Ytpehmghnfbkaaaa
open Go.RowKit Go.Maps Pp

set_option maxHeartbeats 1600000 in
theorem longD_any (w : World) (a : Option Addr) (n cap : Nat) (draw : Int) : Calls Try.prog 32 #[.agg #[.slice a n cap, .int .i64 draw]] w fun e w' => e = .returned (.bool (decide (8 < n))) ∧ Below w.heap.size w w' := by
  by_cases h : 8 < n
  · have h1 : (8 : Int) < (n : Int) := by omega
    have h2 : decide (8 < n) = true := decide_eq_true h
    go_enter Try.func32, Try.ntmps32
    go_wp2_with fail
    go_ret
    exact ⟨by simp [h], (Below.refl _ _).alloc (Nat.le_refl _) _⟩
  · have h1 : ¬ (8 : Int) < (n : Int) := by omega
    have h2 : decide (8 < n) = false := decide_eq_false h
    go_enter Try.func32, Try.ntmps32
    go_wp2_with fail
    go_ret
    exact ⟨by simp, (Below.refl _ _).alloc (Nat.le_refl _) _⟩

set_option maxRecDepth 100000 in
set_option maxHeartbeats 3200000 in
theorem indexD_any (w : World) {v : Value} {l : List De} (h : DealsAt w v l) (h40 : l.length ≤ 40) :
    Calls Try.prog 40 #[v, .func (.func 32) #[] #[]] w fun e w' => ∃ r : Int, e = .returned (.int .i64 r) ∧ (r < 0 → ∀ d ∈ l, d.talks.length ≤ 8) ∧ Below w.heap.size w w' := by
  obtain ⟨a, n, cap, rfl, hn, hc, hm, hx⟩ := h
  have hn40 : n ≤ 40 := by omega
  have HX := Lib.hid hx
  have HN := Lib.hid hn
  clear hx hn h40 hc hm
  go_enter Try.func40, Try.ntmps40
  go_wp2_with fail
  go_loopw [8] (fun i wr => ∃ k : Nat, k ≤ n ∧ i = .int .i64 k ∧ (∀ (j : Nat) d, j < k → l[j]? = some d → d.talks.length ≤ 8) ∧ Below w.heap.size w wr) (fun i _ => n - (intOf i).toNat)
  case atStart => exact ⟨0, Nat.zero_le _, rfl, fun j _ h => absurd h (Nat.not_lt_zero j), Below.refl _ _⟩
  case round =>
    obtain ⟨k, hk, rfl, hs, hb⟩ := hrel
    rename World => wr
    have HS := Lib.hid hs
    have HB := Lib.hid hb
    clear hs hb
    by_cases hkn : k < n
    · obtain ⟨b, o, rfl, hb, hd⟩ := HX.out (by omega)
      obtain ⟨d, hget⟩ : ∃ d, l[k]? = some d := ⟨_, List.getElem?_eq_getElem (by rw [← HN.out]; exact hkn)⟩
      obtain ⟨vt, e1, e2, ⟨at', m, ct, rfl, hm, _, _, _⟩, _⟩ := hd k d hget
      have g1 := (HB.out.cell (p := ⟨b, o + k * 2, none⟩) hb).trans e1
      have g2 := (HB.out.cell (p := ⟨b, o + k * 2 + 1, none⟩) hb).trans e2
      have hki : (0 : Int) ≤ (k : Int) ∧ (k : Int) < (n : Int) := by omega
      have HM := Lib.hid hm
      have HG := Lib.hid hget
      clear hd e1 e2 hb hm hget
      go_wp2_with fail
      refine (longD_any wr at' m ct d.draw).mono ?_
      rintro e w3 ⟨rfl, hb3⟩
      have HB3 := Lib.hid (HB.out.trans (hb3.mono HB.out.size))
      clear hb3
      by_cases h8 : 8 < m
      · have h9 : decide (8 < m) = true := decide_eq_true h8
        rw [h9]
        go_wp2_with fail
        go_ret
        exact ⟨_, rfl, fun h => by omega, HB3.out⟩
      · have h9 : decide (8 < m) = false := decide_eq_false h8
        rw [h9]
        have HNL := Lib.hid h8
        clear h8 h9
        go_wp2_with fail
        go_roundw
        case rel => exact ⟨k + 1, by omega, by go_num, fun j x hj hx => by
          by_cases e : j = k
          · subst e
            rw [HG.out] at hx
            cases hx
            have := HM.out
            have := HNL.out
            omega
          · exact HS.out j x (by omega) hx, HB3.out⟩
        case measure => simp [intOf]; omega
    · obtain rfl : k = n := by omega
      have hkk : ¬ (k : Int) < (k : Int) := by omega
      go_wp2_with fail
      go_ret
      exact ⟨_, rfl, fun _ x hx => by
        obtain ⟨j, hj⟩ := List.mem_iff_getElem?.1 hx
        exact HS.out j x (by have := (List.getElem?_eq_some_iff.1 hj).1; have := HN.out; omega) hj, HB.out⟩
theorem containsD_any (w : World) {v : Value} {l : List De} (h : DealsAt w v l) (h40 : l.length ≤ 40) :
    Calls Try.prog 31 #[v, .func (.func 32) #[] #[]] w fun e w' => ∃ b : Bool, e = .returned (.bool b) ∧ (b = false → ∀ d ∈ l, d.talks.length ≤ 8) ∧ Below w.heap.size w w' := by
  have HI := Lib.hid (indexD_any w h h40)
  clear h
  go_enter Try.func31, Try.ntmps31
  go_wp2_with fail
  refine HI.out.mono ?_
  rintro e w' ⟨r, rfl, hr, hb⟩
  have HR := Lib.hid hr
  have HB := Lib.hid hb
  clear hr hb
  go_wp2_with fail
  go_ret
  exact ⟨_, rfl, fun h => HR.out (by have := of_decide_eq_false h; omega), HB.out⟩
theorem fewD_any (w : World) {v1 v2 : Value} {sizes : List Int} {l : List De} (h1 : IntsAt w v1 sizes) (h2 : DealsAt w v2 l) : Calls Try.prog 16 #[v1, v2] w fun e w' => ∃ b : Bool, e = .returned (.bool b) ∧ (b = true → sizes.length ≤ 6 ∧ l.length ≤ 40 ∧ ∀ d ∈ l, d.talks.length ≤ 8) ∧ Below w.heap.size w w' := by
  have HD := Lib.hid h2
  obtain ⟨a1, n1, cap1, rfl, hn1, _, _, _⟩ := h1
  obtain ⟨a2, n2, cap2, rfl, hn2, _, _, _⟩ := h2
  have HN1 := Lib.hid hn1
  have HN2 := Lib.hid hn2
  clear hn1 hn2
  by_cases h6 : n1 ≤ 6
  · have h6i : (n1 : Int) ≤ 6 := by omega
    by_cases h40 : n2 ≤ 40
    · have h40i : (n2 : Int) ≤ 40 := by omega
      go_enter Try.func16, Try.ntmps16
      go_wp2_with fail
      refine (containsD_any w HD.out (by rw [← HN2.out]; exact h40)).mono ?_
      rintro e w' ⟨b, rfl, hr, hb⟩
      have HR := Lib.hid hr
      have HB := Lib.hid hb
      clear hr hb
      go_wp2_with fail
      go_ret
      refine ⟨_, rfl, fun h => ⟨by rw [← HN1.out]; exact h6, by rw [← HN2.out]; exact h40, HR.out (by simpa using h)⟩, HB.out⟩
    · have h40i : ¬ (n2 : Int) ≤ 40 := by omega
      go_enter Try.func16, Try.ntmps16
      go_wp2_with fail
      go_ret
      exact Or.inl ⟨rfl, Below.refl _ _⟩
  · have h6i : ¬ (n1 : Int) ≤ 6 := by omega
    go_enter Try.func16, Try.ntmps16
    go_wp2_with fail
    go_ret
    exact Or.inl ⟨rfl, Below.refl _ _⟩
theorem DealsAt.below {w w' : World} {v : Value} {l : List De} (h : DealsAt w v l) (hb : Below w.heap.size w w') : DealsAt w' v l := by
  obtain ⟨a, n, cap, hv, hn, hc, hm, hx⟩ := h
  refine ⟨a, n, cap, hv, hn, hc, hm, fun h0 => ?_⟩
  obtain ⟨b, o, h1, h2, h3⟩ := hx h0
  refine ⟨b, o, h1, Nat.lt_of_lt_of_le h2 hb.size, fun i d hd => ?_⟩
  obtain ⟨vt, e1, e2, e3, e5⟩ := h3 i d hd
  exact ⟨vt, (hb.cell (p := ⟨b, o + i * 2, none⟩) h2).trans e1, (hb.cell (p := ⟨b, o + i * 2 + 1, none⟩) h2).trans e2, e3.keeps (Keeps.of_new (S := fun _ => False) hb) (fun _ _ => id), e5⟩
theorem pipeMeets_any (v1 v2 : Value) (sizes : List Int) (l : List De) (w : World) (h1 : IntsAt w v1 sizes) (h2 : DealsAt w v2 l) :
    Calls Try.prog 6 #[v1, v2] w fun e w' => e = .returned (.bool true) ∧ Below w.heap.size w w' := by
  have H1 := Lib.hid h1
  have H2 := Lib.hid h2
  clear h1 h2
  go_enter Try.func6, Try.ntmps6
  go_wp2_with fail
  refine (piped_any w).mono ?_
  rintro e w1 ⟨rfl, hb1⟩
  have HB1 := Lib.hid hb1
  clear hb1
  go_wp2_with fail
  refine (fewD_any w1 (H1.out.below HB1.out) (H2.out.below HB1.out)).mono ?_
  rintro e w2 ⟨b, rfl, hb, hb2⟩
  have HB := Lib.hid hb
  have HB2 : Hid (Below w.heap.size w w2) := Lib.hid (HB1.out.trans (hb2.mono HB1.out.size))
  clear hb hb2
  cases b with
  | false =>
    go_wp2_with fail
    go_ret
    exact ⟨rfl, HB2.out⟩
  | true =>
    obtain ⟨q1, q2, q3⟩ := HB.out rfl
    have HD := Lib.hid (dealsM_any w2 (H1.out.below HB2.out) (H2.out.below HB2.out) q1 q2 q3)
    clear q1 q2 q3 HB
    go_wp2_with fail
    refine HD.out.mono ?_
    rintro e w3 ⟨rfl, hb3⟩
    have HB3 : Hid (Below w.heap.size w w3) := Lib.hid (HB2.out.trans (hb3.mono HB2.out.size))
    clear hb3
    go_wp2_with fail
    go_ret
    exact ⟨rfl, HB3.out⟩
end Go.Proofs.Ytpehmghnfbkaaaa
