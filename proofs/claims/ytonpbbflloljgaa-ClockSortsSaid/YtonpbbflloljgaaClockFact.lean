/-
  The walk of the laws' fact 'clocked': three times come in their order.
-/
import Derived.Test.YtonpbbflloljgaaClocked
namespace Go.Proofs.Ytonpbbflloljgaa
open Go.RowKit Go.Maps

theorem notIn_of {l m : List Hp.E} {id : Int} (h : l.Perm m) (hm : ∀ e ∈ m, e.2 ≠ id) : ¬ IdIn l id := fun hi => by
  obtain ⟨e, he, h2⟩ := idIn_iff.1 hi
  exact hm e (h.mem_iff.1 he) h2
theorem SetR.done {now t id : Int} {l l' : List Hp.E} {r : Value} (h : SetR now l t id r l') (ht : now ≤ t) (hn : ¬ IdIn l id) : r = .nilIface ∧ l'.Perm (l ++ [(t, id)]) := by
  rcases h with ⟨h1, _⟩ | ⟨_, h1, _⟩ | ⟨_, _, h1, h2⟩
  · omega
  · exact absurd h1 hn
  · exact ⟨h1, h2⟩
theorem Grows.lo {w : World} {F F' : Nat → Prop} {lo : Nat} (h : Grows w F F') (hf : ∀ b, F b → lo ≤ b) (hl : lo ≤ w.heap.size) : ∀ b, F' b → lo ≤ b := fun b hb => by
  rcases h b hb with e | e
  · exact hf b e
  · omega

set_option maxRecDepth 100000 in
set_option maxHeartbeats 3200000 in
theorem clocked_any (w : World) : Calls Try.prog 6 #[] w fun e w' => e = .returned (.bool true) ∧ Below w.heap.size w w' := by
  have hC0 := fresh_clock w
  have hs0 : (w.alloc (.cells #[.int .i64 0, .slice none 0 0, .map none, .nilFunc] 31)).heap.size = w.heap.size + 1 := by simp
  have HB0 : Hid (Below w.heap.size w (w.alloc (.cells #[.int .i64 0, .slice none 0 0, .map none, .nilFunc] 31))) := Lib.hid ((Below.refl _ _).alloc (Nat.le_refl _) _)
  have HC0 := Lib.hid hC0
  clear hC0 hs0
  go_enter Try.func6, Try.ntmps6
  go_wp2_with fail
  refine (cset_any _ HC0.out 5 1 (by decide) (by decide)).mono ?_
  rintro e w1 ⟨r1, F1, l1, rfl, hC1, hG1, hK1, hR1⟩
  obtain ⟨rfl, hp1⟩ := hR1.done (by decide) (fun ⟨i, hi, _⟩ => absurd hi (Nat.not_lt_zero _))
  have HC1 := Lib.hid hC1
  have HF1 : Hid (∀ b, F1 b → w.heap.size ≤ b) := Lib.hid (hG1.lo (fun b hb => by rw [hb]; exact Nat.le_refl _) HB0.out.size)
  have HB1 : Hid (Below w.heap.size w w1) := Lib.hid (HB0.out.trans (hK1.below HB0.out.size (fun k _ hk => by rw [hk]; exact Nat.le_refl _)))
  have hl1 : l1.length = 1 := by have := hp1.length_eq; simpa using this
  have HP1 := Lib.hid hp1
  have hl1' : l1.length < 1000 := by omega
  clear hC1 hG1 hK1 hR1 hp1 hl1
  go_wp2_with fail
  refine (cset_any _ HC1.out 3 9 (by decide) hl1').mono ?_
  rintro e w2 ⟨r2, F2, l2, rfl, hC2, hG2, hK2, hR2⟩
  obtain ⟨rfl, hp2⟩ := hR2.done (by decide) (notIn_of HP1.out (by simp))
  have HC2 := Lib.hid hC2
  have HF2 : Hid (∀ b, F2 b → w.heap.size ≤ b) := Lib.hid (hG2.lo HF1.out HB1.out.size)
  have HB2 : Hid (Below w.heap.size w w2) := Lib.hid (HB1.out.trans (hK2.below HB1.out.size (fun k _ hk => HF1.out k hk)))
  have hl2 : l2.length = 2 := by have := (hp2.trans (List.Perm.append_right _ HP1.out)).length_eq; simpa using this
  have HP2 := Lib.hid hp2
  have hl2' : l2.length < 1000 := by omega
  clear hC2 hG2 hK2 hR2 hp2 hl2
  go_wp2_with fail
  refine (cset_any _ HC2.out 3 2 (by decide) hl2').mono ?_
  rintro e w3 ⟨r3, F3, l3, rfl, hC3, hG3, hK3, hR3⟩
  obtain ⟨rfl, hp3⟩ := hR3.done (by decide) (notIn_of (HP2.out.trans (List.Perm.append_right _ HP1.out)) (by simp))
  have HC3 := Lib.hid hC3
  have HF3 : Hid (∀ b, F3 b → w.heap.size ≤ b) := Lib.hid (hG3.lo HF2.out HB2.out.size)
  have HB3 : Hid (Below w.heap.size w w3) := Lib.hid (HB2.out.trans (hK3.below HB2.out.size (fun k _ hk => HF2.out k hk)))
  have HP3 := Lib.hid hp3
  clear hC3 hG3 hK3 hR3 hp3
  go_wp2_with fail
  refine (cdue_any _ HC3.out).mono ?_
  rintro e w4 ⟨vd, ids, m, l4, rfl, hO4, hC4, hK4, hR4⟩
  obtain ⟨rfl, rfl, rfl⟩ := clocked_math HP1.out HP2.out HP3.out hR4
  have HC4 := Lib.hid hC4
  have HB4 : Hid (Below w.heap.size w w4) := Lib.hid (HB3.out.trans (hK4.below HB3.out.size (fun k _ hk => HF3.out k hk)))
  obtain ⟨ao, n, cap, rfl, hn, -, -, hx⟩ := hO4.ints
  obtain rfl : n = 2 := hn
  obtain ⟨g, o, rfl, -, hcell⟩ := hx (by decide)
  have hc0 := hcell 0 (by decide)
  have hc1 := hcell 1 (by decide)
  have hc0' : w4.cell? ⟨g, o, none⟩ = some (.int .i64 2) := hc0
  have hc1' : w4.cell? ⟨g, o + 1, none⟩ = some (.int .i64 9) := hc1
  clear hC4 hK4 hR4 hO4 hx hcell hc0 hc1
  go_wp2_with fail
  refine (cnext_ok _ HC4.out (by decide)).mono ?_
  rintro e w5 ⟨rfl, rfl⟩
  have hg5 : (Hp.g [((5 : Int), (1 : Int))] 0).1 = 5 := rfl
  rw [hg5]
  go_wp2_with fail
  refine (cnow_any _ HC4.out).mono ?_
  rintro e w5 ⟨rfl, rfl⟩
  go_wp2_with fail
  refine (clen_any _ HC4.out).mono ?_
  rintro e w5 ⟨rfl, rfl⟩
  go_wp2_with fail
  go_ret
  exact ⟨rfl, HB4.out⟩
end Go.Proofs.Ytonpbbflloljgaa
