/-
  What stays where all below a number are dropped. Of no program.
-/
namespace Go.Proofs.YthdckapgpibmiaaDoor

/-- What stays of the things from the k-th to the j-th. -/
def staysD (u0 : List Int) (k j : Nat) (most : Int) : List Int := ((u0.take j).drop k).filter fun x => !decide (x < most)
theorem staysD_zero (u0 : List Int) (k : Nat) (most : Int) : staysD u0 k k most = [] := by
  rw [staysD, List.drop_eq_nil_of_le (by rw [List.length_take]; omega), List.filter_nil]
theorem staysD_all (u0 : List Int) (k : Nat) (most : Int) : staysD u0 k u0.length most = (u0.drop k).filter fun x => !decide (x < most) := by rw [staysD, List.take_length]
theorem staysD_succ (u0 : List Int) (k j : Nat) (most : Int) (h1 : k ≤ j) (h2 : j < u0.length) : staysD u0 k (j + 1) most = if u0.getD j 0 < most then staysD u0 k j most else staysD u0 k j most ++ [u0.getD j 0] := by
  have e : u0.getD j 0 = u0[j] := by rw [List.getD_eq_getElem?_getD, List.getElem?_eq_getElem h2]; rfl
  have e2 : (u0.take (j + 1)).drop k = (u0.take j).drop k ++ [u0[j]] := by
    rw [List.take_succ_eq_append_getElem h2, List.drop_append_of_le_length (by rw [List.length_take]; omega)]
  rw [staysD, e2, List.filter_append, e]
  by_cases h : u0[j] < most <;> simp [h, staysD]
theorem staysD_le (u0 : List Int) (k j : Nat) (most : Int) : (staysD u0 k j most).length ≤ u0.length - k := by
  refine Nat.le_trans (List.length_filter_le _ _) ?_
  rw [List.length_drop, List.length_take]
  omega
theorem counts_all (p : Int → Bool) : ∀ l : List Int, (l.filter p).length + (l.filter fun x => !p x).length = l.length
  | [] => rfl
  | x :: r => by
    have := counts_all p r
    cases hp : p x <;> simp [hp] <;> omega

end Go.Proofs.YthdckapgpibmiaaDoor
