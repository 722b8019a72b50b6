/-
  What has come to whom, at the law PipeFifo: a map of the call's own, and plain mathematics.
-/
import Derived.Test.YtpehmghnfbkaaaaPipeFM
import Derived.Test.YtpehmghnfbkaaaaPipeL2
import Derived.Maps.OwnOps
namespace Go.Proofs.Ytpehmghnfbkaaaa
open Go.RowKit Go.Maps Pp

def sOf (bs : List Bool) (t : Nat) : List Nat := (List.range t).filter fun i => bs.getD i false
def aOf (bs : List Bool) (t : Nat) : List Nat := (List.range t).filter fun i => !bs.getD i false
theorem sOf_true {bs : List Bool} {t : Nat} (h : bs.getD t false = true) : sOf bs (t + 1) = sOf bs t ++ [t] ∧ aOf bs (t + 1) = aOf bs t := by
  unfold sOf aOf
  rw [List.range_succ, List.filter_append, List.filter_append]
  simp only [List.filter_cons, List.filter_nil, h]
  simp
theorem sOf_false {bs : List Bool} {t : Nat} (h : bs.getD t false = false) : sOf bs (t + 1) = sOf bs t ∧ aOf bs (t + 1) = aOf bs t ++ [t] := by
  unfold sOf aOf
  rw [List.range_succ, List.filter_append, List.filter_append]
  simp only [List.filter_cons, List.filter_nil, h]
  simp
theorem mem_sOf {bs : List Bool} {t x : Nat} (h : x ∈ sOf bs t) : x < t ∧ bs.getD x false = true := by
  unfold sOf at h
  rw [List.mem_filter, List.mem_range] at h
  exact h
theorem mem_aOf {bs : List Bool} {t x : Nat} (h : x ∈ aOf bs t) : x < t ∧ bs.getD x false = false := by
  unfold aOf at h
  rw [List.mem_filter, List.mem_range] at h
  exact ⟨h.1, by simpa using h.2⟩
theorem aOf_len (bs : List Bool) (t : Nat) : (aOf bs t).length ≤ t := by
  unfold aOf
  have := List.length_filter_le (fun i => !bs.getD i false) (List.range t)
  rw [List.length_range] at this
  exact this
theorem sOf_len (bs : List Bool) (t : Nat) : (sOf bs t).length ≤ t := by
  unfold sOf
  have := List.length_filter_le (fun i => bs.getD i false) (List.range t)
  rw [List.length_range] at this
  exact this
def numsV (n : Nat) : List Int := (List.range n).map fun (k : Nat) => (k : Int) + 1
theorem numsV_succ (n : Nat) : numsV (n + 1) = numsV n ++ [(n : Int) + 1] := by unfold numsV; rw [List.range_succ, List.map_append]; rfl
theorem numsV_get {n k : Nat} {v : Int} (h : (numsV n)[k]? = some v) : v = (k : Int) + 1 := by
  unfold numsV at h
  rw [List.getElem?_map] at h
  obtain ⟨j, hj, rfl⟩ := Option.map_eq_some_iff.1 h
  have hlt := (List.getElem?_eq_some_iff.1 hj).1
  rw [List.length_range] at hlt
  rw [List.getElem?_range hlt] at hj
  cases hj
  rfl
/-- n numbers came, to the first n of A; T is the next task. -/
structure Came (D : DataW Unit) (n : Nat) (A : List Nat) (T : Nat) : Prop where
  has : ∀ k x : Nat, A[k]? = some x → Maps.has D (.int .i64 (x : Int)) = decide (k < n)
  val : ∀ k x : Nat, A[k]? = some x → k < n → ∀ z, D.atKey (.int .i64 (x : Int)) z = .lit (.int .i64 ((k : Int) + 1))
  fut : ∀ x : Nat, T ≤ x → Maps.has D (.int .i64 (x : Int)) = false
theorem Came.zero : Came (.map []) 0 [] 0 := ⟨fun k x h => by simp at h, fun k x h => by simp at h, fun _ _ => rfl⟩
theorem Came.more {D : DataW Unit} {n : Nat} {A : List Nat} {T : Nat} (h : Came D n A T) (hA : A.length ≤ n) : Came D (n + 1) A (T + 1) := by
  refine ⟨fun k x hx => ?_, fun k x hx _ => ?_, fun x hx => h.fut x (by omega)⟩
  · have hk := (List.getElem?_eq_some_iff.1 hx).1
    rw [h.has k x hx, decide_eq_true (by omega : k < n), decide_eq_true (by omega : k < n + 1)]
  · have hk := (List.getElem?_eq_some_iff.1 hx).1
    exact h.val k x hx (by omega)
theorem Came.wait {D : DataW Unit} {n : Nat} {A : List Nat} {T : Nat} (h : Came D n A T) (hA : n ≤ A.length) : Came D n (A ++ [T]) (T + 1) := by
  have key : ∀ k x : Nat, (A ++ [T])[k]? = some x → (k < A.length ∧ A[k]? = some x) ∨ (k = A.length ∧ x = T) := fun k x hx => by
    by_cases hk : k < A.length
    · rw [List.getElem?_append_left hk] at hx
      exact Or.inl ⟨hk, hx⟩
    · have := (List.getElem?_eq_some_iff.1 hx).1
      rw [List.length_append, List.length_singleton] at this
      have hk0 : k = A.length := by omega
      subst hk0
      rw [List.getElem?_append_right (Nat.le_refl _), Nat.sub_self] at hx
      cases hx
      exact Or.inr ⟨rfl, rfl⟩
  refine ⟨fun k x hx => ?_, fun k x hx hk => ?_, fun x hx => h.fut x (by omega)⟩
  · rcases key k x hx with ⟨_, h1⟩ | ⟨rfl, rfl⟩
    · exact h.has k x h1
    · rw [h.fut x (Nat.le_refl _)]
      exact (decide_eq_false (by omega)).symm
  · rcases key k x hx with ⟨_, h1⟩ | ⟨rfl, rfl⟩
    · exact h.val k x h1 hk
    · omega
theorem Came.later {D : DataW Unit} {n : Nat} {A : List Nat} {T : Nat} (h : Came D n A T) : Came D n A (T + 1) := ⟨h.has, h.val, fun x hx => h.fut x (by omega)⟩
theorem Came.get {D : DataW Unit} {n : Nat} {A : List Nat} {T : Nat} (h : Came D n A T) (hD : Tidy D) (hA : A.length < n) (hT : T ∉ A) : Came (D.put (.int .i64 (T : Int)) (.lit (.int .i64 ((A.length : Int) + 1)))) n (A ++ [T]) (T + 1) := by
  have key : ∀ k x : Nat, (A ++ [T])[k]? = some x → (A[k]? = some x ∧ x ≠ T) ∨ (k = A.length ∧ x = T) := fun k x hx => by
    by_cases hk : k < A.length
    · rw [List.getElem?_append_left hk] at hx
      exact Or.inl ⟨hx, fun e => hT (e ▸ List.mem_of_getElem? hx)⟩
    · have := (List.getElem?_eq_some_iff.1 hx).1
      rw [List.length_append, List.length_singleton] at this
      have hk0 : k = A.length := by omega
      subst hk0
      rw [List.getElem?_append_right (Nat.le_refl _), Nat.sub_self] at hx
      cases hx
      exact Or.inr ⟨rfl, rfl⟩
  have hl : ∀ q : Int, WideAt.IsKeyLit (Lit.int .i64 q) := fun _ => trivial
  refine ⟨fun k x hx => ?_, fun k x hx hk z => ?_, fun x hx => ?_⟩
  · rcases key k x hx with ⟨h1, h2⟩ | ⟨rfl, rfl⟩
    · rw [Maps.has_put_other (lit_neI (by omega))]; exact h.has k x h1
    · rw [Maps.has_put_same hD.isMap (hl _)]
      exact (decide_eq_true hA).symm
  · rcases key k x hx with ⟨h1, h2⟩ | ⟨rfl, rfl⟩
    · rw [Maps.atKey_put_other (lit_neI (by omega))]; exact h.val k x h1 hk z
    · rw [Maps.atKey_put_same hD.isMap (hl _)]
  · rw [Maps.has_put_other (lit_neI (by omega))]; exact h.fut x (by omega)
theorem Came.wake {D : DataW Unit} {n : Nat} {A : List Nat} {T x : Nat} (h : Came D n A T) (hD : Tidy D) (hn : A.Nodup) (hx : A[n]? = some x) (hlt : x < T) : Came (D.put (.int .i64 (x : Int)) (.lit (.int .i64 ((n : Int) + 1)))) (n + 1) A T := by
  have hl : ∀ q : Int, WideAt.IsKeyLit (Lit.int .i64 q) := fun _ => trivial
  refine ⟨fun k y hy => ?_, fun k y hy hk z => ?_, fun y hy => ?_⟩
  · by_cases e : k = n
    · subst e
      rw [hx] at hy
      cases hy
      rw [Maps.has_put_same hD.isMap (hl _)]
      exact (decide_eq_true (Nat.lt_succ_self _)).symm
    · have hne : y ≠ x := get_ne hn hy hx e
      rw [Maps.has_put_other (lit_neI (by omega)), h.has k y hy]
      by_cases h2 : k < n
      · rw [decide_eq_true h2, decide_eq_true (by omega : k < n + 1)]
      · rw [decide_eq_false h2, decide_eq_false (by omega : ¬ k < n + 1)]
  · by_cases e : k = n
    · subst e
      rw [hx] at hy
      cases hy
      rw [Maps.atKey_put_same hD.isMap (hl _)]
    · have hne : y ≠ x := get_ne hn hy hx e
      rw [Maps.atKey_put_other (lit_neI (by omega))]
      exact h.val k y hy (by omega) z
  · rw [Maps.has_put_other (lit_neI (by omega))]; exact h.fut y hy
end Go.Proofs.Ytpehmghnfbkaaaa
