/-
  A region that draws its order, some of whose operations are LATE: they wait for all that is taken ahead of its turn; so a condition on the world may be asked up to them, and not behind them.
-/
import Derived.Deep.RegionHeld
import Derived.Lib.Hide
namespace Go.Proofs.YtlfcfaceeloedaaDoor
open Go

section
variable {P : Program} {ops : Array Oper} {Q : Exit → Act → World → Prop} {md : Region.Mode} {S : World → Prop} {T : List Nat}
/-- Whichever comes up keeps S, if it is not late. -/
def anyLate (P : Program) (md : Region.Mode) (ops : Array Oper) (Q : Exit → Act → World → Prop) (S : World → Prop) (T : List Nat) : Nat → Array Bool → Act → World → Prop
  | 0, li, a, w => Region.ready md ops li = [] ∧ Q .normal a w
  | n + 1, li, a, w => (Region.ready md ops li = [] → Q .normal a w) ∧ ∀ i ∈ Region.ready md ops li, wpOp P ops Q i (fun a' w' => (i ∉ T → S w → S w') ∧ anyLate P md ops Q S T n (li.setIfInBounds i true) a' w') a w
theorem any_of_late : ∀ (n : Nat) (li : Array Bool) (a : Act) (w : World), anyLate P md ops Q S T n li a w → wpAny P md ops Q n li a w
  | 0, _, _, _, h => h
  | n + 1, _, _, _, h => ⟨h.1, fun i hi => wpOp_mono (fun a' w' h' => any_of_late n _ a' w' h'.2) (h.2 i hi)⟩
/-- Each late one waits for number i. -/
def waitsFor (md : Region.Mode) (ops : Array Oper) (T : List Nat) (i : Nat) : Bool := T.all fun j => match ops[j]? with
  | some o => o.after.any fun e => Region.binds md e && (e.on == i)
  | none => true
theorem waits_spec {i j : Nat} {oj : Oper} (h : waitsFor md ops T i = true) (hj : j ∈ T) (ho : ops[j]? = some oj) : ∃ e ∈ oj.after, Region.binds md e = true ∧ e.on = i := by
  have h1 := (List.all_eq_true.1 h) j hj
  rw [ho] at h1
  obtain ⟨k, hk, h2⟩ := Array.any_eq_true.1 h1
  rw [Bool.and_eq_true, beq_iff_eq] at h2
  exact ⟨oj.after[k], Array.getElem_mem hk, h2.1, h2.2⟩
theorem late_first {R : World → Prop} {i : Nat} {oi : Oper} {v : Value} (hi : ops[i]? = some oi) (hsel : ∀ (j : Nat) (o : Oper) cs b, ops[j]? = some o → o.op ≠ .select cs b)
    (hQ : ∀ c a w, Q (.panic c) (a.put oi.dst v) w → Q (.panic c) a w) (hR : (∀ w, R w) ∨ (R = S ∧ waitsFor md ops T i = true)) :
    ∀ (n : Nat) (li : Array Bool) (a : Act) (w : World),
      (∀ j oj, ops[j]? = some oj → j ≠ i → li.getD j true = false → (∀ e ∈ oj.after, Region.binds md e = true → e.on ≠ i) → oi.apart ops oj = true) →
      i ∈ Region.ready md ops li → YieldsIf P ops R oi v a → R w → anyLate P md ops Q S T n (li.setIfInBounds i true) (a.put oi.dst v) w → anyLate P md ops Q S T (n + 1) li a w := by
  intro n
  induction n with
  | zero =>
    intro li a w _ hr hy hw H
    refine ⟨fun h => (by rw [h] at hr; cases hr), fun j hj => ?_⟩
    by_cases e : j = i
    · subst e
      exact hy.wpOp hi hw ⟨fun _ h => h, H⟩
    · have h1 := ready_mono hj e
      rw [H.1] at h1
      cases h1
  | succ n ih =>
    intro li a w hfree hr hy hw H
    refine ⟨fun h => (by rw [h] at hr; cases hr), fun j hj => ?_⟩
    by_cases e : j = i
    · subst e
      exact hy.wpOp hi hw ⟨fun _ h => h, H⟩
    have h1 := H.2 j (ready_mono hj e)
    obtain ⟨hun, oj, hoj, hall⟩ := mem_ready.1 hj
    have hiu := (mem_ready.1 hr).1
    have hno : ∀ x ∈ oj.after, Region.binds md x = true → x.on ≠ i := fun x hx hb he => by
      have h2 := hall x hx hb
      rw [he] at h2
      rcases Nat.lt_or_ge i li.size with h3 | h3
      · simp [h3] at hiu h2
        rw [hiu] at h2; cases h2
      · simp [Array.getElem?_eq_none h3] at h2
    have hnT : R = S ∧ waitsFor md ops T i = true → j ∉ T := fun h hjT => by
      obtain ⟨x, hx, hb, he⟩ := waits_spec h.2 hjT hoj
      exact hno x hx hb he
    have h2 := wpOp_putIf hoj (hfree j oj hoj e hun hno) (fun cs b => hsel i oi cs b hi) (fun cs b => hsel j oj cs b hoj) hQ hy h1
    refine wpOp_mono (fun a' w' h3 => ⟨h3.2.1, ih (li.setIfInBounds j true) a' w' (fun k ok hk hki hku hkn => ?_) (ready_mono hr (Ne.symm e)) h3.1 ?_ ?_⟩) h2
    · refine hfree k ok hk hki ?_ hkn
      by_cases hjk : j = k
      · subst hjk; exact hun
      · rw [getD_set_ne true hjk] at hku; exact hku
    · rcases hR with hR | hR
      · exact hR w'
      · have h4 := h3.2.1 (hnT hR)
        rw [hR.1] at hw ⊢
        exact h4 hw
    · rw [Array.setIfInBounds_comm _ _ e]
      exact h3.2.2
/-- One that yields in every world of S, ahead of all late ones. -/
theorem late_take {i : Nat} {oi : Oper} {v : Value} {n : Nat} {li : Array Bool} {a : Act} {w : World} (hi : ops[i]? = some oi) (hs : Region.noSelect ops = true) (hf : Region.free md ops li i = true) (hr : (Region.ready md ops li).contains i = true) (hT : waitsFor md ops T i = true)
    (hQ : ∀ c a w, Q (.panic c) (a.put oi.dst v) w → Q (.panic c) a w) (hy : YieldsIf P ops S oi v a) (hw : S w) (h : anyLate P md ops Q S T n (li.setIfInBounds i true) (a.put oi.dst v) w) : anyLate P md ops Q S T (n + 1) li a w :=
  late_first hi (Region.noSelect_spec hs) hQ (Or.inr ⟨rfl, hT⟩) n li a w (Region.free_spec hi hf) (by simpa using hr) hy hw h
/-- One that yields in whatever world. -/
theorem late_take0 {i : Nat} {oi : Oper} {v : Value} {n : Nat} {li : Array Bool} {a : Act} {w : World} (hi : ops[i]? = some oi) (hs : Region.noSelect ops = true) (hf : Region.free md ops li i = true) (hr : (Region.ready md ops li).contains i = true)
    (hQ : ∀ c a w, Q (.panic c) (a.put oi.dst v) w → Q (.panic c) a w) (hy : YieldsIf P ops (fun _ => True) oi v a) (h : anyLate P md ops Q S T n (li.setIfInBounds i true) (a.put oi.dst v) w) : anyLate P md ops Q S T (n + 1) li a w :=
  late_first hi (Region.noSelect_spec hs) hQ (Or.inl fun _ => trivial) n li a w (Region.free_spec hi hf) (by simpa using hr) hy trivial h
def LateAll (P : Program) (md : Region.Mode) (ops : Array Oper) (Q : Exit → Act → World → Prop) (S : World → Prop) (T : List Nat) (n : Nat) (li : Array Bool) (a : Act) (w : World) (rs : List Nat) : Prop :=
  ∀ i ∈ rs, wpOp P ops Q i (fun a' w' => (i ∉ T → S w → S w') ∧ anyLate P md ops Q S T n (li.setIfInBounds i true) a' w') a w
theorem LateAll.nil {n : Nat} {li : Array Bool} {a : Act} {w : World} : LateAll P md ops Q S T n li a w [] := fun _ h => by cases h
theorem LateAll.cons {n : Nat} {li : Array Bool} {a : Act} {w : World} {i : Nat} {o : Oper} {rs : List Nat} (ho : ops[i]? = some o)
    (h : ∀ K : Act → World → Prop, Shut (∀ a' w', (i ∉ T → S w') → anyLate P md ops Q S T n (li.setIfInBounds i true) a' w' → K a' w') → if Region.wanted o (yielded ops a.tmps) = true then Oper.wp P o a w K Q else K (a.put o.dst undef) w)
    (hs : LateAll P md ops Q S T n li a w rs) : LateAll P md ops Q S T n li a w (i :: rs) := fun j hj => by
  rcases List.mem_cons.1 hj with rfl | hj
  · exact wpOp_step ho fun K hK => h K fun a' w' hS hW => hK a' w' ⟨fun hT _ => hS hT, hW⟩
  · exact hs j hj
theorem late_ready {rs : List Nat} {n : Nat} {li : Array Bool} {a : Act} {w : World} (hr : Region.ready md ops li = rs) (hne : rs ≠ []) (h : LateAll P md ops Q S T n li a w rs) : anyLate P md ops Q S T (n + 1) li a w :=
  ⟨fun h0 => absurd (hr ▸ h0) hne, hr ▸ h⟩
theorem late_done {li : Array Bool} {a : Act} {w : World} (hr : Region.ready md ops li = []) (h : Q .normal a w) : ∀ n, anyLate P md ops Q S T n li a w
  | 0 => ⟨hr, h⟩
  | _ + 1 => ⟨fun _ => h, by rw [hr]; simp⟩
theorem wp_region_late {id : Nat} {a : Act} {w : World} (hm : P.follows .mixedOrders = true) (h : anyLate P .any ops Q S T ops.size (Array.replicate ops.size false) a w.drew) : (Code.region id ops true).wp P Q a w :=
  wp_region_any hm (any_of_late _ _ _ _ h)
end
end Go.Proofs.YtlfcfaceeloedaaDoor
