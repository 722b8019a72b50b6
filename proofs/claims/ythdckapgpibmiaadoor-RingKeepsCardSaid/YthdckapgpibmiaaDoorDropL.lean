/-
  What Drop asks of the function that it is handed; a ring whose slots are laid anew; what RingDrops hands in.
-/
import Derived.Test.YthdckapgpibmiaaDoorSays
import Derived.Test.YthdckapgpibmiaaDoorDropsF
import Derived.Test.YthdckapgpibmiaaDoorRingAt
import Derived.RangeFuncOwn
namespace Go.Proofs.YthdckapgpibmiaaDoor
open Go.RowKit

/-- A function that says p of a number, and may note what it was asked: in the blocks Z, and in a slice's own (va). -/
structure FSpec (fv : Value) (p : Int → Bool) (Z : Nat → Prop) (Fst : Value → List Int → World → Prop) : Prop where
  says : ∀ va A x W, Fst va A W → A.length ≤ 1000 → Calls Tryd.prog 35 #[fv, .int .i64 x] W fun e W' => e = .returned (.bool (p x)) ∧
    ∃ va', Fst va' (A ++ [x]) W' ∧ Keeps (fun k => Z k ∨ va.ownBlock = some k) W W' ∧ (∀ k, va'.ownBlock = some k → va.ownBlock = some k ∨ W.heap.size ≤ k)
  keeps : ∀ va A W W' (S : Nat → Prop), Fst va A W → Keeps S W W' → (∀ k, Z k → ¬ S k) → (∀ k, va.ownBlock = some k → ¬ S k) → Fst va A W'
  own : ∀ va A W, Fst va A W → ∀ k, va.ownBlock = some k → k < W.heap.size ∧ ∃ o : Obj, W.heap[k]? = some o ∧ o.isCells = true
theorem ownI_cells {W : World} {B : Nat} {v : Value} {xs : List Int} (h : OwnI W B v xs) : ∀ k, v.ownBlock = some k → k < W.heap.size ∧ ∃ o : Obj, W.heap[k]? = some o ∧ o.isCells = true := fun k hk => by
  refine ⟨(World.ownsRow.lt h k hk).2, ?_⟩
  rcases h.2 with ⟨rfl, h0⟩ | ⟨g, cap, cur, rfl, hb, hg, _⟩
  · cases hk
  · cases hk
    exact ⟨_, hg, rfl⟩
/-- What RingDrops' function has noted: in the variable a, of what m holds. -/
def AskedD (a m B : Nat) (most : Int) (va : Value) (A : List Int) (W : World) : Prop :=
  OwnI W B va A ∧ Box W a va ∧ Box W m (.int .i64 most) ∧ B ≤ W.heap.size
theorem fspec_drops (a m B : Nat) (most : Int) (haB : a < B) (hmB : m < B) (ham : a ≠ m) :
    FSpec (.func (.func 18) #[] #[.pointer (some ⟨a, 0, none⟩), .pointer (some ⟨m, 0, none⟩)]) (fun x => decide (x < most)) (fun k => k = a ∨ k = m) (AskedD a m B most) where
  says va A x W h hA := by
    obtain ⟨hO, ha, hm, hB⟩ := h
    refine says_drops x ⟨a, 0, none⟩ ⟨m, 0, none⟩ _ W ((dropsF_any x most W a m B va A hO ha hm haB hmB ham hA hB).mono ?_)
    rintro e W' ⟨rfl, va', hO', ha', hm', hk', hn'⟩
    exact ⟨rfl, va', ⟨hO', ha', hm', Nat.le_trans hB hk'.size⟩, hk'.mono fun k _ e => e.elim (fun e => Or.inl (Or.inl e)) Or.inr, hn'⟩
  keeps va A W W' S h hk hZ hv := by
    obtain ⟨hO, ha, hm, hB⟩ := h
    exact ⟨hO.keeps hk hv, ha.keeps hk (hZ _ (Or.inl rfl)), hm.keeps hk (hZ _ (Or.inr rfl)), Nat.le_trans hB hk.size⟩
  own va A W h k e := ownI_cells h.1 k e

section
variable {α : Type} {enc : α → Value} {w w' : World} {rb sb : Nat} {row : List α} {f : Nat} {l : List α}
/-- A ring whose slots were laid anew: first these, then nothing. -/
theorem RingAt.refill (h : RingAt enc w rb sb row f l) (kept : List α) (z : α) (hk : kept.length ≤ row.length)
    (c0 : w'.cell? ⟨rb, 0, none⟩ = some (.slice (some ⟨sb, 0, none⟩) row.length row.length)) (c1 : w'.cell? ⟨rb, 1, none⟩ = some (.int .i64 0)) (c2 : w'.cell? ⟨rb, 2, none⟩ = some (.int .i64 (kept.length : Nat)))
    (z1 : w'.frozen? ⟨rb, 1, none⟩ = false) (z2 : w'.frozen? ⟨rb, 2, none⟩ = false)
    (hc : ∀ (j : Nat) (x : α), (kept ++ List.replicate (row.length - kept.length) z)[j]? = some x → w'.cell? ⟨sb, j, none⟩ = some (enc x)) (hz : ∀ j : Nat, j < row.length → w'.frozen? ⟨sb, j, none⟩ = false) :
    RingAt enc w' rb sb (kept ++ List.replicate (row.length - kept.length) z) 0 kept := by
  have hl : (kept ++ List.replicate (row.length - kept.length) z).length = row.length := by rw [List.length_append, List.length_replicate]; omega
  have ht := h.top
  refine ⟨by rw [hl]; exact c0, c1, c2, z1, z2, h.ne, by rw [hl]; exact ht, ?_, by rw [hl]; exact hk, fun k x hx => ?_, hc, fun j hj => hz j (by rw [hl] at hj; exact hj)⟩
  · rw [hl]; omega
  · have hkl := (List.getElem?_eq_some_iff.1 hx).1
    rw [hl, Nat.zero_add, Nat.mod_eq_of_lt (by omega), List.getElem?_append_left hkl]
    exact hx
end
end Go.Proofs.YthdckapgpibmiaaDoor
