/-
  Seal in the words of Good, where no law of package wire is at hand (as in Wired).
-/
import Derived.Test.YtjdihgmngiplkaaDoorWireSeal
import Derived.Test.YtjdihgmngiplkaaDoorWireOpen
namespace Go.Proofs.YtjdihgmngiplkaaDoor
open Go.RowKit

theorem good_iff {ps : List WPart} (hs : Small ps) (ht : ∀ p ∈ ps, p.1 < 256) : Good ps ↔ (ps.length ≤ 40 ∧ ∀ i, i < ps.length → MayStand ps i) := by
  unfold Good
  rw [rises_pt]
  exact ⟨fun h => ⟨h.1, h.2.2.2.1⟩, fun h => ⟨h.1, hs, ht, h.2, fun _ x hx => by cases hx⟩⟩
theorem small_pb {ps : List WPart} (h : Small ps) (i : Nat) (hi : i < ps.length) : (pb ps i).size ≤ 60000 := by
  unfold pb
  rw [List.getD_eq_getElem?_getD, List.getElem?_eq_getElem hi]; exact h _ (List.getElem_mem hi)
theorem PartsAt.tags {w : World} {v : Value} {ps : List WPart} (h : PartsAt w v ps) : ∀ p ∈ ps, p.1 < 256 := by
  obtain ⟨_, _, _, _, _, _, _, _, h⟩ := h; exact h
/-- Seal, of parts that are short enough. -/
theorem seal_good (kind : Nat) (v : Value) (ps : List WPart) (w : World) (hk : kind < 256) (hv : PartsAt w v ps) (hs : Small ps) (htot : (partsL ps).length ≤ 900000) (hL : Leaves w) :
    Calls Tryd.prog 33 #[.int .u8 (kind : Int), v] w fun e w' => ∃ re t, e = .returned (.tuple #[.string t, errV re]) ∧
      ((Good ps ∧ re = 0 ∧ t = txt (wholeL kind ps)) ∨ (¬ Good ps ∧ (re = 4 ∨ re = 10))) ∧ Below w.heap.size w w' :=
  (seal_any kind v ps w hk hv (small_pb hs) htot hL).mono fun e w' ⟨re, t, h1, h2, h3⟩ => ⟨re, t, h1, by
    rw [good_iff hs hv.tags]
    rcases h2 with ⟨a, b, c⟩ | ⟨a, b, _⟩
    · exact Or.inl ⟨a, b, c⟩
    · exact Or.inr ⟨a, b⟩, h3⟩

theorem whole_size {kind : Nat} {ps : List WPart} (hk : kind < 256) (h : Good ps) : (txt (wholeL kind ps)).size = 8 + (Vy.enc ps.length).length + (partsL ps).length ∧ bs (txt (wholeL kind ps)) = wholeL kind ps := by
  refine ⟨?_, bs_txt _ (wholeL_bytes hk h.2.2.tag)⟩
  rw [txt_size, wholeL, sealed_length, headL_split]; simp; omega
end Go.Proofs.YtjdihgmngiplkaaDoor
