/-
  The plain mathematics of chapter 3: texts of parts, whose sums stand beside them. No walk.
-/
import Derived.Test.YtlfcfaceeloedaaDoorVaryD
namespace Go.Proofs.YtlfcfaceeloedaaDoor
open Go.RowKit

abbrev WPart := Nat × ByteArray
/-- A sum's four bytes. -/
def four (c : Nat) : List Nat := [c % 256, c / 256 % 256, c / 65536 % 256, c / 16777216 % 256]
theorem four_length (c : Nat) : (four c).length = 4 := rfl
theorem four_bytes (c : Nat) : Crc.Bytes (four c) := by intro b hb; simp [four] at hb; omega
theorem four_inj {a b : Nat} (ha : a < 2 ^ 32) (hb : b < 2 ^ 32) (h : four a = four b) : a = b := by
  simp only [four, List.cons.injEq, and_true] at h; omega
/-- A list of bytes with its sum behind it. -/
def sealed (l : List Nat) : List Nat := l ++ four (Crc.more 0 l)
theorem sealed_length (l : List Nat) : (sealed l).length = l.length + 4 := by simp [sealed, four_length]
theorem sealed_bytes {l : List Nat} (h : Crc.Bytes l) : Crc.Bytes (sealed l) := fun b hb => by
  rcases List.mem_append.1 hb with hb | hb
  · exact h b hb
  · exact four_bytes _ b hb
def partL (p : WPart) : List Nat := p.1 :: (Vy.enc p.2.size ++ bs p.2)
theorem partL_length (p : WPart) : (partL p).length = 1 + (Vy.enc p.2.size).length + p.2.size := by simp [partL, bs_length]; omega
def partsL (ps : List WPart) : List Nat := ps.flatMap fun p => sealed (partL p)
theorem partsL_cons (p : WPart) (ps : List WPart) : partsL (p :: ps) = sealed (partL p) ++ partsL ps := rfl
theorem partsL_append (a b : List WPart) : partsL (a ++ b) = partsL a ++ partsL b := by simp [partsL]
def headL (k : Nat) (ps : List WPart) : List Nat := 83 :: 76 :: 87 :: k :: (Vy.enc ps.length ++ partsL ps)
def wholeL (k : Nat) (ps : List WPart) : List Nat := sealed (headL k ps)
/-- A tag that may come behind another one. -/
def Above (last : Option Nat) (t : Nat) : Prop := ∀ x, last = some x → x < t
/-- The tags are bytes that rise. -/
def Rises : Option Nat → List WPart → Prop
  | _, [] => True
  | last, p :: ps => Above last p.1 ∧ p.1 < 256 ∧ Rises (some p.1) ps
def Small (ps : List WPart) : Prop := ∀ p ∈ ps, p.2.size ≤ 60000
def Good (ps : List WPart) : Prop := ps.length ≤ 40 ∧ Small ps ∧ Rises none ps
theorem Rises.tag {last : Option Nat} {ps : List WPart} (h : Rises last ps) : ∀ p ∈ ps, p.1 < 256 := by
  induction ps generalizing last with
  | nil => intro p hp; cases hp
  | cons q ps ih =>
    intro p hp
    rcases List.mem_cons.1 hp with rfl | hp
    · exact h.2.1
    · exact ih h.2.2 p hp
theorem partL_bytes {p : WPart} (h : p.1 < 256) : Crc.Bytes (partL p) := fun b hb => by
  simp only [partL, List.mem_cons, List.mem_append] at hb
  rcases hb with rfl | hb | hb
  · exact h
  · exact Vy.enc_bytes _ b hb
  · exact bs_bytes _ b hb
theorem partsL_bytes {ps : List WPart} (h : ∀ p ∈ ps, p.1 < 256) : Crc.Bytes (partsL ps) := fun b hb => by
  obtain ⟨p, hp, hb⟩ := List.mem_flatMap.1 hb
  exact sealed_bytes (partL_bytes (h p hp)) b hb
theorem headL_bytes {k : Nat} {ps : List WPart} (hk : k < 256) (h : ∀ p ∈ ps, p.1 < 256) : Crc.Bytes (headL k ps) := fun b hb => by
  simp only [headL, List.mem_cons, List.mem_append] at hb
  rcases hb with rfl | rfl | rfl | rfl | hb | hb
  · decide
  · decide
  · decide
  · exact hk
  · exact Vy.enc_bytes _ b hb
  · exact partsL_bytes h b hb
theorem wholeL_bytes {k : Nat} {ps : List WPart} (hk : k < 256) (h : ∀ p ∈ ps, p.1 < 256) : Crc.Bytes (wholeL k ps) := sealed_bytes (headL_bytes hk h)

/-- The sum of the bytes from a to b stands at b. -/
def Fits (s : ByteArray) (a b : Nat) : Prop := bs (s.extract b (b + 4)) = four (Crc.more 0 (bs (s.extract a b)))

/-- What is read of the part that begins at a: its tag, its body, where the byte behind its sum stands, and the error. -/
def RP (s : ByteArray) (a t : Nat) (b : ByteArray) (nx re : Nat) : Prop :=
  (∃ e, a < s.size ∧ RT s (a + 1) b e 0 ∧ e + 4 ≤ s.size ∧ Fits s a e ∧ t = (bs s).getD a 0 ∧ nx = e + 4 ∧ re = 0) ∨
  (t = 0 ∧ b = txt [] ∧ nx = 0 ∧
    ((s.size ≤ a ∧ re = 3) ∨ (a < s.size ∧ RT s (a + 1) (txt []) 0 3 ∧ re = 3) ∨
     (∃ e b', a < s.size ∧ RT s (a + 1) b' e 0 ∧ s.size < e + 4 ∧ re = 3) ∨ (∃ e b', a < s.size ∧ RT s (a + 1) b' e 0 ∧ e + 4 ≤ s.size ∧ ¬ Fits s a e ∧ re = 15)))
theorem RT.le {s : ByteArray} {a e : Nat} {b : ByteArray} (h : RT s a b e 0) (ha : a ≤ s.size) : a < e ∧ e ≤ s.size ∧ b.size ≤ s.size := by
  rcases h with ⟨n, h1, h2, h3, h4, _⟩ | ⟨_, _, _, h⟩
  · have hl := h1.len
    rw [List.length_drop, bs_length] at hl
    refine ⟨by omega, by omega, ?_⟩
    rw [h3, ByteArray.size_extract]; omega
  · cases h
theorem RP.exists (s : ByteArray) (a : Nat) : ∃ t b nx re, RP s a t b nx re := by
  by_cases ha : a < s.size
  · obtain ⟨b, e, re, h⟩ := RT.exists s (a + 1)
    rcases h with h | h
    · have h0 : RT s (a + 1) b e 0 := by
        obtain ⟨n, h1, h2, h3, h4, _⟩ := h
        exact Or.inl ⟨n, h1, h2, h3, h4, rfl⟩
      by_cases h4 : e + 4 ≤ s.size
      · by_cases hf : Fits s a e
        · exact ⟨_, b, _, 0, Or.inl ⟨e, ha, h0, h4, hf, rfl, rfl, rfl⟩⟩
        · exact ⟨0, txt [], 0, 15, Or.inr ⟨rfl, rfl, rfl, Or.inr (Or.inr (Or.inr ⟨e, b, ha, h0, h4, hf, rfl⟩))⟩⟩
      · exact ⟨0, txt [], 0, 3, Or.inr ⟨rfl, rfl, rfl, Or.inr (Or.inr (Or.inl ⟨e, b, ha, h0, by omega, rfl⟩))⟩⟩
    · have h0 : RT s (a + 1) (txt []) 0 3 := Or.inr ⟨h.1, rfl, rfl, rfl⟩
      exact ⟨0, txt [], 0, 3, Or.inr ⟨rfl, rfl, rfl, Or.inr (Or.inl ⟨ha, h0, rfl⟩)⟩⟩
  · exact ⟨0, txt [], 0, 3, Or.inr ⟨rfl, rfl, rfl, Or.inl ⟨by omega, rfl⟩⟩⟩

/-- What is read of n parts from a on, behind a last tag. -/
def PS (s : ByteArray) : Nat → Nat → Option Nat → List WPart → Nat → Prop
  | 0, a, _, ps, re => ps = [] ∧ ((a = s.size ∧ re = 0) ∨ (a ≠ s.size ∧ re = 3))
  | n + 1, a, last, ps, re => ∃ t b nx e, RP s a t b nx e ∧
      ((e ≠ 0 ∧ ps = [] ∧ re = e) ∨ (e = 0 ∧ ¬ Above last t ∧ ps = [] ∧ re = 10) ∨ (e = 0 ∧ Above last t ∧ ∃ ps', PS s n nx (some t) ps' re ∧ ps = if re = 0 then (t, b) :: ps' else []))
theorem PS.exists (s : ByteArray) : ∀ n a last, ∃ ps re, PS s n a last ps re := by
  intro n
  induction n with
  | zero =>
    intro a last
    by_cases h : a = s.size
    · exact ⟨[], 0, rfl, Or.inl ⟨h, rfl⟩⟩
    · exact ⟨[], 3, rfl, Or.inr ⟨h, rfl⟩⟩
  | succ n ih =>
    intro a last
    obtain ⟨t, b, nx, e, h⟩ := RP.exists s a
    by_cases he : e = 0
    · by_cases ht : Above last t
      · obtain ⟨ps, re, hp⟩ := ih nx (some t)
        exact ⟨_, re, t, b, nx, e, h, Or.inr (Or.inr ⟨he, ht, ps, hp, rfl⟩)⟩
      · exact ⟨[], 10, t, b, nx, e, h, Or.inr (Or.inl ⟨he, ht, rfl, rfl⟩)⟩
    · exact ⟨[], e, t, b, nx, e, h, Or.inl ⟨he, rfl, rfl⟩⟩

/-- What Open says of a text. -/
def OP (s : ByteArray) (k : Nat) (ps : List WPart) (re : Nat) : Prop :=
  (k = 0 ∧ ps = [] ∧ re = 3 ∧ (s.size < 8 ∨ ¬ [83, 76, 87] <+: bs s)) ∨
  (8 ≤ s.size ∧ [83, 76, 87] <+: bs s ∧
    ((¬ Fits s 0 (s.size - 4) ∧ k = 0 ∧ ps = [] ∧ re = 15) ∨
     (Fits s 0 (s.size - 4) ∧ ∃ n a e, RN ((bs (s.extract 0 (s.size - 4))).drop 4) 4 n a e ∧
       ((e = 3 ∧ n = 0 ∧ a = 0 ∧ k = 0 ∧ ps = [] ∧ re = 3) ∨ (e = 0 ∧ 40 < n ∧ k = 0 ∧ ps = [] ∧ re = 4) ∨
        (e = 0 ∧ n ≤ 40 ∧ PS (s.extract 0 (s.size - 4)) n a none ps re ∧ k = if re = 0 then (bs s).getD 3 0 else 0)))))
theorem OP.exists (s : ByteArray) : ∃ k ps re, OP s k ps re := by
  by_cases h8 : s.size < 8 ∨ ¬ [83, 76, 87] <+: bs s
  · exact ⟨0, [], 3, Or.inl ⟨rfl, rfl, rfl, h8⟩⟩
  · have h8' : 8 ≤ s.size ∧ [83, 76, 87] <+: bs s := ⟨by omega, Classical.byContradiction fun h => h8 (Or.inr h)⟩
    by_cases hf : Fits s 0 (s.size - 4)
    · obtain ⟨n, a, e, hR, _⟩ := RN.exists ((bs (s.extract 0 (s.size - 4))).drop 4) 4
      have hR' := hR
      rcases hR with ⟨_, _, rfl⟩ | ⟨_, rfl, rfl, rfl⟩
      · by_cases hn : n ≤ 40
        · obtain ⟨ps, re, hp⟩ := PS.exists (s.extract 0 (s.size - 4)) n a none
          exact ⟨_, ps, re, Or.inr ⟨h8'.1, h8'.2, Or.inr ⟨hf, n, a, 0, hR', Or.inr (Or.inr ⟨rfl, hn, hp, rfl⟩)⟩⟩⟩
        · exact ⟨0, [], 4, Or.inr ⟨h8'.1, h8'.2, Or.inr ⟨hf, n, a, 0, hR', Or.inr (Or.inl ⟨rfl, by omega, rfl, rfl, rfl⟩)⟩⟩⟩
      · exact ⟨0, [], 3, Or.inr ⟨h8'.1, h8'.2, Or.inr ⟨hf, 0, 0, 3, hR', Or.inl ⟨rfl, rfl, rfl, rfl, rfl, rfl⟩⟩⟩⟩
    · exact ⟨0, [], 15, Or.inr ⟨h8'.1, h8'.2, Or.inl ⟨hf, rfl, rfl, rfl⟩⟩⟩
end Go.Proofs.YtlfcfaceeloedaaDoor
