/-
  Words in a text of words with blanks between: mathematics for the reference's IsKey and mayEnd.
-/
import Derived.Test.YthkfdhglgonmnaaGreatDoorLexM
import Derived.Lib.IndexMore
namespace Go.Proofs.YthkfdhglgonmnaaGreatDoor
namespace Lx

def noSp (w : B) : Bool := w.all (· != 32)

theorem noSp_cons {b : UInt8} {t : B} (h : noSp (b :: t) = true) : b ≠ 32 ∧ noSp t = true := by
  unfold noSp at h ⊢
  rw [List.all_cons, Bool.and_eq_true] at h
  exact ⟨by simpa using h.1, h.2⟩

theorem contains_cons (b : UInt8) (l p : B) : Lib.contains (b :: l) p = (p.isPrefixOf (b :: l) || Lib.contains l p) := by
  unfold Lib.contains
  rw [Lib.index]
  have hg := Lib.index_ge l p
  cases h : p.isPrefixOf (b :: l)
  · by_cases h1 : Lib.index l p = -1
    · rw [h1]; decide
    · have h2 : (Lib.index l p == -1) = false := by simpa using h1
      rw [h2]
      simp only [Bool.false_eq_true, if_false, Bool.false_or, decide_eq_decide]
      omega
  · simp

theorem contains_nil (p : B) (h : p ≠ []) : Lib.contains [] p = false := by
  cases p with
  | nil => exact absurd rfl h
  | cons a t => rfl

theorem contains_skip (k R p : B) (hk : noSp k = true) : Lib.contains (k ++ R) (32 :: p) = Lib.contains R (32 :: p) := by
  induction k with
  | nil => rfl
  | cons b t ih =>
    obtain ⟨hb, ht⟩ := noSp_cons hk
    rw [List.cons_append, contains_cons, ih ht]
    have : (32 :: p).isPrefixOf (b :: (t ++ R)) = false := by
      rw [List.isPrefixOf]
      have : ((32 : UInt8) == b) = false := by simpa using Ne.symm hb
      rw [this]; rfl
    rw [this]; rfl

theorem prefix_word (w : B) : ∀ (k R : B), noSp w = true → noSp k = true → (w ++ [32]).isPrefixOf (k ++ 32 :: R) = (w == k) := by
  induction w with
  | nil =>
    intro k R _ hk
    cases k with
    | nil => rfl
    | cons b t =>
      obtain ⟨hb, _⟩ := noSp_cons hk
      have : ((32 : UInt8) == b) = false := by simpa using Ne.symm hb
      show (((32 : UInt8) == b) && _) = false
      rw [this]; rfl
  | cons a u ih =>
    intro k R hw hk
    obtain ⟨ha, hu⟩ := noSp_cons hw
    cases k with
    | nil =>
      have : (a == (32 : UInt8)) = false := by simpa using ha
      show ((a == (32 : UInt8)) && _) = false
      rw [this]; rfl
    | cons b t =>
      obtain ⟨_, ht⟩ := noSp_cons hk
      have e := ih t R hu ht
      show ((a == b) && (u ++ [32]).isPrefixOf (t ++ 32 :: R)) = ((a == b) && (u == t))
      rw [e]

def spaced : List B → B
  | [] => [32]
  | k :: r => 32 :: (k ++ spaced r)

theorem spaced_head (ks : List B) : ∃ R, spaced ks = 32 :: R := by
  cases ks with
  | nil => exact ⟨[], rfl⟩
  | cons k r => exact ⟨k ++ spaced r, rfl⟩

theorem contains_spaced (ks : List B) (w : B) (hks : ks.all noSp = true) (hw : noSp w = true) : Lib.contains (spaced ks) (32 :: (w ++ [32])) = ks.contains w := by
  induction ks with
  | nil =>
    rw [spaced, contains_cons, contains_nil _ (by simp)]
    have : (32 :: (w ++ [32])).isPrefixOf [(32 : UInt8)] = false := by
      show (((32 : UInt8) == 32) && (w ++ [32]).isPrefixOf []) = false
      cases w <;> rfl
    rw [this]; rfl
  | cons k r ih =>
    rw [List.all_cons, Bool.and_eq_true] at hks
    obtain ⟨R, hR⟩ := spaced_head r
    rw [spaced, contains_cons, contains_skip _ _ _ hks.1, ih hks.2, hR]
    have : (32 :: (w ++ [32])).isPrefixOf (32 :: (k ++ 32 :: R)) = (w == k) := by
      show (((32 : UInt8) == 32) && (w ++ [32]).isPrefixOf (k ++ 32 :: R)) = (w == k)
      rw [prefix_word w k R hw hks.1]; rfl
    rw [this, List.contains_cons]

theorem contains_blank (w : B) : Lib.contains w [32] = !noSp w := by
  induction w with
  | nil => rfl
  | cons b t ih =>
    rw [contains_cons, ih]
    have e1 : [(32 : UInt8)].isPrefixOf (b :: t) = ((32 : UInt8) == b) := by
      show (((32 : UInt8) == b) && [].isPrefixOf t) = _
      rw [List.isPrefixOf, Bool.and_true]
    have e2 : noSp (b :: t) = ((b != 32) && noSp t) := rfl
    have e3 : ((32 : UInt8) == b) = (b == 32) := by rw [Bool.eq_iff_iff]; simp only [beq_iff_eq]; exact eq_comm
    rw [e1, e2, e3]
    unfold bne
    cases (b == 32) <;> cases noSp t <;> rfl

/-- The reference's text of key words. -/
def keysT : ByteArray := " func var int bool chan if else for break continue return go print sleep select case default true false nil make len close ".toUTF8
def endsT : ByteArray := " break continue return true false nil int bool chan ".toUTF8
theorem keysT_eq : keysT.data.toList = spaced keysL := by decide +kernel
theorem endsT_eq : endsT.data.toList = spaced endsL := by decide +kernel
theorem keysL_noSp : keysL.all noSp = true := by decide
theorem endsL_noSp : endsL.all noSp = true := by decide

theorem noSp_of_mem {ks : List B} {w : B} (h : ks.all noSp = true) (hc : ks.contains w = true) : noSp w = true := by
  rw [List.all_eq_true] at h
  exact h w (by simpa using hc)

theorem isKey_says (w : B) : (!w.isEmpty && (!Lib.contains w [32] && Lib.contains (spaced keysL) (32 :: (w ++ [32])))) = isKeyV w := by
  rw [contains_blank, Bool.not_not]
  unfold isKeyV
  cases hs : noSp w
  · rw [Bool.false_and, Bool.and_false]
    cases hc : keysL.contains w
    · rfl
    · exact absurd (noSp_of_mem keysL_noSp hc) (by rw [hs]; decide)
  · rw [contains_spaced _ _ keysL_noSp hs, Bool.true_and]
    cases w with
    | nil => decide
    | cons a t => rfl
end Lx
end Go.Proofs.YthkfdhglgonmnaaGreatDoor
