/-
  Tokens, as chapter 7 has them: what stands at the head of a text, and a text's tokens one by one. Of bytes alone.
-/
import Derived.Test.YthkfdhglgonmnaaGreatDoorRows
import Derived.Lib.DecodeN
namespace Go.Proofs.YthkfdhglgonmnaaGreatDoor
namespace Lx

abbrev B := List UInt8

def isDg (b : UInt8) : Bool := decide (48 ≤ b.toNat) && decide (b.toNat ≤ 57)
def isAl (b : UInt8) : Bool := decide (b.toNat = 95) || (decide (97 ≤ b.toNat) && decide (b.toNat ≤ 122)) || (decide (65 ≤ b.toNat) && decide (b.toNat ≤ 90))
/-- A byte that no letter, digit, or sign has, and that goes on nothing. -/
def isStop (b : UInt8) : Bool := decide (b.toNat = 32) || decide (b.toNat = 9) || decide (b.toNat = 13) || decide (b.toNat = 10)

def dec (l : B) : Nat × Nat := Lib.decodeN l.length (l.getD 0 0).toNat (l.getD 1 0).toNat (l.getD 2 0).toNat (l.getD 3 0).toNat

/-- How many bytes the LETTER at the head has (0: none). -/
def letV : B → Nat
  | [] => 0
  | b :: r => if b.toNat < 128 then (if isAl b then 1 else 0) else if (dec (b :: r)).2 = 1 then 0 else (dec (b :: r)).2

/-- How many bytes the LETTER or digit at the head has. -/
def alnV (l : B) : Nat := if letV l = 0 then (match l with | [] => 0 | b :: _ => if isDg b then 1 else 0) else letV l

theorem dec_width (l : B) (h : l ≠ []) : 1 ≤ (dec l).2 ∧ (dec l).2 ≤ 4 ∧ (dec l).2 ≤ l.length := by
  have hl : 1 ≤ l.length := List.length_pos_iff.2 h
  unfold dec Lib.decodeN
  repeat' split
  all_goals (refine ⟨?_, ?_, ?_⟩ <;> simp only <;> omega)

theorem letV_le (l : B) : letV l ≤ l.length := by
  cases l with
  | nil => exact Nat.le_refl _
  | cons b r =>
    have hd := dec_width (b :: r) (by simp)
    have e : letV (b :: r) = if b.toNat < 128 then (if isAl b then 1 else 0) else if (dec (b :: r)).2 = 1 then 0 else (dec (b :: r)).2 := rfl
    rw [e]
    rw [List.length_cons] at hd ⊢
    repeat' split
    all_goals omega
theorem alnV_le (l : B) : alnV l ≤ l.length := by
  have := letV_le l
  unfold alnV
  split
  · cases l with
    | nil => exact Nat.le_refl _
    | cons b r => simp only; split <;> simp
  · exact this

theorem dec_ascii {b : UInt8} {r : B} (h : b.toNat < 128) : dec (b :: r) = (b.toNat, 1) := by
  unfold dec Lib.decodeN
  rw [if_pos (by simpa using h)]; rfl

set_option maxHeartbeats 4000000 in
set_option linter.unusedSimpArgs false in
/-- What is read of a rune of n bytes hangs on those alone. -/
theorem dec_loc (l x : B) (h : 2 ≤ (dec l).2) : (dec (l.take (dec l).2 ++ x)).2 = (dec l).2 := by
  match l, h with
  | [], h => exact absurd h (by decide)
  | [a], h =>
    exfalso
    have := (dec_width [a] (by simp)).2.2
    simp at this; omega
  | [a, b], h =>
    have h2 : (dec [a, b]).2 = 2 := by have := (dec_width [a, b] (by simp)).2.2; simp at this; omega
    rw [h2]
    revert h2
    simp only [dec, Lib.decodeN, List.take, List.cons_append, List.nil_append, List.length_cons, List.length_nil, List.getD_cons_zero, List.getD_cons_succ]
    repeat' split
    all_goals (intro h2; first | rfl | (exfalso; omega) | (exfalso; simp at h2; done) | (exfalso; simp only at h2; omega))
  | [a, b, c], h =>
    have hw := (dec_width [a, b, c] (by simp)).2.2
    simp at hw
    rcases (show (dec [a, b, c]).2 = 2 ∨ (dec [a, b, c]).2 = 3 by omega) with h2 | h2
    all_goals
      rw [h2]
      revert h2
      simp only [dec, Lib.decodeN, List.take, List.cons_append, List.nil_append, List.length_cons, List.length_nil, List.getD_cons_zero, List.getD_cons_succ]
      repeat' split
      all_goals (intro h2; first | rfl | (exfalso; omega) | (exfalso; simp at h2; done) | (exfalso; simp only at h2; omega))
  | a :: b :: c :: d :: r, h =>
    have hw := (dec_width (a :: b :: c :: d :: r) (by simp)).2.1
    rcases (show (dec (a :: b :: c :: d :: r)).2 = 2 ∨ (dec (a :: b :: c :: d :: r)).2 = 3 ∨ (dec (a :: b :: c :: d :: r)).2 = 4 by omega) with h2 | h2 | h2
    all_goals
      rw [h2]
      revert h2
      simp only [dec, Lib.decodeN, List.take, List.cons_append, List.nil_append, List.length_cons, List.length_nil, List.getD_cons_zero, List.getD_cons_succ]
      repeat' split
      all_goals (intro h2; first | rfl | (exfalso; omega) | (exfalso; simp at h2; done) | (exfalso; simp only at h2; omega))

set_option maxHeartbeats 4000000 in
set_option linter.unusedSimpArgs false in
/-- A byte below 128 goes on no rune. -/
theorem dec_ext (l x : B) (b : UInt8) (hb : b.toNat < 128) (h : l ≠ []) : (dec (l ++ b :: x)).2 = (dec l).2 := by
  match l, h with
  | [a], _ =>
    simp only [dec, Lib.decodeN, List.cons_append, List.nil_append, List.length_cons, List.length_nil, List.getD_cons_zero, List.getD_cons_succ]
    repeat' split
    all_goals first | rfl | (exfalso; omega)
  | [a, c], _ =>
    simp only [dec, Lib.decodeN, List.cons_append, List.nil_append, List.length_cons, List.length_nil, List.getD_cons_zero, List.getD_cons_succ]
    repeat' split
    all_goals first | rfl | (exfalso; omega)
  | [a, c, d], _ =>
    simp only [dec, Lib.decodeN, List.cons_append, List.nil_append, List.length_cons, List.length_nil, List.getD_cons_zero, List.getD_cons_succ]
    repeat' split
    all_goals first | rfl | (exfalso; omega)
  | a :: c :: d :: e :: r, _ =>
    simp only [dec, Lib.decodeN, List.cons_append, List.nil_append, List.length_cons, List.length_nil, List.getD_cons_zero, List.getD_cons_succ, List.length_append]
    repeat' split
    all_goals first | rfl | (exfalso; omega)

theorem stop_lt {b : UInt8} (h : isStop b = true) : b.toNat < 128 := by
  simp [isStop] at h; omega
theorem stop_noAl {b : UInt8} (h : isStop b = true) : isAl b = false := by
  simp [isStop] at h; simp [isAl]; omega
theorem stop_noDg {b : UInt8} (h : isStop b = true) : isDg b = false := by
  simp [isStop] at h; simp [isDg]; omega

theorem letV_loc (l x : B) (h : 0 < letV l) : letV (l.take (letV l) ++ x) = letV l := by
  cases l with
  | nil => exact absurd h (Nat.lt_irrefl _)
  | cons b r =>
    by_cases hb : b.toNat < 128
    · have e : letV (b :: r) = if isAl b then 1 else 0 := by simp only [letV, if_pos hb]
      rw [e] at h ⊢
      by_cases ha : isAl b
      · rw [if_pos ha]; simp [letV, hb, ha]
      · rw [if_neg ha] at h; exact absurd h (Nat.lt_irrefl _)
    · have e : letV (b :: r) = if (dec (b :: r)).2 = 1 then 0 else (dec (b :: r)).2 := by simp only [letV, if_neg hb]
      have hw := dec_width (b :: r) (by simp)
      rw [e] at h ⊢
      by_cases h1 : (dec (b :: r)).2 = 1
      · rw [if_pos h1] at h; exact absurd h (Nat.lt_irrefl _)
      · rw [if_neg h1]
        have hl := dec_loc (b :: r) x (by omega)
        obtain ⟨n, hn⟩ : ∃ n, (dec (b :: r)).2 = n + 1 := ⟨(dec (b :: r)).2 - 1, by omega⟩
        rw [hn] at hl h1 ⊢
        rw [List.take_succ_cons, List.cons_append] at hl ⊢
        simp only [letV, if_neg hb, hl, if_neg h1]
theorem letV_ext (l x : B) (b : UInt8) (hb : isStop b = true) : letV (l ++ b :: x) = letV l := by
  cases l with
  | nil => simp [letV, stop_lt hb, stop_noAl hb]
  | cons c r =>
    have := dec_ext (c :: r) x b (stop_lt hb) (by simp)
    simp only [letV, List.cons_append] at this ⊢
    rw [this]
theorem alnV_pos_of_cons {b : UInt8} {r : B} (h : isDg b = true) : 0 < alnV (b :: r) := by
  unfold alnV
  split
  · simp [h]
  · omega
theorem alnV_loc (l x : B) (h : 0 < alnV l) : alnV (l.take (alnV l) ++ x) = alnV l := by
  by_cases h0 : letV l = 0
  · cases l with
    | nil => exact absurd h (by decide)
    | cons b r =>
      have e : alnV (b :: r) = if isDg b then 1 else 0 := by unfold alnV; rw [if_pos h0]
      rw [e] at h ⊢
      by_cases hd : isDg b
      · rw [if_pos hd]
        have hb : b.toNat < 128 := by simp [isDg] at hd; omega
        have ha : isAl b = false := by simp [isDg] at hd; simp [isAl]; omega
        simp [alnV, letV, hb, ha, hd]
      · rw [if_neg hd] at h; exact absurd h (Nat.lt_irrefl _)
  · have e : alnV l = letV l := by unfold alnV; rw [if_neg h0]
    rw [e]
    have := letV_loc l x (by omega)
    unfold alnV
    rw [this, if_neg h0]
theorem alnV_ext (l x : B) (b : UInt8) (hb : isStop b = true) : alnV (l ++ b :: x) = alnV l := by
  have := letV_ext l x b hb
  unfold alnV
  rw [this]
  cases l with
  | nil => simp [stop_noDg hb]
  | cons c r => rfl

def wordF : Nat → B → Nat
  | 0, _ => 0
  | f + 1, l => if alnV l = 0 then 0 else alnV l + wordF f (l.drop (alnV l))
/-- How many bytes the LETTERS and digits at the head have. -/
def wordV (l : B) : Nat := wordF l.length l
theorem wordF_fuel : ∀ (f g : Nat) (l : B), l.length ≤ f → l.length ≤ g → wordF f l = wordF g l := by
  intro f
  induction f with
  | zero =>
    intro g l hf _
    have : l = [] := List.eq_nil_of_length_eq_zero (by omega)
    subst this
    cases g with
    | zero => rfl
    | succ g => rfl
  | succ f ih =>
    intro g l hf hg
    cases g with
    | zero =>
      have : l = [] := List.eq_nil_of_length_eq_zero (by omega)
      subst this
      rfl
    | succ g =>
      unfold wordF
      by_cases h : alnV l = 0
      · rw [if_pos h, if_pos h]
      · rw [if_neg h, if_neg h]
        have := alnV_le l
        rw [ih g (l.drop (alnV l)) (by rw [List.length_drop]; omega) (by rw [List.length_drop]; omega)]
theorem wordV_eq (l : B) : wordV l = if alnV l = 0 then 0 else alnV l + wordV (l.drop (alnV l)) := by
  cases l with
  | nil => rfl
  | cons b r =>
    have e : wordV (b :: r) = if alnV (b :: r) = 0 then 0 else alnV (b :: r) + wordF r.length ((b :: r).drop (alnV (b :: r))) := rfl
    rw [e]
    by_cases h : alnV (b :: r) = 0
    · rw [if_pos h, if_pos h]
    · rw [if_neg h, if_neg h]
      have h1 : ((b :: r).drop (alnV (b :: r))).length ≤ r.length := by rw [List.length_drop, List.length_cons]; omega
      rw [wordF_fuel _ _ _ h1 (Nat.le_refl _)]; rfl
theorem wordV_le : ∀ (n : Nat) (l : B), l.length ≤ n → wordV l ≤ l.length := by
  intro n
  induction n with
  | zero => intro l h; rw [List.eq_nil_of_length_eq_zero (by omega : l.length = 0)]; exact Nat.le_refl _
  | succ n ih =>
    intro l h
    rw [wordV_eq]
    split
    · omega
    · have h1 := alnV_le l
      have h2 := ih (l.drop (alnV l)) (by rw [List.length_drop]; omega)
      rw [List.length_drop] at h2
      omega
theorem wordV_pos {l : B} (h : 0 < alnV l) : 0 < wordV l := by
  rw [wordV_eq, if_neg (by omega)]; omega
/-- A word that is cut off behind itself, and followed by what is no letter, is the word. -/
theorem wordV_cut (n : Nat) : ∀ (l x : B) (b : UInt8), l.length ≤ n → isStop b = true → wordV (l.take (wordV l) ++ b :: x) = wordV l := by
  induction n with
  | zero =>
    intro l x b h hb
    rw [List.eq_nil_of_length_eq_zero (by omega : l.length = 0), wordV_eq]
    rw [show ([] : B).take (wordV []) = [] from rfl, alnV_ext [] x b hb]; rfl
  | succ n ih =>
    intro l x b h hb
    by_cases h0 : alnV l = 0
    · have : wordV l = 0 := by rw [wordV_eq, if_pos h0]
      rw [this, List.take_zero, List.nil_append, wordV_eq, show alnV (b :: x) = 0 from alnV_ext [] x b hb, if_pos rfl]
    · have e : wordV l = alnV l + wordV (l.drop (alnV l)) := by rw [wordV_eq, if_neg h0]
      have h1 := alnV_le l
      have e2 : l.take (wordV l) ++ b :: x = l.take (alnV l) ++ ((l.drop (alnV l)).take (wordV (l.drop (alnV l))) ++ b :: x) := by
        rw [e, List.take_add, List.append_assoc]
      have ea : alnV (l.take (wordV l) ++ b :: x) = alnV l := by rw [e2]; exact alnV_loc l _ (by omega)
      have hd : (l.take (wordV l) ++ b :: x).drop (alnV l) = (l.drop (alnV l)).take (wordV (l.drop (alnV l))) ++ b :: x := by
        rw [e2]; exact List.drop_left' (by rw [List.length_take]; omega)
      rw [wordV_eq (l.take (wordV l) ++ b :: x), ea, if_neg h0, hd, ih (l.drop (alnV l)) x b (by rw [List.length_drop]; omega) hb, e]
theorem wordV_ext (n : Nat) : ∀ (l x : B) (b : UInt8), l.length ≤ n → isStop b = true → wordV (l ++ b :: x) = wordV l := by
  induction n with
  | zero =>
    intro l x b h hb
    rw [List.eq_nil_of_length_eq_zero (by omega : l.length = 0), wordV_eq, alnV_ext [] x b hb]; rfl
  | succ n ih =>
    intro l x b h hb
    have h1 := alnV_le l
    rw [wordV_eq (l ++ b :: x), alnV_ext l x b hb, wordV_eq l]
    by_cases h0 : alnV l = 0
    · rw [if_pos h0, if_pos h0]
    · rw [if_neg h0, if_neg h0, List.drop_append_of_le_length h1, ih (l.drop (alnV l)) x b (by rw [List.length_drop]; omega) hb]

/-- How many digits stand at the head. -/
def digV (l : B) : Nat := (l.takeWhile isDg).length
theorem digV_le (l : B) : digV l ≤ l.length := (List.takeWhile_prefix isDg).length_le
theorem digV_take (l : B) : l.take (digV l) = l.takeWhile isDg := by
  induction l with
  | nil => rfl
  | cons b r ih =>
    unfold digV at ih ⊢
    by_cases h : isDg b
    · rw [List.takeWhile_cons_of_pos h, List.length_cons, List.take_succ_cons, ih]
    · rw [List.takeWhile_cons_of_neg h]; rfl
theorem digV_cons {b : UInt8} {r : B} (h : isDg b = true) : digV (b :: r) = digV r + 1 := by
  unfold digV; rw [List.takeWhile_cons_of_pos h]; rfl
theorem digV_no {b : UInt8} {r : B} (h : isDg b = false) : digV (b :: r) = 0 := by
  unfold digV; rw [List.takeWhile_cons_of_neg (by simp [h])]; rfl
theorem digV_ext (l x : B) (b : UInt8) (hb : isStop b = true) : digV (l ++ b :: x) = digV l := by
  induction l with
  | nil => exact digV_no (stop_noDg hb)
  | cons c r ih =>
    by_cases h : isDg c
    · rw [List.cons_append, digV_cons h, digV_cons h, ih]
    · rw [List.cons_append, digV_no (by simpa using h), digV_no (by simpa using h)]
theorem digV_cut (l x : B) (b : UInt8) (hb : isStop b = true) : digV (l.take (digV l) ++ b :: x) = digV l := by
  induction l with
  | nil => exact digV_no (stop_noDg hb)
  | cons c r ih =>
    by_cases h : isDg c
    · rw [digV_cons h, List.take_succ_cons, List.cons_append, digV_cons h, ih]
    · rw [digV_no (by simpa using h)]
      exact digV_no (stop_noDg hb)

/-- How many bytes stand ahead of the line feed. -/
def lineV (l : B) : Nat := (l.takeWhile (fun b => b != 10)).length
theorem lineV_le (l : B) : lineV l ≤ l.length := (List.takeWhile_prefix _).length_le

def keysL : List B := [[102, 117, 110, 99], [118, 97, 114], [105, 110, 116], [98, 111, 111, 108], [99, 104, 97, 110], [105, 102], [101, 108, 115, 101], [102, 111, 114], [98, 114, 101, 97, 107], [99, 111, 110, 116, 105, 110, 117, 101], [114, 101, 116, 117, 114, 110], [103, 111],
  [112, 114, 105, 110, 116], [115, 108, 101, 101, 112], [115, 101, 108, 101, 99, 116], [99, 97, 115, 101], [100, 101, 102, 97, 117, 108, 116], [116, 114, 117, 101], [102, 97, 108, 115, 101], [110, 105, 108], [109, 97, 107, 101], [108, 101, 110], [99, 108, 111, 115, 101]]
def isKeyV (w : B) : Bool := keysL.contains w
def endsL : List B := [[98, 114, 101, 97, 107], [99, 111, 110, 116, 105, 110, 117, 101], [114, 101, 116, 117, 114, 110], [116, 114, 117, 101], [102, 97, 108, 115, 101], [110, 105, 108], [105, 110, 116], [98, 111, 111, 108], [99, 104, 97, 110]]
def sigsL : List B := [[58, 61], [60, 45], [60, 60], [60, 61], [60], [62, 62], [62, 61], [62], [38, 38], [38], [124, 124], [124], [61, 61], [61], [33, 61], [33], [43], [45], [42], [47], [37], [94], [40], [41], [123], [125], [44], [58]]

/-- A number's value. -/
def numV (d : B) : Nat := d.foldl (fun n b => n * 10 + (b.toNat - 48)) 0
def bigV (d : B) : Bool := decide (9223372036854775807 < numV d)

inductive Cut
  | tok (k n : Nat)
  | err (e : Nat)

def numCut (l : B) : Cut := if (1 < digV l ∧ l.head? = some 48) ∨ 0 < letV (l.drop (digV l)) then .err 3 else if bigV (l.take (digV l)) then .err 2 else .tok 3 (digV l)
def wordCut (l : B) : Cut := if isKeyV (l.take (wordV l)) then .tok 2 (wordV l) else if 12 < wordV l then .err 4 else .tok 1 (wordV l)
def sigCut (l : B) : Cut := match sigsL.find? (·.isPrefixOf l) with
  | some x => .tok 4 x.length
  | none => .err 3
/-- What stands at the head, if it is no blank, no remark, no line feed. -/
def cutV : B → Cut
  | [] => .err 3
  | b :: r => if b = 59 then .tok 5 1 else if isDg b then numCut (b :: r) else if 0 < letV (b :: r) then wordCut (b :: r) else sigCut (b :: r)

def isBl (b : UInt8) : Bool := decide (b.toNat = 32) || decide (b.toNat = 9) || decide (b.toNat = 13)
inductive Step
  | skip (n : Nat)
  | cut (c : Cut)
/-- What is done at the head of a text that is not empty; may: a line may end here. -/
def stepV : B → Bool → Step
  | [], _ => .skip 0
  | b :: r, may => if isBl b then .skip 1 else if [47, 47].isPrefixOf (b :: r) then .skip (lineV (b :: r)) else if b = 10 then (if may then .cut (.tok 5 1) else .skip 1) else .cut (cutV (b :: r))

def mayV (k : Nat) (t : B) : Bool := decide (k = 1) || decide (k = 3) || (decide (k = 4) && (t == [41] || t == [125])) || (decide (k = 2) && endsL.contains t)

structure Tok where
  kind : Nat
  text : B
  at_ : Nat

def endV (a : Nat) (may : Bool) : List Tok := if may then [⟨5, [], a⟩] else []
/-- The tokens of a text that begins at place a of the whole one; and the error, and where. -/
def lxF : Nat → B → Nat → Bool → List Tok × Option (Nat × Nat)
  | 0, _, a, may => (endV a may, none)
  | f + 1, l, a, may => if l = [] then (endV a may, none) else match stepV l may with
    | .skip n => lxF f (l.drop n) (a + n) may
    | .cut (.tok k n) => (⟨k, l.take n, a⟩ :: (lxF f (l.drop n) (a + n) (mayV k (l.take n))).1, (lxF f (l.drop n) (a + n) (mayV k (l.take n))).2)
    | .cut (.err e) => ([], some (e, a))
def lx (l : B) (a : Nat) (may : Bool) : List Tok × Option (Nat × Nat) := lxF l.length l a may
end Lx
end Go.Proofs.YthkfdhglgonmnaaGreatDoor
