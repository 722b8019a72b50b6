/-
  Texts of one proof, in build order: LexM TabS Ret SignsB TreeM TreeM2 TreeM3 TreeQ1 TreeQ2 TreeQ3 TreeQI
-/
import Derived.Test.YtnpapppipccdbaaGreatDoorRows
import Derived.Lib.DecodeN
import Derived.Lib.LaidTab
import Derived.WalkKit
import Derived.WalkSpells
import Derived.WalkLawsBesides
import Derived.Lib.Hide
import Derived.Deep.QuietTactic
import Derived.BigQuiet
namespace Go.Proofs.YtnpapppipccdbaaGreatDoor
namespace Lx
abbrev B := List UInt8
def cI (b : UInt8) : Bool := decide (48 <= b.toNat) && decide (b.toNat <= 57)
def rI (b : UInt8) : Bool := decide (b.toNat = 95) || (decide (97 <= b.toNat) && decide (b.toNat <= 122)) || (decide (65 <= b.toNat) && decide (b.toNat <= 90))
def jA (b : UInt8) : Bool := decide (b.toNat = 32) || decide (b.toNat = 9) || decide (b.toNat = 13) || decide (b.toNat = 10)
def dec (l : B) : Nat × Nat := Lib.decodeN l.length (l.getD 0 0).toNat (l.getD 1 0).toNat (l.getD 2 0).toNat (l.getD 3 0).toNat
def bS : B -> Nat
 | [] => 0
 | b :: r => if b.toNat < 128 then (if rI b then 1 else 0) else if (dec (b :: r)).2 = 1 then 0 else (dec (b :: r)).2
def bV (l : B) : Nat := if bS l = 0 then (match l with | [] => 0 | b :: _ => if cI b then 1 else 0) else bS l
theorem iY (l : B) (h : l ≠ []) : 1 <= (dec l).2 /\ (dec l).2 <= 4 /\ (dec l).2 <= l.length := by
 have hl : 1 <= l.length := List.length_pos_iff.2 h
 unfold dec Lib.decodeN
 repeat' split
 all_goals (refine ⟨?_, ?_, ?_⟩ <;> simp only <;> omega)
theorem AM (l : B) : bS l <= l.length := by
 cases l with
 | nil => exact Nat.le_refl _
 | cons b r =>
  have hd := iY (b :: r) (by simp)
  have e : bS (b :: r) = if b.toNat < 128 then (if rI b then 1 else 0) else if (dec (b :: r)).2 = 1 then 0 else (dec (b :: r)).2 := rfl
  rw [e]
  rw [List.length_cons] at hd ⊢
  repeat' split
  all_goals omega
theorem pJ (l : B) : bV l <= l.length := by
 have := AM l
 unfold bV
 split
 ·cases l with
  | nil => exact Nat.le_refl _
  | cons b r => simp only; split <;> simp
 ·exact this
set_option maxHeartbeats 4000000 in
set_option linter.unusedSimpArgs false in
theorem G8 (l x : B) (h : 2 <= (dec l).2) : (dec (l.take (dec l).2 ++ x)).2 = (dec l).2 := by
 match l, h with
 | [], h => exact absurd h (by decide)
 | [a], h =>
  exfalso
  have := (iY [a] (by simp)).2.2
  simp at this; omega
 | [a, b], h =>
  have h2 : (dec [a, b]).2 = 2 := by have := (iY [a, b] (by simp)).2.2; simp at this; omega
  rw [h2]
  revert h2
  simp only [dec, Lib.decodeN, List.take, List.cons_append, List.nil_append, List.length_cons, List.length_nil, List.getD_cons_zero, List.getD_cons_succ]
  repeat' split
  all_goals (intro h2; first | rfl | (exfalso; omega) | (exfalso; simp at h2; done) | (exfalso; simp only at h2; omega))
 | [a, b, c], h =>
  have hw := (iY [a, b, c] (by simp)).2.2
  simp at hw
  rcases (show (dec [a, b, c]).2 = 2 \/ (dec [a, b, c]).2 = 3 by omega) with h2 | h2
  all_goals
   rw [h2]
   revert h2
   simp only [dec, Lib.decodeN, List.take, List.cons_append, List.nil_append, List.length_cons, List.length_nil, List.getD_cons_zero, List.getD_cons_succ]
   repeat' split
   all_goals (intro h2; first | rfl | (exfalso; omega) | (exfalso; simp at h2; done) | (exfalso; simp only at h2; omega))
 | a :: b :: c :: d :: r, h =>
  have hw := (iY (a :: b :: c :: d :: r) (by simp)).2.1
  rcases (show (dec (a :: b :: c :: d :: r)).2 = 2 \/ (dec (a :: b :: c :: d :: r)).2 = 3 \/ (dec (a :: b :: c :: d :: r)).2 = 4 by omega) with h2 | h2 | h2
  all_goals
   rw [h2]
   revert h2
   simp only [dec, Lib.decodeN, List.take, List.cons_append, List.nil_append, List.length_cons, List.length_nil, List.getD_cons_zero, List.getD_cons_succ]
   repeat' split
   all_goals (intro h2; first | rfl | (exfalso; omega) | (exfalso; simp at h2; done) | (exfalso; simp only at h2; omega))
set_option maxHeartbeats 4000000 in
set_option linter.unusedSimpArgs false in
theorem G9 (l x : B) (b : UInt8) (hb : b.toNat < 128) (h : l ≠ []) : (dec (l ++ b :: x)).2 = (dec l).2 := by
 match l, h with
 | [a], _ =>
  simp only [dec, Lib.decodeN, List.cons_append, List.nil_append, List.length_cons, List.length_nil, List.getD_cons_zero, List.getD_cons_succ]
  repeat' split
  all_goals first | rfl | (exfalso; omega)
 | [a, c], _ =>
  simp only [dec, Lib.decodeN, List.cons_append, List.nil_append, List.length_cons, List.length_nil, List.getD_cons_zero, List.getD_cons_succ]
  repeat' split
  all_goals first | rfl | (exfalso; omega)
 | [a, c, d], _ =>
  simp only [dec, Lib.decodeN, List.cons_append, List.nil_append, List.length_cons, List.length_nil, List.getD_cons_zero, List.getD_cons_succ]
  repeat' split
  all_goals first | rfl | (exfalso; omega)
 | a :: c :: d :: e :: r, _ =>
  simp only [dec, Lib.decodeN, List.cons_append, List.nil_append, List.length_cons, List.length_nil, List.getD_cons_zero, List.getD_cons_succ, List.length_append]
  repeat' split
  all_goals first | rfl | (exfalso; omega)
theorem AN {b : UInt8} (h : jA b = true) : b.toNat < 128 := by
 simp [jA] at h; omega
theorem B5 {b : UInt8} (h : jA b = true) : rI b = false := by
 simp [jA] at h; simp [rI]; omega
theorem B6 {b : UInt8} (h : jA b = true) : cI b = false := by
 simp [jA] at h; simp [cI]; omega
theorem vC (l x : B) (h : 0 < bS l) : bS (l.take (bS l) ++ x) = bS l := by
 cases l with
 | nil => exact absurd h (Nat.lt_irrefl _)
 | cons b r =>
  by_cases hb : b.toNat < 128
  ·have e : bS (b :: r) = if rI b then 1 else 0 := by simp only [bS, if_pos hb]
   rw [e] at h ⊢
   by_cases ha : rI b
   ·rw [if_pos ha]; simp [bS, hb, ha]
   ·rw [if_neg ha] at h; exact absurd h (Nat.lt_irrefl _)
  ·have e : bS (b :: r) = if (dec (b :: r)).2 = 1 then 0 else (dec (b :: r)).2 := by simp only [bS, if_neg hb]
   have hw := iY (b :: r) (by simp)
   rw [e] at h ⊢
   by_cases h1 : (dec (b :: r)).2 = 1
   ·rw [if_pos h1] at h; exact absurd h (Nat.lt_irrefl _)
   ·rw [if_neg h1]
    have hl := G8 (b :: r) x (by omega)
    obtain ⟨n, hn⟩ : ∃ n, (dec (b :: r)).2 = n + 1 := ⟨(dec (b :: r)).2 - 1, by omega⟩
    rw [hn] at hl h1 ⊢
    rw [List.take_succ_cons, List.cons_append] at hl ⊢
    simp only [bS, if_neg hb, hl, if_neg h1]
theorem EJ (l x : B) (b : UInt8) (hb : jA b = true) : bS (l ++ b :: x) = bS l := by
 cases l with
 | nil => simp [bS, AN hb, B5 hb]
 | cons c r =>
  have := G9 (c :: r) x b (AN hb) (by simp)
  simp only [bS, List.cons_append] at this ⊢
  rw [this]
theorem EK (l x : B) (h : 0 < bV l) : bV (l.take (bV l) ++ x) = bV l := by
 by_cases h0 : bS l = 0
 ·cases l with
  | nil => exact absurd h (by decide)
  | cons b r =>
   have e : bV (b :: r) = if cI b then 1 else 0 := by unfold bV; rw [if_pos h0]
   rw [e] at h ⊢
   by_cases hd : cI b
   ·rw [if_pos hd]
    have hb : b.toNat < 128 := by simp [cI] at hd; omega
    have ha : rI b = false := by simp [cI] at hd; simp [rI]; omega
    simp [bV, bS, hb, ha, hd]
   ·rw [if_neg hd] at h; exact absurd h (Nat.lt_irrefl _)
 ·have e : bV l = bS l := by unfold bV; rw [if_neg h0]
  rw [e]
  have := vC l x (by omega)
  unfold bV
  rw [this, if_neg h0]
theorem m9 (l x : B) (b : UInt8) (hb : jA b = true) : bV (l ++ b :: x) = bV l := by
 have := EJ l x b hb
 unfold bV
 rw [this]
 cases l with
 | nil => simp [B6 hb]
 | cons c r => rfl
def r8 : Nat -> B -> Nat
 | 0, _ => 0
 | f + 1, l => if bV l = 0 then 0 else bV l + r8 f (l.drop (bV l))
def bD (l : B) : Nat := r8 l.length l
theorem x8 : ∀ (f g : Nat) (l : B), l.length <= f -> l.length <= g -> r8 f l = r8 g l := by
 intro f
 induction f with
 | zero =>
  intro g l hf _
  have : l = [] := List.eq_nil_of_length_eq_zero (by omega)
  subst this
  cases g with
  | zero => rfl
  | succ g => rfl
 | succ f ih =>
  intro g l hf hg
  cases g with
  | zero =>
   have : l = [] := List.eq_nil_of_length_eq_zero (by omega)
   subst this
   rfl
  | succ g =>
   unfold r8
   by_cases h : bV l = 0
   ·rw [if_pos h, if_pos h]
   ·rw [if_neg h, if_neg h]
    have := pJ l
    rw [ih g (l.drop (bV l)) (by rw [List.length_drop]; omega) (by rw [List.length_drop]; omega)]
theorem dU (l : B) : bD l = if bV l = 0 then 0 else bV l + bD (l.drop (bV l)) := by
 cases l with
 | nil => rfl
 | cons b r =>
  have e : bD (b :: r) = if bV (b :: r) = 0 then 0 else bV (b :: r) + r8 r.length ((b :: r).drop (bV (b :: r))) := rfl
  rw [e]
  by_cases h : bV (b :: r) = 0
  ·rw [if_pos h, if_pos h]
  ·rw [if_neg h, if_neg h]
   have h1 : ((b :: r).drop (bV (b :: r))).length <= r.length := by rw [List.length_drop, List.length_cons]; omega
   rw [x8 _ _ _ h1 (Nat.le_refl _)]; rfl
theorem pU : ∀ (n : Nat) (l : B), l.length <= n -> bD l <= l.length := by
 intro n
 induction n with
 | zero => intro l h; rw [List.eq_nil_of_length_eq_zero (by omega : l.length = 0)]; exact Nat.le_refl _
 | succ n ih =>
  intro l h
  rw [dU]
  split
  ·omega
  ·have h1 := pJ l
   have h2 := ih (l.drop (bV l)) (by rw [List.length_drop]; omega)
   rw [List.length_drop] at h2
   omega
theorem B7 {l : B} (h : 0 < bV l) : 0 < bD l := by
 rw [dU, if_neg (by omega)]; omega
theorem B8 (n : Nat) : ∀ (l x : B) (b : UInt8), l.length <= n -> jA b = true -> bD (l.take (bD l) ++ b :: x) = bD l := by
 induction n with
 | zero =>
  intro l x b h hb
  rw [List.eq_nil_of_length_eq_zero (by omega : l.length = 0), dU]
  rw [show ([] : B).take (bD []) = [] from rfl, m9 [] x b hb]; rfl
 | succ n ih =>
  intro l x b h hb
  by_cases h0 : bV l = 0
  ·have : bD l = 0 := by rw [dU, if_pos h0]
   rw [this, List.take_zero, List.nil_append, dU, show bV (b :: x) = 0 from m9 [] x b hb, if_pos rfl]
  ·have e : bD l = bV l + bD (l.drop (bV l)) := by rw [dU, if_neg h0]
   have h1 := pJ l
   have e2 : l.take (bD l) ++ b :: x = l.take (bV l) ++ ((l.drop (bV l)).take (bD (l.drop (bV l))) ++ b :: x) := by
    rw [e, List.take_add, List.append_assoc]
   have ea : bV (l.take (bD l) ++ b :: x) = bV l := by rw [e2]; exact EK l _ (by omega)
   have hd : (l.take (bD l) ++ b :: x).drop (bV l) = (l.drop (bV l)).take (bD (l.drop (bV l))) ++ b :: x := by
    rw [e2]; exact List.drop_left' (by rw [List.length_take]; omega)
   rw [dU (l.take (bD l) ++ b :: x), ea, if_neg h0, hd, ih (l.drop (bV l)) x b (by rw [List.length_drop]; omega) hb, e]
theorem B9 (n : Nat) : ∀ (l x : B) (b : UInt8), l.length <= n -> jA b = true -> bD (l ++ b :: x) = bD l := by
 induction n with
 | zero =>
  intro l x b h hb
  rw [List.eq_nil_of_length_eq_zero (by omega : l.length = 0), dU, m9 [] x b hb]; rfl
 | succ n ih =>
  intro l x b h hb
  have h1 := pJ l
  rw [dU (l ++ b :: x), m9 l x b hb, dU l]
  by_cases h0 : bV l = 0
  ·rw [if_pos h0, if_pos h0]
  ·rw [if_neg h0, if_neg h0, List.drop_append_of_le_length h1, ih (l.drop (bV l)) x b (by rw [List.length_drop]; omega) hb]
def jU (l : B) : Nat := (l.takeWhile cI).length
theorem AO (l : B) : jU l <= l.length := (List.takeWhile_prefix cI).length_le
theorem r9 (l : B) : l.take (jU l) = l.takeWhile cI := by
 induction l with
 | nil => rfl
 | cons b r ih =>
  unfold jU at ih ⊢
  by_cases h : cI b
  ·rw [List.takeWhile_cons_of_pos h, List.length_cons, List.take_succ_cons, ih]
  ·rw [List.takeWhile_cons_of_neg h]; rfl
theorem n8 {b : UInt8} {r : B} (h : cI b = true) : jU (b :: r) = jU r + 1 := by
 unfold jU; rw [List.takeWhile_cons_of_pos h]; rfl
theorem IA {b : UInt8} {r : B} (h : cI b = false) : jU (b :: r) = 0 := by
 unfold jU; rw [List.takeWhile_cons_of_neg (by simp [h])]; rfl
def aC (l : B) : Nat := (l.takeWhile (fun b => b != 10)).length
theorem vD (l : B) : aC l <= l.length := (List.takeWhile_prefix _).length_le
def JX : List B := [[102, 117, 110, 99], [118, 97, 114], [105, 110, 116], [98, 111, 111, 108], [99, 104, 97, 110], [105, 102], [101, 108, 115, 101], [102, 111, 114], [98, 114, 101, 97, 107], [99, 111, 110, 116, 105, 110, 117, 101], [114, 101, 116, 117, 114, 110], [103, 111],
 [112, 114, 105, 110, 116], [115, 108, 101, 101, 112], [115, 101, 108, 101, 99, 116], [99, 97, 115, 101], [100, 101, 102, 97, 117, 108, 116], [116, 114, 117, 101], [102, 97, 108, 115, 101], [110, 105, 108], [109, 97, 107, 101], [108, 101, 110], [99, 108, 111, 115, 101]]
def j9 (w : B) : Bool := JX.contains w
def JY : List B := [[98, 114, 101, 97, 107], [99, 111, 110, 116, 105, 110, 117, 101], [114, 101, 116, 117, 114, 110], [116, 114, 117, 101], [102, 97, 108, 115, 101], [110, 105, 108], [105, 110, 116], [98, 111, 111, 108], [99, 104, 97, 110]]
def f9 : List B := [[58, 61], [60, 45], [60, 60], [60, 61], [60], [62, 62], [62, 61], [62], [38, 38], [38], [124, 124], [124], [61, 61], [61], [33, 61], [33], [43], [45], [42], [47], [37], [94], [40], [41], [123], [125], [44], [58]]
def dY (d : B) : Nat := d.foldl (fun n b => n * 10 + (b.toNat - 48)) 0
def nA (d : B) : Bool := decide (9223372036854775807 < dY d)
inductive Cut
 | tok (k n : Nat)
 | err (e : Nat)
def gO (l : B) : Cut := if (1 < jU l /\ l.head? = some 48) \/ 0 < bS (l.drop (jU l)) then .err 3 else if nA (l.take (jU l)) then .err 2 else .tok 3 (jU l)
def gA (l : B) : Cut := if j9 (l.take (bD l)) then .tok 2 (bD l) else if 12 < bD l then .err 4 else .tok 1 (bD l)
def gP (l : B) : Cut := match f9.find? (·.isPrefixOf l) with
 | some x => .tok 4 x.length
 | none => .err 3
def pV : B -> Cut
 | [] => .err 3
 | b :: r => if b = 59 then .tok 5 1 else if cI b then gO (b :: r) else if 0 < bS (b :: r) then gA (b :: r) else gP (b :: r)
def tX (b : UInt8) : Bool := decide (b.toNat = 32) || decide (b.toNat = 9) || decide (b.toNat = 13)
inductive Step
 | skip (n : Nat)
 | cut (c : Cut)
def eF : B -> Bool -> Step
 | [], _ => .skip 0
 | b :: r, may => if tX b then .skip 1 else if [47, 47].isPrefixOf (b :: r) then .skip (aC (b :: r)) else if b = 10 then (if may then .cut (.tok 5 1) else .skip 1) else .cut (pV (b :: r))
def jV (k : Nat) (t : B) : Bool := decide (k = 1) || decide (k = 3) || (decide (k = 4) && (t == [41] || t == [125])) || (decide (k = 2) && JY.contains t)
structure Tok where
 kind : Nat
 text : B
 at_ : Nat
def tY (a : Nat) (may : Bool) : List Tok := if may then [⟨5, [], a⟩] else []
def lxF : Nat -> B -> Nat -> Bool -> List Tok × Option (Nat × Nat)
 | 0, _, a, may => (tY a may, none)
 | f + 1, l, a, may => if l = [] then (tY a may, none) else match eF l may with
  | .skip n => lxF f (l.drop n) (a + n) may
  | .cut (.tok k n) => (⟨k, l.take n, a⟩ :: (lxF f (l.drop n) (a + n) (jV k (l.take n))).1, (lxF f (l.drop n) (a + n) (jV k (l.take n))).2)
  | .cut (.err e) => ([], some (e, a))
def lx (l : B) (a : Nat) (may : Bool) : List Tok × Option (Nat × Nat) := lxF l.length l a may
end Lx
end Go.Proofs.YtnpapppipccdbaaGreatDoor
namespace Go.Proofs.YtnpapppipccdbaaGreatDoor
open Go.Lib
def vE {H : Type} (zs : List (List UInt8)) : DataW H := .agg (zs.map fun z => .lit (.string z))
theorem jO {H : Type} {enc : TypeId × Value -> H} {P : Program} {w : World} {base : Nat} {sp : Nat -> Bool} {held : Bool} {fuel : Nat} {t e : TypeId} {n : Nat} {cs : List Value} {zs : List (List UInt8)} {p : List MemPlace}
  (ht : P.underlying t = some (.array n e)) (he : P.underlying e = some .string) (hce : P.cellsOf e = 1) (hct : P.cellsOf t = n)
  (h : DataW.trod enc P w base sp held fuel t cs = some (vE zs, p)) : cs = zs.map fun z => Value.string ⟨z.toArray⟩ := by
 cases fuel with
 | zero => simp [DataW.trod] at h
 | succ fuel =>
  simp only [DataW.trod, ht, hce, hct, Nat.mul_one] at h
  split at h
  ·rename_i hl
   obtain ⟨xs, hm, hx⟩ := Option.map_eq_some_iff.1 h
   have hxs : xs.map (·.1) = zs.map fun z => (DataW.lit (.string z) : DataW H) := by
    have := congrArg Prod.fst hx
    simpa [vE] using this
   have hxl : xs.length = n := by simpa using mapM_length hm
   have hzl : zs.length = n := by
    have := congrArg List.length hxs
    simp at this
    omega
   apply List.ext_getElem?
   intro i
   by_cases hi : i < n
   ·obtain ⟨b, hb, hf⟩ := mapM_at hm i i (by simp [hi])
    obtain ⟨s, hc, rfl, _⟩ := DataW.trod_string he hf
    have h1 : cs[i]? = some (.string s) := by
     have := congrArg (·[0]?) hc
     simpa [List.getElem?_take, List.getElem?_drop] using this
    have h2 : (xs.map (·.1))[i]? = some (DataW.lit (.string s.data.toList) : DataW H) := by simp [hb]
    rw [hxs] at h2
    simp only [List.getElem?_map, Option.map_eq_some_iff, DataW.lit.injEq, Lit.string.injEq] at h2
    obtain ⟨z', hz', e'⟩ := h2
    have hs : s = ⟨z'.toArray⟩ := by
     cases s with | mk d => rw [e']
    rw [h1, List.getElem?_map, hz', hs]; rfl
   ·rw [List.getElem?_eq_none (by omega), List.getElem?_eq_none (by simp; omega)]
  ·cases h
end Go.Proofs.YtnpapppipccdbaaGreatDoor
namespace Go.Proofs.YtnpapppipccdbaaGreatDoor
open Go.RowKit
theorem nB {a b : Int} (h : a = b) : Ending.returned (.int .i64 a) = .returned (.int .i64 b) := by rw [h]
def n9 : List (List UInt8) := [[], [43], [45], [42], [47], [37], [38], [124], [94], [60, 60], [62, 62], [60], [60, 61], [62], [62, 61], [61, 61], [33, 61], [45], [94], [33]]
def cQ (n : Nat) : List UInt8 := n9.getD n []
def lB (w : World) : Prop := ∀ n : Nat, n < 20 -> w.cell? ⟨7, n, none⟩ = some (.string ⟨(cQ n).toArray⟩)
theorem EL : Tryz.prog.globalNamed "sluiceway/arith.signs" = some 7 := by kernel_rfl
theorem J7 : (Tryz.prog.globals[7]?).map (·.type) = some 294 := by kernel_rfl
theorem nC : Tryz.prog.cellsOf 9 = 1 := by kernel_rfl
theorem vF : Tryz.prog.cellsOf 294 = 20 := by kernel_rfl
def oU (op : Int) : List UInt8 := if 1 <= op /\ op <= 19 then cQ op.toNat else []
theorem vG (op : Int) (w : World) (hS : lB w) :
  Calls Tryz.prog 235 #[.int .i64 op] w fun e w' => e = .returned (.string ⟨(oU op).toArray⟩) /\ w = w' := by
 by_cases h : 1 <= op /\ op <= 19
 ·obtain ⟨n, rfl⟩ := Int.eq_ofNat_of_zero_le (show 0 <= op by omega)
  have hc := hS n (by omega)
  have e : oU (n : Int) = cQ n := by unfold oU; rw [if_pos h]; rfl
  rw [e]
  have h1 : decide ((n : Int) < 1) = false := by simpa using h.1
  have h2 : decide (19 < (n : Int)) = false := by simpa using h.2
  have h3 : (n : Int) < 20 := by omega
  have h4 : 0 <= (n : Int) := by omega
  clear e h hS
  go_enter Tryz.func235, Tryz.ntmps235
  go_wp2_with fail
  go_ret
  exact ⟨rfl, rfl⟩
 ·have e : oU op = [] := by unfold oU; rw [if_neg h]
  rw [e]
  clear e hS
  go_enter Tryz.func235, Tryz.ntmps235
  go_wp2_with fail
  all_goals
   go_ret
   exact ⟨rfl, rfl⟩
def g8 (l : List UInt8) : Nat -> Nat -> Nat
 | 0, _ => 0
 | n + 1, a => if l = cQ a then a else g8 l n (a + 1)
theorem CA {l : List UInt8} {n a : Nat} (h : l = cQ a) : g8 l (n + 1) a = a := by unfold g8; rw [if_pos h]
theorem EM {l : List UInt8} {n a : Nat} (h : l ≠ cQ a) : g8 l (n + 1) a = g8 l n (a + 1) := by
 conv => lhs; unfold g8
 rw [if_neg h]
set_option maxHeartbeats 400000 in
theorem oV (s : ByteArray) (a b : Nat) (w : World) (hb : b < 20) (hS : lB w) :
  Calls Tryz.prog 321 #[.string s, .int .i64 a, .int .i64 b] w fun e w' => e = .returned (.int .i64 (g8 s.toList (b + 1 - a) a : Nat)) /\ w = w' := by
 obtain ⟨R, hR⟩ : ∃ R : Nat, R = g8 s.toList (b + 1 - a) a := ⟨_, rfl⟩
 rw [<- hR]
 have HR := Lib.hid hR
 clear hR
 go_enter Tryz.func321, Tryz.ntmps321
 go_wp2_with fail
 go_loop [7] (fun i => ∃ k : Nat, a <= k /\ i = .int .i64 k /\ R = g8 s.toList (b + 1 - k) k) (fun i => b + 1 - (intOf i).toNat)
 case atStart => exact ⟨a, Nat.le_refl _, rfl, HR.out⟩
 case round =>
  obtain ⟨k, hk, rfl, hw⟩ := hrel
  have H := Lib.hid hw
  clear hw
  by_cases hlt : k <= b
  ·have hc := hS k (by omega)
   have h3 : (k : Int) < 20 := by omega
   have HS := Lib.hid hS
   clear hS
   go_wp2_with fail
   ·have hh : (cQ k == s.toList) = true := by assumption
    go_ret
    refine ⟨nB ?_, rfl⟩
    have := H.out
    rw [show b + 1 - k = (b - k) + 1 by omega, CA (LawfulBEq.eq_of_beq hh).symm] at this
    rw [this]
   ·have hh : (cQ k == s.toList) = false := by assumption
    go_round
    case rel =>
     refine ⟨k + 1, by omega, by go_num, ?_⟩
     have := H.out
     rw [show b + 1 - k = (b - k) + 1 by omega, EM (fun e => by rw [e] at hh; simp at hh)] at this
     rw [this]; congr 1; omega
    case measure => simp [intOf]; omega
  ·go_wp2_with fail
   go_ret
   refine ⟨nB ?_, rfl⟩
   have := H.out
   rw [this, show b + 1 - k = 0 by omega]; rfl
theorem IC (s : ByteArray) (w : World) (hS : lB w) :
  Calls Tryz.prog 319 #[.string s] w fun e w' => e = .returned (.int .i64 (g8 s.toList 16 1 : Nat)) /\ w = w' := by
 have HS := Lib.hid hS
 clear hS
 go_enter Tryz.func319, Tryz.ntmps319
 go_wp2_with (go_at_call 321; refine (oV s 1 16 _ (by decide) HS.out).mono ?_; rintro e w1 ⟨rfl, rfl⟩)
 go_ret
 exact ⟨rfl, rfl⟩
theorem tZ (s : ByteArray) (w : World) (hS : lB w) :
  Calls Tryz.prog 318 #[.string s] w fun e w' => e = .returned (.int .i64 (g8 s.toList 3 17 : Nat)) /\ w = w' := by
 have HS := Lib.hid hS
 clear hS
 go_enter Tryz.func318, Tryz.ntmps318
 go_wp2_with (go_at_call 321; refine (oV s 17 19 _ (by decide) HS.out).mono ?_; rintro e w1 ⟨rfl, rfl⟩)
 go_ret
 exact ⟨rfl, rfl⟩
end Go.Proofs.YtnpapppipccdbaaGreatDoor
namespace Go.Proofs.YtnpapppipccdbaaGreatDoor
namespace Tr
open Lx
mutual
inductive Ex
 | nil
 | mk (code at_ n op : Nat) (name : B) (l r : Ex) (args : Exs)
inductive Exs
 | nil
 | cons (x : Ex) (xs : Exs)
end
def Exs.toList : Exs -> List Ex
 | .nil => []
 | .cons x xs => x :: xs.toList
def Exs.len : Exs -> Nat
 | .nil => 0
 | .cons _ xs => xs.len + 1
def Exs.snoc : Exs -> Ex -> Exs
 | .nil, y => .cons y .nil
 | .cons x xs, y => .cons x (xs.snoc y)
theorem Exs.len_snoc : ∀ (xs : Exs) (y : Ex), (xs.snoc y).len = xs.len + 1
 | .nil, _ => rfl
 | .cons _ xs, y => congrArg (· + 1) (Exs.len_snoc xs y)
mutual
inductive St
 | mk (code at_ : Nat) (name : B) (to val : Ex) (thn els : Sts) (cases : Cas)
inductive Sts
 | nil
 | cons (x : St) (xs : Sts)
inductive Ca
 | mk (code at_ : Nat) (name : B) (to val : Ex) (body : Sts)
inductive Cas
 | nil
 | cons (x : Ca) (xs : Cas)
end
def Sts.len : Sts -> Nat
 | .nil => 0
 | .cons _ xs => xs.len + 1
def Sts.snoc : Sts -> St -> Sts
 | .nil, y => .cons y .nil
 | .cons x xs, y => .cons x (xs.snoc y)
def Cas.len : Cas -> Nat
 | .nil => 0
 | .cons _ xs => xs.len + 1
def Cas.snoc : Cas -> Ca -> Cas
 | .nil, y => .cons y .nil
 | .cons x xs, y => .cons x (xs.snoc y)
structure Pa where
 name : B
 kind : Nat
 at_ : Nat
structure Fu where
 name : B
 at_ : Nat
 params : List Pa
 kind : Nat
 body : Sts
structure Gl where
 name : B
 at_ : Nat
structure Src where
 globals : List Gl
 funcs : List Fu
inductive Res (α : Type)
 | out
 | bad (k a : Nat)
 | ok (x : α) (n : Nat)
def Res.bind {α β : Type} (r : Res α) (f : α -> Nat -> Res β) : Res β := match r with
 | .out => .out
 | .bad k a => .bad k a
 | .ok x n => f x n
structure Env where
 toks : List Tok
 en : Nat
variable (E : Env)
def pk (n : Nat) : Tok := E.toks[n]?.getD ⟨0, [], E.en⟩
def fail {α : Type} (k n : Nat) : Res α := .bad k (pk E n).at_
def take (t : B) (n : Nat) : Res Tok := if (pk E n).text = t then .ok (pk E n) (n + 1) else fail E 3 n
def aF (k n : Nat) : Res Tok := if (pk E n).kind = k then .ok (pk E n) (n + 1) else fail E 3 n
def tLp : B := [40]
def tRp : B := [41]
def cB : B := [44]
def tLb : B := [123]
def tRb : B := [125]
def jB : B := [58]
def aM : B := [60, 45]
def iQ : B := [58, 61]
def pW : B := [61]
def dZ : B := [109, 97, 107, 101]
def iR : B := [108, 101, 110]
def eY : B := [116, 114, 117, 101]
def cW : B := [102, 97, 108, 115, 101]
def iS : B := [110, 105, 108]
def pD : B := [118, 97, 114]
def kW : B := [102, 117, 110, 99]
def J8 : B := [105, 110, 116]
def EN : B := [98, 111, 111, 108]
def EO : B := [99, 104, 97, 110]
def iI : B := [99, 108, 111, 115, 101]
def iJ : B := [112, 114, 105, 110, 116]
def iK : B := [115, 108, 101, 101, 112]
def tGo : B := [103, 111]
def dH : B := [114, 101, 116, 117, 114, 110]
def iL : B := [98, 114, 101, 97, 107]
def cP : B := [99, 111, 110, 116, 105, 110, 117, 101]
def tIf : B := [105, 102]
def lC : B := [101, 108, 115, 101]
def pE : B := [102, 111, 114]
def dI : B := [115, 101, 108, 101, 99, 116]
def gM : B := [99, 97, 115, 101]
def bE : B := [100, 101, 102, 97, 117, 108, 116]
def opV (t : B) : Nat := if t = [38, 38] then 30 else if t = [124, 124] then 31 else g8 t 16 1
def bN (op : Nat) : Nat := if op = 31 then 1 else if op = 30 then 2 else if 11 <= op /\ op <= 16 then 3 else if op = 1 \/ op = 2 \/ op = 7 \/ op = 8 then 4 else if op = 3 \/ op = 4 \/ op = 5 \/ op = 9 \/ op = 10 \/ op = 6 then 5 else 0
def jP (t : B) : Nat := g8 t 3 17
def leaf (code at_ n : Nat) (name : B) : Ex := .mk code at_ n 0 name .nil .nil .nil
mutual
def one : Nat -> Nat -> Nat -> Res Ex
 | 0, _, _ => .out
 | f + 1, d, n =>
  if 12 < d then fail E 4 n
  else if (pk E n).kind = 3 then .ok (leaf 1 (pk E n).at_ (dY (pk E n).text) []) (n + 1)
  else if (pk E n).kind = 1 then named f d n
  else if (pk E n).text = tLp then bracketed f d n
  else if (pk E n).text = [45] \/ (pk E n).text = [94] \/ (pk E n).text = [33] then (one f (d + 1) (n + 1)).bind fun x m => .ok (.mk 6 (pk E n).at_ 0 (jP (pk E n).text) [] x .nil .nil) m
  else if (pk E n).text = aM then (one f (d + 1) (n + 1)).bind fun x m => .ok (.mk 10 (pk E n).at_ 0 0 [] x .nil .nil) m
  else if (pk E n).text = dZ then (bracketed f d (n + 1)).bind fun x m => .ok (.mk 8 (pk E n).at_ 0 0 [] x .nil .nil) m
  else if (pk E n).text = iR then (bracketed f d (n + 1)).bind fun x m => .ok (.mk 9 (pk E n).at_ 0 0 [] x .nil .nil) m
  else if (pk E n).text = eY then .ok (leaf 2 (pk E n).at_ 1 []) (n + 1)
  else if (pk E n).text = cW then .ok (leaf 2 (pk E n).at_ 0 []) (n + 1)
  else if (pk E n).text = iS then .ok (leaf 3 (pk E n).at_ 0 []) (n + 1)
  else fail E 3 n
def bracketed : Nat -> Nat -> Nat -> Res Ex
 | 0, _, _ => .out
 | f + 1, d, n => (take E tLp n).bind fun _ n1 => (tied f 1 (d + 1) n1).bind fun x n2 => (take E tRp n2).bind fun _ n3 => .ok x n3
def tied : Nat -> Nat -> Nat -> Nat -> Res Ex
 | 0, _, _, _ => .out
 | f + 1, least, d, n => if least = 6 then one f d n else (tied f (least + 1) d n).bind fun x m => tloop f least d x m
def tloop : Nat -> Nat -> Nat -> Ex -> Nat -> Res Ex
 | 0, _, _, _, _ => .out
 | f + 1, least, d, x, n => if bN (opV (pk E n).text) = least then (tied f (least + 1) d (n + 1)).bind fun y m => tloop f least d (.mk 5 (pk E n).at_ 0 (opV (pk E n).text) [] x y .nil) m else .ok x n
def named : Nat -> Nat -> Nat -> Res Ex
 | 0, _, _ => .out
 | f + 1, d, n => if (pk E (n + 1)).text = tLp then call f d (pk E n) (n + 1) else .ok (leaf 4 (pk E n).at_ 0 (pk E n).text) (n + 1)
def call : Nat -> Nat -> Tok -> Nat -> Res Ex
 | 0, _, _, _ => .out
 | f + 1, d, t, n => (take E tLp n).bind fun _ n1 => if (pk E n1).text = tRp then .ok (.mk 7 t.at_ 0 0 t.text .nil .nil .nil) (n1 + 1) else (args f d .nil n1).bind fun l n2 => .ok (.mk 7 t.at_ 0 0 t.text .nil .nil l) n2
def args : Nat -> Nat -> Exs -> Nat -> Res Exs
 | 0, _, _, _ => .out
 | f + 1, d, acc, n => (tied f 1 (d + 1) n).bind fun x m => if (pk E m).text = cB then args f d (acc.snoc x) (m + 1) else (take E tRp m).bind fun _ m2 => .ok (acc.snoc x) m2
end
def dJ (f d n : Nat) : Res Ex := tied E f 1 d n
def stz (code at_ : Nat) (name : B) (to val : Ex) : St := .mk code at_ name to val .nil .nil .nil
def codeOf : Ex -> Nat
 | .nil => 0
 | .mk c _ _ _ _ _ _ _ => c
def leftOf : Ex -> Ex
 | .nil => .nil
 | .mk _ _ _ _ _ l _ _ => l
def cN (f n : Nat) : Res St :=
 if (pk E n).kind = 1 /\ (pk E (n + 1)).text = iQ then (dJ E f 0 (n + 2)).bind fun x m => .ok (stz 1 (pk E n).at_ (pk E n).text .nil x) m
 else if (pk E n).kind = 1 /\ (pk E (n + 1)).text = pW then (dJ E f 0 (n + 2)).bind fun x m => .ok (stz 2 (pk E n).at_ (pk E n).text .nil x) m
 else (one E f 0 n).bind fun x m =>
  if (pk E m).text = aM then (dJ E f 0 (m + 1)).bind fun y m2 => .ok (stz 3 (pk E n).at_ [] x y) m2
  else if codeOf x = 7 \/ codeOf x = 10 then .ok (stz 11 (pk E n).at_ [] .nil x) m
  else fail E 3 m
def hH (f n : Nat) : Res (Nat × B × Ex × Ex) :=
 if (pk E n).kind = 1 /\ (pk E (n + 1)).text = iQ then (take E aM (n + 2)).bind fun _ m => (one E f 0 m).bind fun x m2 => .ok (10, (pk E n).text, x, .nil) m2
 else (one E f 0 n).bind fun x m =>
  if (pk E m).text = aM then (dJ E f 0 (m + 1)).bind fun y m2 => .ok (3, [], x, y) m2
  else if codeOf x = 10 then .ok (10, [], leftOf x, .nil) m
  else fail E 3 m
def cR (dep n : Nat) : Res Tok := if (pk E n).text = tLb /\ 12 <= dep then fail E 4 n else take E tLb n
mutual
def block : Nat -> Nat -> Nat -> Res Sts
 | 0, _, _ => .out
 | f + 1, dep, n => (cR E dep n).bind fun _ n1 => (stmts f (dep + 1) false .nil n1).bind fun l n2 => (take E tRb n2).bind fun _ n3 => .ok l n3
def stmts : Nat -> Nat -> Bool -> Sts -> Nat -> Res Sts
 | 0, _, _, _, _ => .out
 | f + 1, dep, cs, acc, n =>
  if (pk E n).text = tRb \/ (cs = true /\ ((pk E n).text = gM \/ (pk E n).text = bE)) then .ok acc n
  else (stmt f dep n).bind fun s m => if (pk E m).text = tRb then stmts f dep cs (acc.snoc s) m else (aF E 5 m).bind fun _ m2 => stmts f dep cs (acc.snoc s) m2
def stmt : Nat -> Nat -> Nat -> Res St
 | 0, _, _ => .out
 | f + 1, dep, n =>
  if (pk E n).text = iI then (bracketed E f 0 (n + 1)).bind fun x m => .ok (stz 4 (pk E n).at_ [] .nil x) m
  else if (pk E n).text = iJ then (dJ E f 0 (n + 1)).bind fun x m => .ok (stz 5 (pk E n).at_ [] .nil x) m
  else if (pk E n).text = iK then (dJ E f 0 (n + 1)).bind fun x m => .ok (stz 6 (pk E n).at_ [] .nil x) m
  else if (pk E n).text = tGo then (aF E 1 (n + 1)).bind fun t m => (call E f 0 t m).bind fun x m2 => .ok (stz 7 (pk E n).at_ [] .nil x) m2
  else if (pk E n).text = dH then (if (pk E (n + 1)).kind = 5 \/ (pk E (n + 1)).text = tRb then .ok (stz 8 (pk E n).at_ [] .nil .nil) (n + 1) else (dJ E f 0 (n + 1)).bind fun x m => .ok (stz 8 (pk E n).at_ [] .nil x) m)
  else if (pk E n).text = iL then .ok (stz 9 (pk E n).at_ [] .nil .nil) (n + 1)
  else if (pk E n).text = cP then .ok (stz 10 (pk E n).at_ [] .nil .nil) (n + 1)
  else if (pk E n).text = tIf then (dJ E f 0 (n + 1)).bind fun x m => (block f dep m).bind fun a m2 => if (pk E m2).text = lC then (block f dep (m2 + 1)).bind fun b m3 => .ok (.mk 12 (pk E n).at_ [] .nil x a b .nil) m3 else .ok (.mk 12 (pk E n).at_ [] .nil x a .nil .nil) m2
  else if (pk E n).text = pE then (dJ E f 0 (n + 1)).bind fun x m => (block f dep m).bind fun a m2 => .ok (.mk 13 (pk E n).at_ [] .nil x a .nil .nil) m2
  else if (pk E n).text = dI then (cR E dep (n + 1)).bind fun _ m => (cases f (dep + 1) .nil m).bind fun l m2 => (take E tRb m2).bind fun _ m3 => .ok (.mk 14 (pk E n).at_ [] .nil .nil .nil .nil l) m3
  else cN E f n
def cases : Nat -> Nat -> Cas -> Nat -> Res Cas
 | 0, _, _, _ => .out
 | f + 1, dep, acc, n =>
  if (pk E n).text = tRb then .ok acc n
  else if 6 <= acc.len then fail E 4 n
  else (oneCase f dep n).bind fun c m => cases f dep (acc.snoc c) m
def oneCase : Nat -> Nat -> Nat -> Res Ca
 | 0, _, _ => .out
 | f + 1, dep, n =>
  if (pk E n).text = bE then (take E jB (n + 1)).bind fun _ m => (stmts f dep true .nil m).bind fun l m2 => .ok (.mk 40 (pk E n).at_ [] .nil .nil l) m2
  else (take E gM n).bind fun _ m => (hH E f m).bind fun h m2 => (take E jB m2).bind fun _ m3 => (stmts f dep true .nil m3).bind fun l m4 => .ok (.mk h.1 (pk E n).at_ h.2.1 h.2.2.1 h.2.2.2 l) m4
end
def kindV (t : B) : Nat := if t = J8 then 1 else if t = EN then 2 else if t = EO then 3 else 0
def params : Nat -> List Pa -> Nat -> Res (List Pa)
  | 0, _, _ => .out
  | f + 1, acc, n => (aF E 1 n).bind fun t m => if kindV (pk E m).text = 0 then fail E 3 m else
      if (pk E (m + 1)).text = cB then params f (acc ++ [⟨t.text, kindV (pk E m).text, t.at_⟩]) (m + 2) else (take E tRp (m + 1)).bind fun _ m2 => .ok (acc ++ [⟨t.text, kindV (pk E m).text, t.at_⟩]) m2
def function (f n : Nat) : Res Fu :=
 (take E kW n).bind fun _ n1 => (aF E 1 n1).bind fun t n2 => (take E tLp n2).bind fun _ n3 =>
  (if (pk E n3).text = tRp then .ok [] (n3 + 1) else params E f [] n3).bind fun ps n4 =>
   (block E f 0 (if kindV (pk E n4).text = 0 then n4 else n4 + 1)).bind fun b n5 => .ok ⟨t.text, t.at_, ps, kindV (pk E n4).text, b⟩ n5
def program : Nat -> Src -> Nat -> Res Src
 | 0, _, _ => .out
 | f + 1, src, n =>
  if E.toks.length <= n then .ok src n
  else if (pk E n).text = pD then (if 8 <= src.globals.length then fail E 4 n else (aF E 1 (n + 1)).bind fun t m => (aF E 5 m).bind fun _ m2 => program f ⟨src.globals ++ [⟨t.text, t.at_⟩], src.funcs⟩ m2)
  else if (pk E n).text = kW then (if 12 <= src.funcs.length then fail E 4 n else (function E f n).bind fun g m => (aF E 5 m).bind fun _ m2 => program f ⟨src.globals, src.funcs ++ [g]⟩ m2)
  else fail E 3 n
theorem cZ (t : B) (n : Nat) : take E t n ≠ .out := by
 unfold take fail; split <;> (intro h; cases h)
theorem bR (k n : Nat) : aF E k n ≠ .out := by
 unfold aF fail; split <;> (intro h; cases h)
theorem bX (f d n : Nat) : bracketed E (f + 1) d n = (take E tLp n).bind fun _ n1 => (tied E f 1 (d + 1) n1).bind fun x n2 => (take E tRp n2).bind fun _ n3 => .ok x n3 := by rw [bracketed]
theorem iT (f least d n : Nat) : tied E (f + 1) least d n = if least = 6 then one E f d n else (tied E f (least + 1) d n).bind fun x m => tloop E f least d x m := by rw [tied]
theorem hM (f least d n : Nat) (x : Ex) : tloop E (f + 1) least d x n = if bN (opV (pk E n).text) = least then (tied E f (least + 1) d (n + 1)).bind fun y m => tloop E f least d (.mk 5 (pk E n).at_ 0 (opV (pk E n).text) [] x y .nil) m else .ok x n := by rw [tloop]
theorem hU (f d n : Nat) : named E (f + 1) d n = if (pk E (n + 1)).text = tLp then call E f d (pk E n) (n + 1) else .ok (leaf 4 (pk E n).at_ 0 (pk E n).text) (n + 1) := by rw [named]
theorem iU (f d n : Nat) (t : Tok) : call E (f + 1) d t n = (take E tLp n).bind fun _ n1 => if (pk E n1).text = tRp then .ok (.mk 7 t.at_ 0 0 t.text .nil .nil .nil) (n1 + 1) else (args E f d .nil n1).bind fun l n2 => .ok (.mk 7 t.at_ 0 0 t.text .nil .nil l) n2 := by rw [call]
theorem kA (f d n : Nat) (acc : Exs) : args E (f + 1) d acc n = (tied E f 1 (d + 1) n).bind fun x m => if (pk E m).text = cB then args E f d (acc.snoc x) (m + 1) else (take E tRp m).bind fun _ m2 => .ok (acc.snoc x) m2 := by rw [args]
def Ev {α : Type} (g : Nat -> Res α) (r : Res α) : Prop := r ≠ .out /\ ∃ f0, ∀ f, f0 <= f -> g f = r
theorem Ev.now {α : Type} {g : Nat -> Res α} {r : Res α} (hr : r ≠ .out) (h : ∀ f, g (f + 1) = r) : Ev g r :=
 ⟨hr, 1, fun f hf => by obtain ⟨q, rfl⟩ : ∃ q, f = q + 1 := ⟨f - 1, by omega⟩; exact h q⟩
theorem Ev.pure {α : Type} {g : Nat -> Res α} {r : Res α} (hr : r ≠ .out) (h : ∀ f, g f = r) : Ev g r := ⟨hr, 0, fun f _ => h f⟩
theorem Ev.step {α : Type} {g h : Nat -> Res α} {r : Res α} (e : ∀ f, g (f + 1) = h f) (hh : Ev h r) : Ev g r := by
 obtain ⟨h1, f0, h2⟩ := hh
 exact ⟨h1, f0 + 1, fun f hf => by obtain ⟨q, rfl⟩ : ∃ q, f = q + 1 := ⟨f - 1, by omega⟩; rw [e]; exact h2 q (by omega)⟩
theorem Ev.bad {α β : Type} {g : Nat -> Res α} {k : Nat -> α -> Nat -> Res β} {a b : Nat} (h : Ev g (.bad a b)) : Ev (fun f => (g f).bind (k f)) (.bad a b) := by
 obtain ⟨_, f0, h2⟩ := h
 exact ⟨(fun e => by cases e), f0, fun f hf => by show (g f).bind (k f) = _; rw [h2 f hf]; rfl⟩
theorem Ev.then {α β : Type} {g : Nat -> Res α} {k : Nat -> α -> Nat -> Res β} {x : α} {n : Nat} {r : Res β} (h : Ev g (.ok x n)) (hk : Ev (fun f => k f x n) r) : Ev (fun f => (g f).bind (k f)) r := by
 obtain ⟨_, f0, h2⟩ := h
 obtain ⟨hr, f1, h3⟩ := hk
 exact ⟨hr, max f0 f1, fun f hf => by show (g f).bind (k f) = _; rw [h2 f (by omega)]; exact h3 f (by omega)⟩
end Tr
end Go.Proofs.YtnpapppipccdbaaGreatDoor
namespace Go.Proofs.YtnpapppipccdbaaGreatDoor
namespace Tr
open Lx
variable {E : Env}
theorem aA {α β : Type} {r : Res α} {k : α -> Nat -> Res β} {y : β} {m : Nat} (h : r.bind k = .ok y m) : ∃ x n, r = .ok x n /\ k x n = .ok y m := by
 cases r with
 | out => cases h
 | bad a b => cases h
 | ok x n => exact ⟨x, n, rfl, h⟩
theorem aW {t : B} {n m : Nat} {x : Tok} (h : take E t n = .ok x m) : n < m := by
 unfold take fail at h
 split at h
 ·cases h; exact Nat.lt_succ_self _
 ·cases h
theorem aS {k n m : Nat} {x : Tok} (h : aF E k n = .ok x m) : n < m := by
 unfold aF fail at h
 split at h
 ·cases h; exact Nat.lt_succ_self _
 ·cases h
theorem aP {α : Type} {k n m : Nat} {x : α} (h : (fail E k n : Res α) = .ok x m) : False := by cases h
structure Ons (E : Env) (f : Nat) : Prop where
 one : ∀ d n x m, one E f d n = .ok x m -> n < m
 bracketed : ∀ d n x m, bracketed E f d n = .ok x m -> n < m
 tied : ∀ l d n x m, tied E f l d n = .ok x m -> n < m
 tloop : ∀ l d a n x m, tloop E f l d a n = .ok x m -> n <= m
 named : ∀ d n x m, named E f d n = .ok x m -> n < m
 call : ∀ d t n x m, call E f d t n = .ok x m -> n < m
 args : ∀ d a n x m, args E f d a n = .ok x m -> n < m
set_option maxHeartbeats 1600000 in
theorem ons (f : Nat) : Ons E f := by
  induction f with
  | zero =>
    constructor
    · intro _ _ _ _ h; rw [Tr.one] at h; cases h
    · intro _ _ _ _ h; rw [Tr.bracketed] at h; cases h
    · intro _ _ _ _ _ h; rw [Tr.tied] at h; cases h
    · intro _ _ _ _ _ _ h; rw [Tr.tloop] at h; cases h
    · intro _ _ _ _ h; rw [Tr.named] at h; cases h
    · intro _ _ _ _ _ h; rw [Tr.call] at h; cases h
    · intro _ _ _ _ _ h; rw [Tr.args] at h; cases h
  | succ f ih =>
    constructor
    · intro d n x m h
      rw [Tr.one] at h
      repeat' split at h
      all_goals first
        | exact (aP h).elim
        | (cases h; exact Nat.lt_succ_self _)
        | exact ih.named _ _ _ _ h
        | exact ih.bracketed _ _ _ _ h
        | (obtain ⟨y, k, h1, h2⟩ := aA h
           have := ih.one _ _ _ _ h1
           cases h2
           omega)
        | (obtain ⟨y, k, h1, h2⟩ := aA h
           have := ih.bracketed _ _ _ _ h1
           cases h2
           omega)
    · intro d n x m h
      rw [bX] at h
      obtain ⟨_, n1, h1, h⟩ := aA h
      obtain ⟨_, n2, h2, h⟩ := aA h
      obtain ⟨_, n3, h3, h⟩ := aA h
      have := aW h1
      have := aW h3
      have := ih.tied _ _ _ _ _ h2
      cases h
      omega
    · intro l d n x m h
      rw [iT] at h
      split at h
      · exact ih.one _ _ _ _ h
      · obtain ⟨_, n1, h1, h⟩ := aA h
        have := ih.tied _ _ _ _ _ h1
        have := ih.tloop _ _ _ _ _ _ h
        omega
    · intro l d a n x m h
      rw [hM] at h
      split at h
      · obtain ⟨_, n1, h1, h⟩ := aA h
        have := ih.tied _ _ _ _ _ h1
        have := ih.tloop _ _ _ _ _ _ h
        omega
      · cases h; exact Nat.le_refl _
    · intro d n x m h
      rw [hU] at h
      split at h
      · have := ih.call _ _ _ _ _ h; omega
      · cases h; exact Nat.lt_succ_self _
    · intro d t n x m h
      rw [iU] at h
      obtain ⟨_, n1, h1, h⟩ := aA h
      have := aW h1
      split at h
      · cases h; omega
      · obtain ⟨_, n2, h2, h⟩ := aA h
        have := ih.args _ _ _ _ _ h2
        cases h
        omega
    · intro d a n x m h
      rw [kA] at h
      obtain ⟨_, n1, h1, h⟩ := aA h
      have := ih.tied _ _ _ _ _ h1
      split at h
      · have := ih.args _ _ _ _ _ h; omega
      · obtain ⟨_, n2, h2, h⟩ := aA h
        have := aW h2
        cases h
        omega
theorem Ev.get {α : Type} {g : Nat -> Res α} {r : Res α} (h : Ev g r) : ∃ f, g f = r := by
 obtain ⟨_, f, hf⟩ := h
 exact ⟨f, hf f (Nat.le_refl _)⟩
theorem pX {l d n m : Nat} {x : Ex} (h : Ev (fun f => Tr.tied E f l d n) (.ok x m)) : n < m := by
 obtain ⟨f, hf⟩ := h.get
 exact (ons f).tied _ _ _ _ _ hf
theorem jW (f dep n : Nat) : block E (f + 1) dep n = (cR E dep n).bind fun _ n1 => (stmts E f (dep + 1) false .nil n1).bind fun l n2 => (take E tRb n2).bind fun _ n3 => .ok l n3 := by rw [block]
theorem gB (f dep : Nat) (cs : Bool) (acc : Sts) (n : Nat) : stmts E (f + 1) dep cs acc n =
  if (pk E n).text = tRb \/ (cs = true /\ ((pk E n).text = gM \/ (pk E n).text = bE)) then .ok acc n
  else (stmt E f dep n).bind fun s m => if (pk E m).text = tRb then stmts E f dep cs (acc.snoc s) m else (aF E 5 m).bind fun _ m2 => stmts E f dep cs (acc.snoc s) m2 := by rw [stmts]
theorem dA (f dep n : Nat) : stmt E (f + 1) dep n =
  if (pk E n).text = iI then (bracketed E f 0 (n + 1)).bind fun x m => .ok (stz 4 (pk E n).at_ [] .nil x) m
  else if (pk E n).text = iJ then (dJ E f 0 (n + 1)).bind fun x m => .ok (stz 5 (pk E n).at_ [] .nil x) m
  else if (pk E n).text = iK then (dJ E f 0 (n + 1)).bind fun x m => .ok (stz 6 (pk E n).at_ [] .nil x) m
  else if (pk E n).text = tGo then (aF E 1 (n + 1)).bind fun t m => (call E f 0 t m).bind fun x m2 => .ok (stz 7 (pk E n).at_ [] .nil x) m2
  else if (pk E n).text = dH then (if (pk E (n + 1)).kind = 5 \/ (pk E (n + 1)).text = tRb then .ok (stz 8 (pk E n).at_ [] .nil .nil) (n + 1) else (dJ E f 0 (n + 1)).bind fun x m => .ok (stz 8 (pk E n).at_ [] .nil x) m)
  else if (pk E n).text = iL then .ok (stz 9 (pk E n).at_ [] .nil .nil) (n + 1)
  else if (pk E n).text = cP then .ok (stz 10 (pk E n).at_ [] .nil .nil) (n + 1)
  else if (pk E n).text = tIf then (dJ E f 0 (n + 1)).bind fun x m => (block E f dep m).bind fun a m2 => if (pk E m2).text = lC then (block E f dep (m2 + 1)).bind fun b m3 => .ok (.mk 12 (pk E n).at_ [] .nil x a b .nil) m3 else .ok (.mk 12 (pk E n).at_ [] .nil x a .nil .nil) m2
  else if (pk E n).text = pE then (dJ E f 0 (n + 1)).bind fun x m => (block E f dep m).bind fun a m2 => .ok (.mk 13 (pk E n).at_ [] .nil x a .nil .nil) m2
  else if (pk E n).text = dI then (cR E dep (n + 1)).bind fun _ m => (cases E f (dep + 1) .nil m).bind fun l m2 => (take E tRb m2).bind fun _ m3 => .ok (.mk 14 (pk E n).at_ [] .nil .nil .nil .nil l) m3
  else cN E f n := by rw [stmt]
theorem hY (f dep : Nat) (acc : Cas) (n : Nat) : cases E (f + 1) dep acc n =
  if (pk E n).text = tRb then .ok acc n
  else if 6 <= acc.len then fail E 4 n
  else (oneCase E f dep n).bind fun c m => cases E f dep (acc.snoc c) m := by rw [cases]
theorem dK (f dep n : Nat) : oneCase E (f + 1) dep n =
  if (pk E n).text = bE then (take E jB (n + 1)).bind fun _ m => (stmts E f dep true .nil m).bind fun l m2 => .ok (.mk 40 (pk E n).at_ [] .nil .nil l) m2
  else (take E gM n).bind fun _ m => (hH E f m).bind fun h m2 => (take E jB m2).bind fun _ m3 => (stmts E f dep true .nil m3).bind fun l m4 => .ok (.mk h.1 (pk E n).at_ h.2.1 h.2.2.1 h.2.2.2 l) m4 := by rw [oneCase]
theorem eO {f d n m : Nat} {x : Ex} (h : dJ E f d n = .ok x m) : n < m := (ons f).tied _ _ _ _ _ h
theorem uA {dep n m : Nat} {t : Tok} (h : cR E dep n = .ok t m) : n < m := by
 unfold cR at h
 split at h
 ·exact (aP h).elim
 ·exact aW h
theorem vH {f n m : Nat} {s : St} (h : cN E f n = .ok s m) : n < m := by
 unfold cN at h
 split at h
 ·obtain ⟨_, k, h1, h2⟩ := aA h
  have := eO h1
  cases h2; omega
 ·split at h
  ·obtain ⟨_, k, h1, h2⟩ := aA h
   have := eO h1
   cases h2; omega
  ·obtain ⟨_, k, h1, h2⟩ := aA h
   have := (ons f).one _ _ _ _ h1
   split at h2
   ·obtain ⟨_, k2, h3, h4⟩ := aA h2
    have := eO h3
    cases h4; omega
   ·split at h2
    ·cases h2; omega
    ·exact (aP h2).elim
theorem uB {f n m : Nat} {x : Nat × B × Ex × Ex} (h : hH E f n = .ok x m) : n < m := by
 unfold hH at h
 split at h
 ·obtain ⟨_, k, h1, h2⟩ := aA h
  obtain ⟨_, k2, h3, h4⟩ := aA h2
  have := aW h1
  have := (ons f).one _ _ _ _ h3
  cases h4; omega
 ·obtain ⟨_, k, h1, h2⟩ := aA h
  have := (ons f).one _ _ _ _ h1
  split at h2
  ·obtain ⟨_, k2, h3, h4⟩ := aA h2
   have := eO h3
   cases h4; omega
  ·split at h2
   ·cases h2; omega
   ·exact (aP h2).elim
structure Sons (E : Env) (f : Nat) : Prop where
 block : ∀ dep n x m, block E f dep n = .ok x m -> n < m
 stmts : ∀ dep cs acc n x m, stmts E f dep cs acc n = .ok x m -> n <= m
 stmt : ∀ dep n x m, stmt E f dep n = .ok x m -> n < m
 cases : ∀ dep acc n x m, cases E f dep acc n = .ok x m -> n <= m
 oneCase : ∀ dep n x m, oneCase E f dep n = .ok x m -> n < m
set_option maxHeartbeats 1600000 in
theorem kB (f : Nat) : Sons E f := by
 induction f with
 | zero =>
  constructor
  ·intro _ _ _ _ h; rw [Tr.block] at h; cases h
  ·intro _ _ _ _ _ _ h; rw [Tr.stmts] at h; cases h
  ·intro _ _ _ _ h; rw [Tr.stmt] at h; cases h
  ·intro _ _ _ _ _ h; rw [Tr.cases] at h; cases h
  ·intro _ _ _ _ h; rw [Tr.oneCase] at h; cases h
 | succ f ih =>
  constructor
  ·intro dep n x m h
   rw [jW] at h
   obtain ⟨_, n1, h1, h⟩ := aA h
   obtain ⟨_, n2, h2, h⟩ := aA h
   obtain ⟨_, n3, h3, h⟩ := aA h
   have := uA h1
   have := ih.stmts _ _ _ _ _ _ h2
   have := aW h3
   cases h; omega
  ·intro dep cs acc n x m h
   rw [gB] at h
   split at h
   ·cases h; exact Nat.le_refl _
   ·obtain ⟨_, n1, h1, h⟩ := aA h
    have := ih.stmt _ _ _ _ h1
    split at h
    ·have := ih.stmts _ _ _ _ _ _ h; omega
    ·obtain ⟨_, n2, h2, h⟩ := aA h
     have := aS h2
     have := ih.stmts _ _ _ _ _ _ h; omega
  ·intro dep n x m h
   rw [dA] at h
   by_cases q0 : (pk E n).text = iI
   ·rw [if_pos q0] at h
    obtain ⟨_, k, h1, h2⟩ := aA h
    have := (ons f).bracketed _ _ _ _ h1
    cases h2; omega
   rw [if_neg q0] at h
   by_cases q1 : (pk E n).text = iJ
   ·rw [if_pos q1] at h
    obtain ⟨_, k, h1, h2⟩ := aA h
    have := eO h1
    cases h2; omega
   rw [if_neg q1] at h
   by_cases q2 : (pk E n).text = iK
   ·rw [if_pos q2] at h
    obtain ⟨_, k, h1, h2⟩ := aA h
    have := eO h1
    cases h2; omega
   rw [if_neg q2] at h
   by_cases q3 : (pk E n).text = tGo
   ·rw [if_pos q3] at h
    obtain ⟨_, k, h1, h2⟩ := aA h
    obtain ⟨_, k2, h3, h4⟩ := aA h2
    have := aS h1
    have := (ons f).call _ _ _ _ _ h3
    cases h4; omega
   rw [if_neg q3] at h
   by_cases q4 : (pk E n).text = dH
   ·rw [if_pos q4] at h
    by_cases q5 : (pk E (n + 1)).kind = 5 \/ (pk E (n + 1)).text = tRb
    ·rw [if_pos q5] at h; cases h; omega
    ·rw [if_neg q5] at h
     obtain ⟨_, k, h1, h2⟩ := aA h
     have := eO h1
     cases h2; omega
   rw [if_neg q4] at h
   by_cases q5 : (pk E n).text = iL
   ·rw [if_pos q5] at h
    cases h; omega
   rw [if_neg q5] at h
   by_cases q6 : (pk E n).text = cP
   ·rw [if_pos q6] at h
    cases h; omega
   rw [if_neg q6] at h
   by_cases q7 : (pk E n).text = tIf
   ·rw [if_pos q7] at h
    obtain ⟨_, k, h1, h2⟩ := aA h
    obtain ⟨_, k2, h3, h4⟩ := aA h2
    have := eO h1
    have := ih.block _ _ _ _ h3
    by_cases q5 : (pk E k2).text = lC
    ·rw [if_pos q5] at h4
     obtain ⟨_, k3, h5, h6⟩ := aA h4
     have := ih.block _ _ _ _ h5
     cases h6; omega
    ·rw [if_neg q5] at h4
     cases h4; omega
   rw [if_neg q7] at h
   by_cases q8 : (pk E n).text = pE
   ·rw [if_pos q8] at h
    obtain ⟨_, k, h1, h2⟩ := aA h
    obtain ⟨_, k2, h3, h4⟩ := aA h2
    have := eO h1
    have := ih.block _ _ _ _ h3
    cases h4; omega
   rw [if_neg q8] at h
   by_cases q9 : (pk E n).text = dI
   ·rw [if_pos q9] at h
    obtain ⟨_, k, h1, h2⟩ := aA h
    obtain ⟨_, k2, h3, h4⟩ := aA h2
    obtain ⟨_, k3, h5, h6⟩ := aA h4
    have := uA h1
    have := ih.cases _ _ _ _ _ h3
    have := aW h5
    cases h6; omega
   rw [if_neg q9] at h
   exact vH h
  ·intro dep acc n x m h
   rw [hY] at h
   split at h
   ·cases h; exact Nat.le_refl _
   split at h
   ·exact (aP h).elim
   ·obtain ⟨_, n1, h1, h⟩ := aA h
    have := ih.oneCase _ _ _ _ h1
    have := ih.cases _ _ _ _ _ h; omega
  ·intro dep n x m h
   rw [dK] at h
   split at h
   ·obtain ⟨_, n1, h1, h⟩ := aA h
    obtain ⟨_, n2, h2, h⟩ := aA h
    have := aW h1
    have := ih.stmts _ _ _ _ _ _ h2
    cases h; omega
   ·obtain ⟨_, n1, h1, h⟩ := aA h
    obtain ⟨_, n2, h2, h⟩ := aA h
    obtain ⟨_, n3, h3, h⟩ := aA h
    obtain ⟨_, n4, h4, h⟩ := aA h
    have := aW h1
    have := uB h2
    have := aW h3
    have := ih.stmts _ _ _ _ _ _ h4
    cases h; omega
theorem pY {dep n m : Nat} {s : St} (h : Ev (fun f => Tr.stmt E f dep n) (.ok s m)) : n < m := by
 obtain ⟨f, hf⟩ := h.get
 exact (kB f).stmt _ _ _ _ hf
theorem pZ {dep n m : Nat} {s : Ca} (h : Ev (fun f => Tr.oneCase E f dep n) (.ok s m)) : n < m := by
 obtain ⟨f, hf⟩ := h.get
 exact (kB f).oneCase _ _ _ _ hf
end Tr
end Go.Proofs.YtnpapppipccdbaaGreatDoor
namespace Go.Proofs.YtnpapppipccdbaaGreatDoor
namespace Tr
open Lx
mutual
def exE : Ex -> Ex
 | .nil => .nil
 | .mk c _ n op nm l r zs => .mk c 0 n op nm (exE l) (exE r) (gC zs)
def gC : Exs -> Exs
 | .nil => .nil
 | .cons x xs => .cons (exE x) (gC xs)
end
mutual
def stE : St -> St
 | .mk c _ nm to v t e cs => .mk c 0 nm (exE to) (exE v) (cS t) (cS e) (hZ cs)
def cS : Sts -> Sts
 | .nil => .nil
 | .cons x xs => .cons (stE x) (cS xs)
def caE : Ca -> Ca
 | .mk c _ nm to v b => .mk c 0 nm (exE to) (exE v) (cS b)
def hZ : Cas -> Cas
 | .nil => .nil
 | .cons x xs => .cons (caE x) (hZ xs)
end
def paE (p : Pa) : Pa := ⟨p.name, p.kind, 0⟩
def fuE (g : Fu) : Fu := ⟨g.name, 0, g.params.map paE, g.kind, cS g.body⟩
def glE (g : Gl) : Gl := ⟨g.name, 0⟩
theorem iM {c a a' n op : Nat} {nm : B} {l r l' r' : Ex} {zs zq : Exs} (hl : exE l' = exE l) (hr : exE r' = exE r) (has : gC zq = gC zs) : exE (.mk c a' n op nm l' r' zq) = exE (.mk c a n op nm l r zs) := by
 rw [exE, exE, hl, hr, has]
theorem p4 {c a a' : Nat} {nm : B} {to v to' v' : Ex} {t e t' e' : Sts} {cs cs' : Cas} (h1 : exE to' = exE to) (h2 : exE v' = exE v) (h3 : cS t' = cS t) (h4 : cS e' = cS e) (h5 : hZ cs' = hZ cs) : stE (.mk c a' nm to' v' t' e' cs') = stE (.mk c a nm to v t e cs) := by
 rw [stE, stE, h1, h2, h3, h4, h5]
theorem fJ {c a a' : Nat} {nm : B} {to v to' v' : Ex} (h1 : exE to' = exE to) (h2 : exE v' = exE v) : stE (stz c a' nm to' v') = stE (stz c a nm to v) := p4 h1 h2 rfl rfl rfl
theorem EP {c a a' : Nat} {nm : B} {to v to' v' : Ex} {t t' : Sts} (h1 : exE to' = exE to) (h2 : exE v' = exE v) (h3 : cS t' = cS t) : caE (.mk c a' nm to' v' t') = caE (.mk c a nm to v t) := by
 rw [caE, caE, h1, h2, h3]
theorem jX : ∀ (xs : Exs) (y : Ex), gC (xs.snoc y) = (gC xs).snoc (exE y)
 | .nil, y => by rw [Exs.snoc, gC, gC, gC, Exs.snoc]
 | .cons x xs, y => by rw [Exs.snoc, gC, gC, Exs.snoc, jX xs y]
theorem jY : ∀ (xs : Sts) (y : St), cS (xs.snoc y) = (cS xs).snoc (stE y)
 | .nil, y => by rw [Sts.snoc, cS, cS, cS, Sts.snoc]
 | .cons x xs, y => by rw [Sts.snoc, cS, cS, Sts.snoc, jY xs y]
theorem oA : ∀ (xs : Cas) (y : Ca), hZ (xs.snoc y) = (hZ xs).snoc (caE y)
 | .nil, y => by rw [Cas.snoc, hZ, hZ, hZ, Cas.snoc]
 | .cons x xs, y => by rw [Cas.snoc, hZ, hZ, Cas.snoc, oA xs y]
theorem p5 : ∀ xs : Cas, (hZ xs).len = xs.len
 | .nil => by rw [hZ]
 | .cons x xs => by rw [hZ, Cas.len, Cas.len, p5 xs]
theorem vI : ∀ x : Ex, codeOf (exE x) = codeOf x
 | .nil => by rw [exE]
 | .mk .. => by rw [exE]; rfl
theorem vJ : ∀ x : Ex, leftOf (exE x) = exE (leftOf x)
 | .nil => by rw [exE]; show Ex.nil = exE Ex.nil; rw [exE]
 | .mk .. => by rw [exE]; rfl
theorem sD {x x' : Ex} (h : exE x' = exE x) : codeOf x' = codeOf x := by rw [<- vI x', h, vI]
theorem CB {x x' : Ex} (h : exE x' = exE x) : exE (leftOf x') = exE (leftOf x) := by rw [<- vJ x', h, vJ]
theorem aJ {α β : Type} {r : Res α} {f : α -> Nat -> Res β} {x : α} {n : Nat} (h : r = .ok x n) : r.bind f = f x n := by rw [h]; rfl
structure Agr (E E' : Env) (k N : Nat) : Prop where
 kind : ∀ n, n < N -> (pk E' (k + n)).kind = (pk E n).kind
 text : ∀ n, n < N -> (pk E' (k + n)).text = (pk E n).text \/ ((pk E n).kind = 5 /\ (pk E n).text = [] /\ (pk E' (k + n)).text = [10])
theorem uC : opV [] = opV [10] := by decide
theorem EQ : jP [] = jP [10] := by decide
section
variable {E E' : Env} {k N : Nat}
theorem Agr.iff (A : Agr E E' k N) {n : Nat} (hn : n < N) {t : B} (h0 : t ≠ []) (h1 : t ≠ [10]) : (pk E' (k + n)).text = t ↔ (pk E n).text = t := by
 rcases A.text n hn with h | ⟨_, h2, h3⟩
 ·rw [h]
 ·rw [h2, h3]
  exact ⟨fun e => absurd e.symm h1, fun e => absurd e.symm h0⟩
theorem Agr.same (A : Agr E E' k N) {n : Nat} (hn : n < N) (h5 : (pk E n).kind ≠ 5) : (pk E' (k + n)).text = (pk E n).text := by
 rcases A.text n hn with h | ⟨h1, _⟩
 ·exact h
 ·exact absurd h1 h5
theorem Agr.op (A : Agr E E' k N) {n : Nat} (hn : n < N) : opV (pk E' (k + n)).text = opV (pk E n).text := by
 rcases A.text n hn with h | ⟨_, h2, h3⟩
 ·rw [h]
 ·rw [h2, h3]; exact uC.symm
theorem Agr.op1 (A : Agr E E' k N) {n : Nat} (hn : n < N) : jP (pk E' (k + n)).text = jP (pk E n).text := by
 rcases A.text n hn with h | ⟨_, h2, h3⟩
 ·rw [h]
 ·rw [h2, h3]; exact EQ.symm
theorem Agr.kindV (A : Agr E E' k N) {n : Nat} (hn : n < N) : kindV (pk E' (k + n)).text = kindV (pk E n).text := by
 rcases A.text n hn with h | ⟨_, h2, h3⟩
 ·rw [h]
 ·rw [h2, h3]; decide
theorem dL (A : Agr E E' k N) {t : B} (h0 : t ≠ []) (h1 : t ≠ [10]) {n m : Nat} {x : Tok} (h : take E t n = .ok x m) (hm : m <= N) : ∃ x', take E' t (k + n) = .ok x' (k + m) := by
 unfold take fail at h
 split at h
 ·rename_i hc
  cases h
  exact ⟨_, by unfold take; rw [if_pos ((A.iff (by omega) h0 h1).2 hc)]; rfl⟩
 ·cases h
theorem dF (A : Agr E E' k N) {q n m : Nat} {x : Tok} (h : aF E q n = .ok x m) (hm : m <= N) : ∃ x', aF E' q (k + n) = .ok x' (k + m) /\ (q ≠ 5 -> x'.text = x.text) := by
 unfold aF fail at h
 split at h
 ·rename_i hc
  cases h
  refine ⟨_, by unfold aF; rw [if_pos (by rw [A.kind n (by omega)]; exact hc)]; rfl, fun hq => ?_⟩
  exact A.same (by omega) (by rw [hc]; exact hq)
 ·cases h
theorem AP (A : Agr E E' k N) {dep n m : Nat} {x : Tok} (h : cR E dep n = .ok x m) (hm : m <= N) : ∃ x', cR E' dep (k + n) = .ok x' (k + m) := by
 have hon := uA h
 unfold cR at h
 split at h
 ·exact (aP h).elim
 ·rename_i hc
  obtain ⟨x', h2⟩ := dL A (by decide) (by decide) h hm
  exact ⟨x', by unfold cR; rw [if_neg (fun e => hc ⟨(A.iff (by omega) (by decide) (by decide)).1 e.1, e.2⟩)]; exact h2⟩
structure Ags (E E' : Env) (k N f f' : Nat) : Prop where
 one : ∀ d n x m, one E f d n = .ok x m -> m < N -> ∃ x', one E' f' d (k + n) = .ok x' (k + m) /\ exE x' = exE x
 bracketed : ∀ d n x m, bracketed E f d n = .ok x m -> m < N -> ∃ x', bracketed E' f' d (k + n) = .ok x' (k + m) /\ exE x' = exE x
 tied : ∀ l d n x m, tied E f l d n = .ok x m -> m < N -> ∃ x', tied E' f' l d (k + n) = .ok x' (k + m) /\ exE x' = exE x
 tloop : ∀ l d a a' n x m, tloop E f l d a n = .ok x m -> m < N -> exE a' = exE a -> ∃ x', tloop E' f' l d a' (k + n) = .ok x' (k + m) /\ exE x' = exE x
 named : ∀ d n x m, named E f d n = .ok x m -> m < N -> (pk E n).kind = 1 -> ∃ x', named E' f' d (k + n) = .ok x' (k + m) /\ exE x' = exE x
 call : ∀ d t t' n x m, call E f d t n = .ok x m -> m < N -> t'.text = t.text -> ∃ x', call E' f' d t' (k + n) = .ok x' (k + m) /\ exE x' = exE x
 args : ∀ d a a' n x m, args E f d a n = .ok x m -> m < N -> gC a' = gC a -> ∃ x', args E' f' d a' (k + n) = .ok x' (k + m) /\ gC x' = gC x
set_option maxHeartbeats 3200000 in
theorem ags (A : Agr E E' k N) (f : Nat) : ∀ f', f <= f' -> Ags E E' k N f f' := by
 induction f with
 | zero =>
  intro f' _
  constructor
  ·intro _ _ _ _ h; rw [Tr.one] at h; cases h
  ·intro _ _ _ _ h; rw [Tr.bracketed] at h; cases h
  ·intro _ _ _ _ _ h; rw [Tr.tied] at h; cases h
  ·intro _ _ _ _ _ _ _ h; rw [Tr.tloop] at h; cases h
  ·intro _ _ _ _ h; rw [Tr.named] at h; cases h
  ·intro _ _ _ _ _ _ h; rw [Tr.call] at h; cases h
  ·intro _ _ _ _ _ _ h; rw [Tr.args] at h; cases h
 | succ f ihf =>
  intro f2 hf2
  obtain ⟨f', rfl⟩ : ∃ q, f2 = q + 1 := ⟨f2 - 1, by omega⟩
  have ih := ihf f' (by omega)
  clear ihf
  constructor
  ·intro d n x m h hm
   have hn := (ons (f + 1)).one _ _ _ _ h
   have hN : n < N := by omega
   have e45 := A.iff hN (t := [45]) (by decide) (by decide)
   have e94 := A.iff hN (t := [94]) (by decide) (by decide)
   have e33 := A.iff hN (t := [33]) (by decide) (by decide)
   have eLp := A.iff hN (t := tLp) (by decide) (by decide)
   have eAr := A.iff hN (t := aM) (by decide) (by decide)
   have eMk := A.iff hN (t := dZ) (by decide) (by decide)
   have eLn := A.iff hN (t := iR) (by decide) (by decide)
   have eTr := A.iff hN (t := eY) (by decide) (by decide)
   have eFa := A.iff hN (t := cW) (by decide) (by decide)
   have eNi := A.iff hN (t := iS) (by decide) (by decide)
   have hk := A.kind n hN
   rw [Tr.one] at h
   rw [Tr.one]
   by_cases c0 : 12 < d
   ·rw [if_pos c0] at h; exact (aP h).elim
   rw [if_neg c0] at h ⊢
   by_cases c1 : (pk E n).kind = 3
   ·rw [if_pos c1] at h
    rw [if_pos (hk.trans c1)]
    cases h
    exact ⟨_, rfl, by rw [A.same hN (by rw [c1]; decide)]; exact iM rfl rfl rfl⟩
   rw [if_neg c1] at h
   rw [if_neg (fun e => c1 (hk.symm.trans e))]
   by_cases c2 : (pk E n).kind = 1
   ·rw [if_pos c2] at h
    rw [if_pos (hk.trans c2)]
    exact ih.named _ _ _ _ h hm c2
   rw [if_neg c2] at h
   rw [if_neg (fun e => c2 (hk.symm.trans e))]
   by_cases c3 : (pk E n).text = tLp
   ·rw [if_pos c3] at h
    rw [if_pos (eLp.2 c3)]
    exact ih.bracketed _ _ _ _ h hm
   rw [if_neg c3] at h
   rw [if_neg (fun e => c3 (eLp.1 e))]
   by_cases c4 : (pk E n).text = [45] \/ (pk E n).text = [94] \/ (pk E n).text = [33]
   ·rw [if_pos c4] at h
    rw [if_pos (c4.imp e45.2 (Or.imp e94.2 e33.2))]
    obtain ⟨y, n1, h1, h⟩ := aA h
    cases h
    obtain ⟨y', h2, h3⟩ := ih.one _ _ _ _ h1 hm
    rw [Nat.add_assoc, aJ h2, A.op1 hN]
    exact ⟨_, rfl, iM h3 rfl rfl⟩
   rw [if_neg c4] at h
   rw [if_neg (fun e => c4 (e.imp e45.1 (Or.imp e94.1 e33.1)))]
   by_cases c5 : (pk E n).text = aM
   ·rw [if_pos c5] at h
    rw [if_pos (eAr.2 c5)]
    obtain ⟨y, n1, h1, h⟩ := aA h
    cases h
    obtain ⟨y', h2, h3⟩ := ih.one _ _ _ _ h1 hm
    rw [Nat.add_assoc, aJ h2]
    exact ⟨_, rfl, iM h3 rfl rfl⟩
   rw [if_neg c5] at h
   rw [if_neg (fun e => c5 (eAr.1 e))]
   by_cases c6 : (pk E n).text = dZ
   ·rw [if_pos c6] at h
    rw [if_pos (eMk.2 c6)]
    obtain ⟨y, n1, h1, h⟩ := aA h
    cases h
    obtain ⟨y', h2, h3⟩ := ih.bracketed _ _ _ _ h1 hm
    rw [Nat.add_assoc, aJ h2]
    exact ⟨_, rfl, iM h3 rfl rfl⟩
   rw [if_neg c6] at h
   rw [if_neg (fun e => c6 (eMk.1 e))]
   by_cases c7 : (pk E n).text = iR
   ·rw [if_pos c7] at h
    rw [if_pos (eLn.2 c7)]
    obtain ⟨y, n1, h1, h⟩ := aA h
    cases h
    obtain ⟨y', h2, h3⟩ := ih.bracketed _ _ _ _ h1 hm
    rw [Nat.add_assoc, aJ h2]
    exact ⟨_, rfl, iM h3 rfl rfl⟩
   rw [if_neg c7] at h
   rw [if_neg (fun e => c7 (eLn.1 e))]
   by_cases c8 : (pk E n).text = eY
   ·rw [if_pos c8] at h
    rw [if_pos (eTr.2 c8)]
    cases h
    exact ⟨_, rfl, iM rfl rfl rfl⟩
   rw [if_neg c8] at h
   rw [if_neg (fun e => c8 (eTr.1 e))]
   by_cases c9 : (pk E n).text = cW
   ·rw [if_pos c9] at h
    rw [if_pos (eFa.2 c9)]
    cases h
    exact ⟨_, rfl, iM rfl rfl rfl⟩
   rw [if_neg c9] at h
   rw [if_neg (fun e => c9 (eFa.1 e))]
   by_cases c10 : (pk E n).text = iS
   ·rw [if_pos c10] at h
    rw [if_pos (eNi.2 c10)]
    cases h
    exact ⟨_, rfl, iM rfl rfl rfl⟩
   rw [if_neg c10] at h
   exact (aP h).elim
  ·intro d n x m h hm
   rw [bX] at h
   obtain ⟨_, n1, h1, h⟩ := aA h
   obtain ⟨y, n2, h2, h⟩ := aA h
   obtain ⟨_, n3, h3, h⟩ := aA h
   have a3 := aW h3
   have a2 := (ons f).tied _ _ _ _ _ h2
   cases h
   obtain ⟨_, g1⟩ := dL A (by decide) (by decide) h1 (by omega)
   obtain ⟨y', g2, r2⟩ := ih.tied _ _ _ _ _ h2 (by omega)
   obtain ⟨_, g3⟩ := dL A (by decide) (by decide) h3 (by omega)
   exact ⟨y', by rw [bX, aJ g1, aJ g2, aJ g3], r2⟩
  ·intro l d n x m h hm
   rw [iT] at h
   rw [iT]
   by_cases c : l = 6
   ·rw [if_pos c] at h ⊢
    exact ih.one _ _ _ _ h hm
   ·rw [if_neg c] at h ⊢
    obtain ⟨y, n1, h1, h⟩ := aA h
    have a2 := (ons f).tloop _ _ _ _ _ _ h
    obtain ⟨y', g1, r1⟩ := ih.tied _ _ _ _ _ h1 (by omega)
    rw [aJ g1]
    exact ih.tloop _ _ _ _ _ _ _ h hm r1
  ·intro l d a a' n x m h hm ha
   have hn := (ons (f + 1)).tloop _ _ _ _ _ _ h
   have hN : n < N := by omega
   rw [hM] at h
   rw [hM, A.op hN]
   by_cases c : bN (opV (pk E n).text) = l
   ·rw [if_pos c] at h ⊢
    obtain ⟨y, n1, h1, h⟩ := aA h
    have a2 := (ons f).tloop _ _ _ _ _ _ h
    obtain ⟨y', g1, r1⟩ := ih.tied _ _ _ _ _ h1 (by omega)
    rw [Nat.add_assoc, aJ g1]
    exact ih.tloop _ _ _ _ _ _ _ h hm (iM ha r1 rfl)
   ·rw [if_neg c] at h ⊢
    cases h
    exact ⟨_, rfl, ha⟩
  ·intro d n x m h hm hk
   have hn := (ons (f + 1)).named _ _ _ _ h
   rw [hU] at h
   rw [hU, Nat.add_assoc]
   by_cases c : (pk E (n + 1)).text = tLp
   ·rw [if_pos c] at h
    rw [if_pos ((A.iff (by omega) (by decide) (by decide)).2 c)]
    exact ih.call _ _ _ _ _ _ h hm (A.same (by omega) (by rw [hk]; decide))
   ·rw [if_neg c] at h
    rw [if_neg (fun e => c ((A.iff (by omega) (by decide) (by decide)).1 e))]
    cases h
    exact ⟨_, rfl, by rw [A.same (by omega) (by rw [hk]; decide)]; exact iM rfl rfl rfl⟩
  ·intro d t t' n x m h hm ht
   rw [iU] at h
   rw [iU]
   obtain ⟨_, n1, h1, h⟩ := aA h
   by_cases c : (pk E n1).text = tRp
   ·rw [if_pos c] at h
    cases h
    obtain ⟨_, g1⟩ := dL A (by decide) (by decide) h1 (by omega)
    rw [aJ g1, if_pos ((A.iff (by omega) (by decide) (by decide)).2 c), ht]
    exact ⟨_, rfl, iM rfl rfl rfl⟩
   ·rw [if_neg c] at h
    obtain ⟨y, n2, h2, h⟩ := aA h
    have a2 := (ons f).args _ _ _ _ _ h2
    cases h
    obtain ⟨_, g1⟩ := dL A (by decide) (by decide) h1 (by omega)
    obtain ⟨y', g2, r2⟩ := ih.args _ _ .nil _ _ _ h2 hm rfl
    rw [aJ g1, if_neg (fun e => c ((A.iff (by omega) (by decide) (by decide)).1 e)), aJ g2, ht]
    exact ⟨_, rfl, iM rfl rfl r2⟩
  ·intro d a a' n x m h hm ha
   rw [kA] at h
   rw [kA]
   obtain ⟨y, n1, h1, h⟩ := aA h
   by_cases c : (pk E n1).text = cB
   ·rw [if_pos c] at h
    have a2 := (ons f).args _ _ _ _ _ h
    obtain ⟨y', g1, r1⟩ := ih.tied _ _ _ _ _ h1 (by omega)
    rw [aJ g1, if_pos ((A.iff (by omega) (by decide) (by decide)).2 c), Nat.add_assoc]
    exact ih.args _ _ _ _ _ _ h hm (by rw [jX, jX, ha, r1])
   ·rw [if_neg c] at h
    obtain ⟨_, n2, h2, h⟩ := aA h
    have a2 := aW h2
    cases h
    obtain ⟨y', g1, r1⟩ := ih.tied _ _ _ _ _ h1 (by omega)
    obtain ⟨_, g2⟩ := dL A (by decide) (by decide) h2 (by omega)
    rw [aJ g1, if_neg (fun e => c ((A.iff (by omega) (by decide) (by decide)).1 e)), aJ g2]
    exact ⟨_, rfl, by rw [jX, jX, ha, r1]⟩
end
end Tr
end Go.Proofs.YtnpapppipccdbaaGreatDoor
namespace Go.Proofs.YtnpapppipccdbaaGreatDoor
namespace Tr
open Lx
variable {E E' : Env} {k N : Nat}
theorem gX (A : Agr E E' k N) {f f' d n m : Nat} {x : Ex} (hf : f <= f') (h : dJ E f d n = .ok x m) (hm : m < N) : ∃ x', dJ E' f' d (k + n) = .ok x' (k + m) /\ exE x' = exE x := (ags A f f' hf).tied _ _ _ _ _ h hm
theorem ER (A : Agr E E' k N) {f f' n m : Nat} {s : St} (hf : f <= f') (h : cN E f n = .ok s m) (hm : m < N) : ∃ s', cN E' f' (k + n) = .ok s' (k + m) /\ stE s' = stE s := by
 have hon := vH h
 have hN : n < N := by omega
 have hN1 : n + 1 < N := by omega
 have hk := A.kind n hN
 have e1 := A.iff hN1 (t := iQ) (by decide) (by decide)
 have e2 := A.iff hN1 (t := pW) (by decide) (by decide)
 unfold cN at h
 unfold cN
 rw [Nat.add_assoc k n 1, Nat.add_assoc k n 2]
 by_cases c1 : (pk E n).kind = 1 /\ (pk E (n + 1)).text = iQ
 ·rw [if_pos c1] at h
  rw [if_pos ⟨hk.trans c1.1, e1.2 c1.2⟩]
  obtain ⟨y, n1, h1, h⟩ := aA h
  cases h
  obtain ⟨y', g1, r1⟩ := gX A hf h1 hm
  rw [aJ g1, A.same hN (by rw [c1.1]; decide)]
  exact ⟨_, rfl, fJ rfl r1⟩
 rw [if_neg c1] at h
 rw [if_neg (fun e => c1 ⟨hk.symm.trans e.1, e1.1 e.2⟩)]
 by_cases c2 : (pk E n).kind = 1 /\ (pk E (n + 1)).text = pW
 ·rw [if_pos c2] at h
  rw [if_pos ⟨hk.trans c2.1, e2.2 c2.2⟩]
  obtain ⟨y, n1, h1, h⟩ := aA h
  cases h
  obtain ⟨y', g1, r1⟩ := gX A hf h1 hm
  rw [aJ g1, A.same hN (by rw [c2.1]; decide)]
  exact ⟨_, rfl, fJ rfl r1⟩
 rw [if_neg c2] at h
 rw [if_neg (fun e => c2 ⟨hk.symm.trans e.1, e2.1 e.2⟩)]
 obtain ⟨y, n1, h1, h⟩ := aA h
 by_cases c3 : (pk E n1).text = aM
 ·rw [if_pos c3] at h
  obtain ⟨z, n2, h2, h⟩ := aA h
  have a2 := eO h2
  cases h
  obtain ⟨y', g1, r1⟩ := (ags A f f' hf).one _ _ _ _ h1 (by omega)
  obtain ⟨z', g2, r2⟩ := gX A hf h2 hm
  rw [aJ g1, if_pos ((A.iff (by omega) (by decide) (by decide)).2 c3), Nat.add_assoc k n1 1, aJ g2]
  exact ⟨_, rfl, fJ r1 r2⟩
 rw [if_neg c3] at h
 by_cases c4 : codeOf y = 7 \/ codeOf y = 10
 ·rw [if_pos c4] at h
  cases h
  obtain ⟨y', g1, r1⟩ := (ags A f f' hf).one _ _ _ _ h1 hm
  rw [aJ g1, if_neg (fun e => c3 ((A.iff (by omega) (by decide) (by decide)).1 e)), sD r1, if_pos c4]
  exact ⟨_, rfl, fJ rfl r1⟩
 rw [if_neg c4] at h
 exact (aP h).elim
def tkE (t t' : Nat × B × Ex × Ex) : Prop := t'.1 = t.1 /\ t'.2.1 = t.2.1 /\ exE t'.2.2.1 = exE t.2.2.1 /\ exE t'.2.2.2 = exE t.2.2.2
theorem ID (A : Agr E E' k N) {f f' n m : Nat} {s : Nat × B × Ex × Ex} (hf : f <= f') (h : hH E f n = .ok s m) (hm : m < N) : ∃ s', hH E' f' (k + n) = .ok s' (k + m) /\ tkE s s' := by
 have hon := uB h
 have hN : n < N := by omega
 have hN1 : n + 1 < N := by omega
 have hk := A.kind n hN
 have e1 := A.iff hN1 (t := iQ) (by decide) (by decide)
 unfold hH at h
 unfold hH
 rw [Nat.add_assoc k n 1, Nat.add_assoc k n 2]
 by_cases c1 : (pk E n).kind = 1 /\ (pk E (n + 1)).text = iQ
 ·rw [if_pos c1] at h
  rw [if_pos ⟨hk.trans c1.1, e1.2 c1.2⟩]
  obtain ⟨_, n0, h0, h⟩ := aA h
  obtain ⟨y, n1, h1, h⟩ := aA h
  have a1 := (ons f).one _ _ _ _ h1
  cases h
  obtain ⟨_, g0⟩ := dL A (by decide) (by decide) h0 (by omega)
  obtain ⟨y', g1, r1⟩ := (ags A f f' hf).one _ _ _ _ h1 hm
  rw [aJ g0, aJ g1, A.same hN (by rw [c1.1]; decide)]
  exact ⟨_, rfl, rfl, rfl, r1, rfl⟩
 rw [if_neg c1] at h
 rw [if_neg (fun e => c1 ⟨hk.symm.trans e.1, e1.1 e.2⟩)]
 obtain ⟨y, n1, h1, h⟩ := aA h
 by_cases c3 : (pk E n1).text = aM
 ·rw [if_pos c3] at h
  obtain ⟨z, n2, h2, h⟩ := aA h
  have a2 := eO h2
  cases h
  obtain ⟨y', g1, r1⟩ := (ags A f f' hf).one _ _ _ _ h1 (by omega)
  obtain ⟨z', g2, r2⟩ := gX A hf h2 hm
  rw [aJ g1, if_pos ((A.iff (by omega) (by decide) (by decide)).2 c3), Nat.add_assoc k n1 1, aJ g2]
  exact ⟨_, rfl, rfl, rfl, r1, r2⟩
 rw [if_neg c3] at h
 by_cases c4 : codeOf y = 10
 ·rw [if_pos c4] at h
  cases h
  obtain ⟨y', g1, r1⟩ := (ags A f f' hf).one _ _ _ _ h1 hm
  rw [aJ g1, if_neg (fun e => c3 ((A.iff (by omega) (by decide) (by decide)).1 e)), sD r1, if_pos c4]
  exact ⟨_, rfl, rfl, rfl, CB r1, rfl⟩
 rw [if_neg c4] at h
 exact (aP h).elim
structure Sags (E E' : Env) (k N f f' : Nat) : Prop where
 block : ∀ dep n x m, block E f dep n = .ok x m -> m < N -> ∃ x', block E' f' dep (k + n) = .ok x' (k + m) /\ cS x' = cS x
 stmts : ∀ dep cs a a' n x m, stmts E f dep cs a n = .ok x m -> m < N -> cS a' = cS a -> ∃ x', stmts E' f' dep cs a' (k + n) = .ok x' (k + m) /\ cS x' = cS x
 stmt : ∀ dep n x m, stmt E f dep n = .ok x m -> m < N -> ∃ x', stmt E' f' dep (k + n) = .ok x' (k + m) /\ stE x' = stE x
 cases : ∀ dep a a' n x m, cases E f dep a n = .ok x m -> m < N -> hZ a' = hZ a -> ∃ x', cases E' f' dep a' (k + n) = .ok x' (k + m) /\ hZ x' = hZ x
 oneCase : ∀ dep n x m, oneCase E f dep n = .ok x m -> m < N -> ∃ x', oneCase E' f' dep (k + n) = .ok x' (k + m) /\ caE x' = caE x
set_option maxHeartbeats 6400000 in
theorem L1 (A : Agr E E' k N) (f : Nat) : ∀ f', f <= f' -> Sags E E' k N f f' := by
 induction f with
 | zero =>
  intro f' _
  constructor
  ·intro _ _ _ _ h; rw [Tr.block] at h; cases h
  ·intro _ _ _ _ _ _ _ h; rw [Tr.stmts] at h; cases h
  ·intro _ _ _ _ h; rw [Tr.stmt] at h; cases h
  ·intro _ _ _ _ _ _ h; rw [Tr.cases] at h; cases h
  ·intro _ _ _ _ h; rw [Tr.oneCase] at h; cases h
 | succ f ihf =>
  intro f2 hf2
  obtain ⟨f', rfl⟩ : ∃ q, f2 = q + 1 := ⟨f2 - 1, by omega⟩
  have hf : f <= f' := by omega
  have ih := ihf f' hf
  clear ihf
  constructor
  ·intro dep n x m h hm
   rw [jW] at h
   rw [jW]
   obtain ⟨_, n1, h1, h⟩ := aA h
   obtain ⟨y, n2, h2, h⟩ := aA h
   obtain ⟨_, n3, h3, h⟩ := aA h
   have a2 := (kB f).stmts _ _ _ _ _ _ h2
   have a3 := aW h3
   cases h
   obtain ⟨_, g1⟩ := AP A h1 (by omega)
   obtain ⟨y', g2, r2⟩ := ih.stmts _ _ .nil .nil _ _ _ h2 (by omega) rfl
   obtain ⟨_, g3⟩ := dL A (by decide) (by decide) h3 (by omega)
   exact ⟨y', by rw [aJ g1, aJ g2, aJ g3], r2⟩
  ·intro dep cs a a' n x m h hm ha
   have hon := (kB (f + 1)).stmts _ _ _ _ _ _ h
   have hN : n < N := by omega
   have e1 := A.iff hN (t := tRb) (by decide) (by decide)
   have e2 := A.iff hN (t := gM) (by decide) (by decide)
   have e3 := A.iff hN (t := bE) (by decide) (by decide)
   rw [gB] at h
   rw [gB]
   by_cases c : (pk E n).text = tRb \/ (cs = true /\ ((pk E n).text = gM \/ (pk E n).text = bE))
   ·rw [if_pos c] at h
    rw [if_pos (c.imp e1.2 (And.imp id (Or.imp e2.2 e3.2)))]
    cases h
    exact ⟨_, rfl, ha⟩
   rw [if_neg c] at h
   rw [if_neg (fun e => c (e.imp e1.1 (And.imp id (Or.imp e2.1 e3.1))))]
   obtain ⟨y, n1, h1, h⟩ := aA h
   by_cases c2 : (pk E n1).text = tRb
   ·rw [if_pos c2] at h
    have a2 := (kB f).stmts _ _ _ _ _ _ h
    obtain ⟨y', g1, r1⟩ := ih.stmt _ _ _ _ h1 (by omega)
    rw [aJ g1, if_pos ((A.iff (by omega) (by decide) (by decide)).2 c2)]
    exact ih.stmts _ _ _ _ _ _ _ h hm (by rw [jY, jY, ha, r1])
   ·rw [if_neg c2] at h
    obtain ⟨_, n2, h2, h⟩ := aA h
    have a1 := aS h2
    have a2 := (kB f).stmts _ _ _ _ _ _ h
    obtain ⟨y', g1, r1⟩ := ih.stmt _ _ _ _ h1 (by omega)
    obtain ⟨_, g2, _⟩ := dF A h2 (by omega)
    rw [aJ g1, if_neg (fun e => c2 ((A.iff (by omega) (by decide) (by decide)).1 e)), aJ g2]
    exact ih.stmts _ _ _ _ _ _ _ h hm (by rw [jY, jY, ha, r1])
  ·intro dep n x m h hm
   have hon := (kB (f + 1)).stmt _ _ _ _ h
   have hN : n < N := by omega
   have hN1 : n + 1 < N \/ m = n + 1 := by omega
   have e0 := A.iff hN (t := iI) (by decide) (by decide)
   have e1 := A.iff hN (t := iJ) (by decide) (by decide)
   have e2 := A.iff hN (t := iK) (by decide) (by decide)
   have e3 := A.iff hN (t := tGo) (by decide) (by decide)
   have e4 := A.iff hN (t := dH) (by decide) (by decide)
   have e5 := A.iff hN (t := iL) (by decide) (by decide)
   have e6 := A.iff hN (t := cP) (by decide) (by decide)
   have e7 := A.iff hN (t := tIf) (by decide) (by decide)
   have e8 := A.iff hN (t := pE) (by decide) (by decide)
   have e9 := A.iff hN (t := dI) (by decide) (by decide)
   rw [dA] at h
   rw [dA]
   simp only [Nat.add_assoc]
   by_cases c0 : (pk E n).text = iI
   ·rw [if_pos c0] at h
    rw [if_pos (e0.2 c0)]
    obtain ⟨y, n1, h1, h⟩ := aA h
    cases h
    obtain ⟨y', g1, r1⟩ := (ags A f f' hf).bracketed _ _ _ _ h1 hm
    rw [aJ g1]
    exact ⟨_, rfl, fJ rfl r1⟩
   rw [if_neg c0] at h
   rw [if_neg (fun e => c0 (e0.1 e))]
   by_cases c1 : (pk E n).text = iJ
   ·rw [if_pos c1] at h
    rw [if_pos (e1.2 c1)]
    obtain ⟨y, n1, h1, h⟩ := aA h
    cases h
    obtain ⟨y', g1, r1⟩ := gX A hf h1 hm
    rw [aJ g1]
    exact ⟨_, rfl, fJ rfl r1⟩
   rw [if_neg c1] at h
   rw [if_neg (fun e => c1 (e1.1 e))]
   by_cases c2 : (pk E n).text = iK
   ·rw [if_pos c2] at h
    rw [if_pos (e2.2 c2)]
    obtain ⟨y, n1, h1, h⟩ := aA h
    cases h
    obtain ⟨y', g1, r1⟩ := gX A hf h1 hm
    rw [aJ g1]
    exact ⟨_, rfl, fJ rfl r1⟩
   rw [if_neg c2] at h
   rw [if_neg (fun e => c2 (e2.1 e))]
   by_cases c3 : (pk E n).text = tGo
   ·rw [if_pos c3] at h
    rw [if_pos (e3.2 c3)]
    obtain ⟨t, n1, h1, h⟩ := aA h
    obtain ⟨y, n2, h2, h⟩ := aA h
    have a2 := (ons f).call _ _ _ _ _ h2
    cases h
    obtain ⟨t', g1, r1⟩ := dF A h1 (by omega)
    obtain ⟨y', g2, r2⟩ := (ags A f f' hf).call _ _ t' _ _ _ h2 hm (r1 (by decide))
    rw [aJ g1, aJ g2]
    exact ⟨_, rfl, fJ rfl r2⟩
   rw [if_neg c3] at h
   rw [if_neg (fun e => c3 (e3.1 e))]
   by_cases c4 : (pk E n).text = dH
   ·rw [if_pos c4] at h
    rw [if_pos (e4.2 c4)]
    have hN2 : n + 1 < N := by
     by_cases c : (pk E (n + 1)).kind = 5 \/ (pk E (n + 1)).text = tRb
     ·rw [if_pos c] at h; cases h; omega
     ·rw [if_neg c] at h
      obtain ⟨y, n1, h1, h⟩ := aA h
      have := eO h1
      cases h; omega
    have er := A.iff hN2 (t := tRb) (by decide) (by decide)
    have ek := A.kind (n + 1) hN2
    by_cases c : (pk E (n + 1)).kind = 5 \/ (pk E (n + 1)).text = tRb
    ·rw [if_pos c] at h
     rw [if_pos (c.imp ek.trans er.2)]
     cases h
     exact ⟨_, rfl, fJ rfl rfl⟩
    ·rw [if_neg c] at h
     rw [if_neg (fun e => c (e.imp ek.symm.trans er.1))]
     obtain ⟨y, n1, h1, h⟩ := aA h
     cases h
     obtain ⟨y', g1, r1⟩ := gX A hf h1 hm
     rw [aJ g1]
     exact ⟨_, rfl, fJ rfl r1⟩
   rw [if_neg c4] at h
   rw [if_neg (fun e => c4 (e4.1 e))]
   by_cases c5 : (pk E n).text = iL
   ·rw [if_pos c5] at h
    rw [if_pos (e5.2 c5)]
    cases h
    exact ⟨_, rfl, fJ rfl rfl⟩
   rw [if_neg c5] at h
   rw [if_neg (fun e => c5 (e5.1 e))]
   by_cases c6 : (pk E n).text = cP
   ·rw [if_pos c6] at h
    rw [if_pos (e6.2 c6)]
    cases h
    exact ⟨_, rfl, fJ rfl rfl⟩
   rw [if_neg c6] at h
   rw [if_neg (fun e => c6 (e6.1 e))]
   by_cases c7 : (pk E n).text = tIf
   ·rw [if_pos c7] at h
    rw [if_pos (e7.2 c7)]
    obtain ⟨y, n1, h1, h⟩ := aA h
    obtain ⟨a, n2, h2, h⟩ := aA h
    have b1 := eO h1
    have b2 := (kB f).block _ _ _ _ h2
    by_cases c : (pk E n2).text = lC
    ·rw [if_pos c] at h
     obtain ⟨b, n3, h3, h⟩ := aA h
     have b3 := (kB f).block _ _ _ _ h3
     cases h
     obtain ⟨y', g1, r1⟩ := gX A hf h1 (by omega)
     obtain ⟨a', g2, r2⟩ := ih.block _ _ _ _ h2 (by omega)
     obtain ⟨b', g3, r3⟩ := ih.block _ _ _ _ h3 (by omega)
     rw [aJ g1, aJ g2, if_pos ((A.iff (by omega) (by decide) (by decide)).2 c)]
     simp only [Nat.add_assoc]
     rw [aJ g3]
     exact ⟨_, rfl, p4 rfl r1 r2 r3 rfl⟩
    ·rw [if_neg c] at h
     cases h
     obtain ⟨y', g1, r1⟩ := gX A hf h1 (by omega)
     obtain ⟨a', g2, r2⟩ := ih.block _ _ _ _ h2 (by omega)
     rw [aJ g1, aJ g2, if_neg (fun e => c ((A.iff (by omega) (by decide) (by decide)).1 e))]
     exact ⟨_, rfl, p4 rfl r1 r2 rfl rfl⟩
   rw [if_neg c7] at h
   rw [if_neg (fun e => c7 (e7.1 e))]
   by_cases c8 : (pk E n).text = pE
   ·rw [if_pos c8] at h
    rw [if_pos (e8.2 c8)]
    obtain ⟨y, n1, h1, h⟩ := aA h
    obtain ⟨a, n2, h2, h⟩ := aA h
    have b2 := (kB f).block _ _ _ _ h2
    cases h
    obtain ⟨y', g1, r1⟩ := gX A hf h1 (by omega)
    obtain ⟨a', g2, r2⟩ := ih.block _ _ _ _ h2 (by omega)
    rw [aJ g1, aJ g2]
    exact ⟨_, rfl, p4 rfl r1 r2 rfl rfl⟩
   rw [if_neg c8] at h
   rw [if_neg (fun e => c8 (e8.1 e))]
   by_cases c9 : (pk E n).text = dI
   ·rw [if_pos c9] at h
    rw [if_pos (e9.2 c9)]
    obtain ⟨_, n1, h1, h⟩ := aA h
    obtain ⟨a, n2, h2, h⟩ := aA h
    obtain ⟨_, n3, h3, h⟩ := aA h
    have b2 := (kB f).cases _ _ _ _ _ h2
    have b3 := aW h3
    cases h
    obtain ⟨_, g1⟩ := AP A h1 (by omega)
    obtain ⟨a', g2, r2⟩ := ih.cases _ .nil .nil _ _ _ h2 (by omega) rfl
    obtain ⟨_, g3⟩ := dL A (by decide) (by decide) h3 (by omega)
    rw [aJ g1, aJ g2, aJ g3]
    exact ⟨_, rfl, p4 rfl rfl rfl rfl r2⟩
   rw [if_neg c9] at h
   rw [if_neg (fun e => c9 (e9.1 e))]
   exact ER A hf h hm
  ·intro dep a a' n x m h hm ha
   have hon := (kB (f + 1)).cases _ _ _ _ _ h
   have hN : n < N := by omega
   have e1 := A.iff hN (t := tRb) (by decide) (by decide)
   rw [hY] at h
   rw [hY, show a'.len = a.len by rw [<- p5 a', ha, p5]]
   by_cases c : (pk E n).text = tRb
   ·rw [if_pos c] at h
    rw [if_pos (e1.2 c)]
    cases h
    exact ⟨_, rfl, ha⟩
   rw [if_neg c] at h
   rw [if_neg (fun e => c (e1.1 e))]
   by_cases c2 : 6 <= a.len
   ·rw [if_pos c2] at h; exact (aP h).elim
   rw [if_neg c2] at h ⊢
   obtain ⟨y, n1, h1, h⟩ := aA h
   have b2 := (kB f).cases _ _ _ _ _ h
   obtain ⟨y', g1, r1⟩ := ih.oneCase _ _ _ _ h1 (by omega)
   rw [aJ g1]
   exact ih.cases _ _ _ _ _ _ h hm (by rw [oA, oA, ha, r1])
  ·intro dep n x m h hm
   have hon := (kB (f + 1)).oneCase _ _ _ _ h
   have hN : n < N := by omega
   have e1 := A.iff hN (t := bE) (by decide) (by decide)
   rw [dK] at h
   rw [dK, Nat.add_assoc]
   by_cases c : (pk E n).text = bE
   ·rw [if_pos c] at h
    rw [if_pos (e1.2 c)]
    obtain ⟨_, n1, h1, h⟩ := aA h
    obtain ⟨l, n2, h2, h⟩ := aA h
    have b2 := (kB f).stmts _ _ _ _ _ _ h2
    cases h
    obtain ⟨_, g1⟩ := dL A (by decide) (by decide) h1 (by omega)
    obtain ⟨l', g2, r2⟩ := ih.stmts _ _ .nil .nil _ _ _ h2 hm rfl
    rw [aJ g1, aJ g2]
    exact ⟨_, rfl, EP rfl rfl r2⟩
   rw [if_neg c] at h
   rw [if_neg (fun e => c (e1.1 e))]
   obtain ⟨_, n1, h1, h⟩ := aA h
   obtain ⟨t, n2, h2, h⟩ := aA h
   obtain ⟨_, n3, h3, h⟩ := aA h
   obtain ⟨l, n4, h4, h⟩ := aA h
   have b2 := uB h2
   have b3 := aW h3
   have b4 := (kB f).stmts _ _ _ _ _ _ h4
   cases h
   obtain ⟨_, g1⟩ := dL A (by decide) (by decide) h1 (by omega)
   obtain ⟨t', g2, r2, r3, r4, r5⟩ := ID A hf h2 (by omega)
   obtain ⟨_, g3⟩ := dL A (by decide) (by decide) h3 (by omega)
   obtain ⟨l', g4, r6⟩ := ih.stmts _ _ .nil .nil _ _ _ h4 hm rfl
   rw [aJ g1, aJ g2, aJ g3, aJ g4, r2, r3]
   exact ⟨_, rfl, EP r4 r5 r6⟩
theorem jC (f : Nat) (acc : List Pa) (n : Nat) : params E (f + 1) acc n = (aF E 1 n).bind fun t m => if kindV (pk E m).text = 0 then fail E 3 m else
   if (pk E (m + 1)).text = cB then params E f (acc ++ [⟨t.text, kindV (pk E m).text, t.at_⟩]) (m + 2) else (take E tRp (m + 1)).bind fun _ m2 => .ok (acc ++ [⟨t.text, kindV (pk E m).text, t.at_⟩]) m2 := by rw [params]
theorem fU (f : Nat) (src : Src) (n : Nat) : Tr.program E (f + 1) src n =
  if E.toks.length <= n then .ok src n
  else if (pk E n).text = pD then (if 8 <= src.globals.length then fail E 4 n else (aF E 1 (n + 1)).bind fun t m => (aF E 5 m).bind fun _ m2 => Tr.program E f ⟨src.globals ++ [⟨t.text, t.at_⟩], src.funcs⟩ m2)
  else if (pk E n).text = kW then (if 12 <= src.funcs.length then fail E 4 n else (Tr.function E f n).bind fun g m => (aF E 5 m).bind fun _ m2 => Tr.program E f ⟨src.globals, src.funcs ++ [g]⟩ m2)
  else fail E 3 n := by rw [Tr.program]
theorem jD : ∀ (f : Nat) (acc : List Pa) (n : Nat) (x : List Pa) (m : Nat), params E f acc n = .ok x m -> n < m
 | 0, _, _, _, _, h => by rw [params] at h; cases h
 | f + 1, acc, n, x, m, h => by
  rw [jC] at h
  obtain ⟨t, n1, h1, h⟩ := aA h
  have a1 := aS h1
  by_cases q : kindV (pk E n1).text = 0
  ·rw [if_pos q] at h; exact (aP h).elim
  rw [if_neg q] at h
  by_cases q2 : (pk E (n1 + 1)).text = cB
  ·rw [if_pos q2] at h
   have := jD f _ _ _ _ h
   omega
  ·rw [if_neg q2] at h
   obtain ⟨_, n2, h2, h⟩ := aA h
   have := aW h2
   cases h; omega
theorem sE (A : Agr E E' k N) : ∀ (f f' : Nat) (acc acc' : List Pa) (n : Nat) (x : List Pa) (m : Nat), f <= f' -> params E f acc n = .ok x m -> m < N -> acc'.map paE = acc.map paE -> ∃ x', params E' f' acc' (k + n) = .ok x' (k + m) /\ x'.map paE = x.map paE
 | 0, _, _, _, _, _, _, _, h, _, _ => by rw [params] at h; cases h
 | f + 1, 0, _, _, _, _, _, hf, _, _, _ => by omega
 | f + 1, f' + 1, acc, acc', n, x, m, hf, h, hm, ha => by
  have hon := jD _ _ _ _ _ h
  rw [jC] at h
  rw [jC]
  obtain ⟨t, n1, h1, h⟩ := aA h
  by_cases q : kindV (pk E n1).text = 0
  ·rw [if_pos q] at h; exact (aP h).elim
  rw [if_neg q] at h
  by_cases q2 : (pk E (n1 + 1)).text = cB
  ·rw [if_pos q2] at h
   have b1 := jD _ _ _ _ _ h
   obtain ⟨t', g1, r1⟩ := dF A h1 (by omega)
   rw [aJ g1, A.kindV (by omega), if_neg q, Nat.add_assoc k n1 1, Nat.add_assoc k n1 2, if_pos ((A.iff (by omega) (by decide) (by decide)).2 q2)]
   refine sE A f f' _ _ _ _ _ (by omega) h hm ?_
   rw [List.map_append, List.map_append, ha, r1 (by decide)]
   rfl
  ·rw [if_neg q2] at h
   obtain ⟨_, n2, h2, h⟩ := aA h
   have b2 := aW h2
   cases h
   obtain ⟨t', g1, r1⟩ := dF A h1 (by omega)
   obtain ⟨_, g2⟩ := dL A (by decide) (by decide) h2 (by omega)
   rw [aJ g1, A.kindV (by omega), if_neg q, Nat.add_assoc k n1 1, if_neg (fun e => q2 ((A.iff (by omega) (by decide) (by decide)).1 e)), aJ g2]
   refine ⟨_, rfl, ?_⟩
   rw [List.map_append, List.map_append, ha, r1 (by decide)]
   rfl
theorem uD {f n m : Nat} {g : Fu} (h : Tr.function E f n = .ok g m) : n < m := by
 unfold Tr.function at h
 obtain ⟨_, n1, h1, h⟩ := aA h
 obtain ⟨_, n2, h2, h⟩ := aA h
 obtain ⟨_, n3, h3, h⟩ := aA h
 obtain ⟨_, n4, h4, h⟩ := aA h
 obtain ⟨_, n5, h5, h⟩ := aA h
 have a1 := aW h1
 have a2 := aS h2
 have a3 := aW h3
 have a5 := (kB f).block _ _ _ _ h5
 have a4 : n3 < n4 := by
  by_cases q : (pk E n3).text = tRp
  ·rw [if_pos q] at h4; cases h4; omega
  ·rw [if_neg q] at h4; exact jD f _ _ _ _ h4
 cases h
 split at a5 <;> omega
theorem vK (A : Agr E E' k N) {f f' n m : Nat} {g : Fu} (hf : f <= f') (h : Tr.function E f n = .ok g m) (hm : m < N) : ∃ g', Tr.function E' f' (k + n) = .ok g' (k + m) /\ fuE g' = fuE g := by
 unfold Tr.function at h
 unfold Tr.function
 obtain ⟨_, n1, h1, h⟩ := aA h
 obtain ⟨t, n2, h2, h⟩ := aA h
 obtain ⟨_, n3, h3, h⟩ := aA h
 obtain ⟨ps, n4, h4, h⟩ := aA h
 obtain ⟨b, n5, h5, h⟩ := aA h
 have a1 := aW h1
 have a2 := aS h2
 have a3 := aW h3
 have a5 : n4 < n5 := by
  have := (kB f).block _ _ _ _ h5
  split at this <;> omega
 have a4 : n3 < n4 := by
  by_cases q : (pk E n3).text = tRp
  ·rw [if_pos q] at h4; cases h4; omega
  ·rw [if_neg q] at h4; exact jD f _ _ _ _ h4
 cases h
 obtain ⟨_, g1⟩ := dL A (by decide) (by decide) h1 (by omega)
 obtain ⟨t', g2, r2⟩ := dF A h2 (by omega)
 obtain ⟨_, g3⟩ := dL A (by decide) (by decide) h3 (by omega)
 obtain ⟨ps', g4, r4⟩ : ∃ ps', (if (pk E' (k + n3)).text = tRp then Res.ok [] (k + n3 + 1) else params E' f' [] (k + n3)) = .ok ps' (k + n4) /\ ps'.map paE = ps.map paE := by
  by_cases q : (pk E n3).text = tRp
  ·rw [if_pos q] at h4
   cases h4
   exact ⟨[], by rw [if_pos ((A.iff (by omega) (by decide) (by decide)).2 q), Nat.add_assoc], rfl⟩
  ·rw [if_neg q] at h4
   obtain ⟨ps', g4, r4⟩ := sE A f f' _ [] _ _ _ hf h4 (by omega) rfl
   exact ⟨ps', by rw [if_neg (fun e => q ((A.iff (by omega) (by decide) (by decide)).1 e)), g4], r4⟩
 obtain ⟨b', g5, r5⟩ := (L1 A f f' hf).block _ _ _ _ h5 hm
 rw [aJ g1, aJ g2, aJ g3, aJ g4, A.kindV (by omega), show (if kindV (pk E n4).text = 0 then k + n4 else k + n4 + 1) = k + (if kindV (pk E n4).text = 0 then n4 else n4 + 1) by split <;> rfl, aJ g5]
 exact ⟨_, rfl, by unfold fuE; rw [r2 (by decide), r4, r5]⟩
theorem mJ {n : Nat} (h : (pk E n).kind ≠ 0) : n < E.toks.length := by
 by_cases c : n < E.toks.length
 ·exact c
 ·exact absurd (by unfold pk; rw [List.getElem?_eq_none (by omega)]; rfl) h
theorem iA {q n m : Nat} {t : Tok} (hq : q ≠ 0) (h : aF E q n = .ok t m) : n < E.toks.length /\ m = n + 1 := by
 unfold aF fail at h
 split at h
 ·rename_i hc
  cases h
  exact ⟨mJ (by rw [hc]; exact hq), rfl⟩
 ·cases h
theorem gY : ∀ (f : Nat) (src : Src) (n : Nat) (x : Src) (m : Nat), Tr.program E f src n = .ok x m -> src.globals.length <= x.globals.length /\ src.funcs.length <= x.funcs.length
 | 0, _, _, _, _, h => by rw [Tr.program] at h; cases h
 | f + 1, src, n, x, m, h => by
  rw [fU] at h
  by_cases c0 : E.toks.length <= n
  ·rw [if_pos c0] at h
   cases h
   exact ⟨Nat.le_refl _, Nat.le_refl _⟩
  rw [if_neg c0] at h
  by_cases c1 : (pk E n).text = pD
  ·rw [if_pos c1] at h
   by_cases c2 : 8 <= src.globals.length
   ·rw [if_pos c2] at h; exact (aP h).elim
   rw [if_neg c2] at h
   obtain ⟨t, n1, h1, h⟩ := aA h
   obtain ⟨_, n2, h2, h⟩ := aA h
   have := gY f _ _ _ _ h
   simp only [List.length_append, List.length_cons, List.length_nil] at this
   omega
  rw [if_neg c1] at h
  by_cases c2 : (pk E n).text = kW
  ·rw [if_pos c2] at h
   by_cases c3 : 12 <= src.funcs.length
   ·rw [if_pos c3] at h; exact (aP h).elim
   rw [if_neg c3] at h
   obtain ⟨g, n1, h1, h⟩ := aA h
   obtain ⟨_, n2, h2, h⟩ := aA h
   have := gY f _ _ _ _ h
   simp only [List.length_append, List.length_cons, List.length_nil] at this
   omega
  rw [if_neg c2] at h
  exact (aP h).elim
theorem mK (A : Agr E E' k E.toks.length) (hlt : ∀ n, n < E.toks.length -> k + n < E'.toks.length) : ∀ (f f' : Nat) (src src' : Src) (n : Nat) (x : Src) (m : Nat), f <= f' -> Tr.program E f src n = .ok x m -> n <= E.toks.length ->
  src'.globals.length + (x.globals.length - src.globals.length) <= 8 -> src'.funcs.length + (x.funcs.length - src.funcs.length) <= 12 ->
  ∃ (gs gs' : List Gl) (fs fs' : List Fu) (j : Nat), m = E.toks.length /\ j + n <= E.toks.length /\ j < f /\ x = ⟨src.globals ++ gs, src.funcs ++ fs⟩ /\ gs'.map glE = gs.map glE /\ fs'.map fuE = fs.map fuE ∧
   Tr.program E' f' src' (k + n) = Tr.program E' (f' - j) ⟨src'.globals ++ gs', src'.funcs ++ fs'⟩ (k + m)
 | 0, _, _, _, _, _, _, _, h, _, _, _ => by rw [Tr.program] at h; cases h
 | f + 1, 0, _, _, _, _, _, hff, _, _, _, _ => by omega
 | f + 1, f' + 1, src, src', n, x, m, hff, h, hn, hg, hf => by
  rw [fU] at h
  by_cases c0 : E.toks.length <= n
  ·rw [if_pos c0] at h
   cases h
   exact ⟨[], [], [], [], 0, by omega, by omega, by omega, by simp, rfl, rfl, by simp⟩
  rw [if_neg c0] at h
  have hN : n < E.toks.length := by omega
  have hN' := hlt n hN
  rw [fU, if_neg (show ¬ E'.toks.length <= k + n by omega)]
  by_cases c1 : (pk E n).text = pD
  ·rw [if_pos c1] at h
   rw [if_pos ((A.iff hN (by decide) (by decide)).2 c1)]
   by_cases c2 : 8 <= src.globals.length
   ·rw [if_pos c2] at h; exact (aP h).elim
   rw [if_neg c2] at h
   obtain ⟨t, n1, h1, h⟩ := aA h
   obtain ⟨_, n2, h2, h⟩ := aA h
   obtain ⟨b1, rfl⟩ := iA (by decide) h1
   obtain ⟨b2, rfl⟩ := iA (by decide) h2
   obtain ⟨t', g1, r1⟩ := dF A h1 (by omega)
   obtain ⟨_, g2, _⟩ := dF A h2 (by omega)
   have hlen : src.globals.length + 1 <= x.globals.length := by
    have := (gY f _ _ _ _ h).1
    simpa using this
   obtain ⟨gs, gs', fs, fs', j, d1, d2, d3, d4, d5, d6, d7⟩ := mK A hlt f f' ⟨src.globals ++ [⟨t.text, t.at_⟩], src.funcs⟩ ⟨src'.globals ++ [⟨t'.text, t'.at_⟩], src'.funcs⟩ _ _ _ (by omega) h (by omega) (by simp only [List.length_append, List.length_cons, List.length_nil]; omega) hf
   rw [if_neg (show ¬ 8 <= src'.globals.length by omega), Nat.add_assoc k n 1, aJ g1, aJ g2, d7]
   refine ⟨⟨t.text, t.at_⟩ :: gs, ⟨t'.text, t'.at_⟩ :: gs', fs, fs', j + 1, d1, by omega, by omega, by rw [d4]; simp, ?_, d6, ?_⟩
   ·rw [List.map_cons, List.map_cons, d5]; unfold glE; rw [r1 (by decide)]
   ·rw [show f' + 1 - (j + 1) = f' - j by omega]; simp
  rw [if_neg c1] at h
  rw [if_neg (fun e => c1 ((A.iff hN (by decide) (by decide)).1 e))]
  by_cases c2 : (pk E n).text = kW
  ·rw [if_pos c2] at h
   rw [if_pos ((A.iff hN (by decide) (by decide)).2 c2)]
   by_cases c3 : 12 <= src.funcs.length
   ·rw [if_pos c3] at h; exact (aP h).elim
   rw [if_neg c3] at h
   obtain ⟨g, n1, h1, h⟩ := aA h
   obtain ⟨_, n2, h2, h⟩ := aA h
   have b1 := uD h1
   obtain ⟨b2, rfl⟩ := iA (by decide) h2
   obtain ⟨g', g1, r1⟩ := vK A (show f <= f' by omega) h1 (by omega)
   obtain ⟨_, g2, _⟩ := dF A h2 (by omega)
   have hlen : src.funcs.length + 1 <= x.funcs.length := by
    have := (gY f _ _ _ _ h).2
    simpa using this
   obtain ⟨gs, gs', fs, fs', j, d1, d2, d3, d4, d5, d6, d7⟩ := mK A hlt f f' ⟨src.globals, src.funcs ++ [g]⟩ ⟨src'.globals, src'.funcs ++ [g']⟩ _ _ _ (by omega) h (by omega) hg (by simp only [List.length_append, List.length_cons, List.length_nil]; omega)
   rw [if_neg (show ¬ 12 <= src'.funcs.length by omega), aJ g1, aJ g2, d7]
   refine ⟨gs, gs', g :: fs, g' :: fs', j + 1, d1, by omega, by omega, by rw [d4]; simp, d5, ?_, ?_⟩
   ·rw [List.map_cons, List.map_cons, d6, r1]
   ·rw [show f' + 1 - (j + 1) = f' - j by omega]; simp
  rw [if_neg c2] at h
  exact (aP h).elim
end Tr
end Go.Proofs.YtnpapppipccdbaaGreatDoor
namespace Go.Proofs.YtnpapppipccdbaaGreatDoor
namespace Tr
open Lx
theorem uE {ts : List Tok} {e F m : Nat} {s : Src} {r : Res Src} (h : Tr.program ⟨ts, e⟩ F ⟨[], []⟩ 0 = .ok s m) (hg : s.globals.length <= 8) (hf : s.funcs.length <= 12) (hr : Ev (fun f => Tr.program ⟨ts, e⟩ f ⟨[], []⟩ 0) r) :
  ∃ s' m', r = .ok s' m' /\ s'.globals.map glE = s.globals.map glE /\ s'.funcs.map fuE = s.funcs.map fuE := by
 obtain ⟨_, f0, hr⟩ := hr
 have A : Agr ⟨ts, e⟩ ⟨ts, e⟩ 0 (⟨ts, e⟩ : Env).toks.length := ⟨fun n _ => by rw [Nat.zero_add], fun n _ => Or.inl (by rw [Nat.zero_add])⟩
 obtain ⟨gs, gs', fs, fs', j, d1, d2, d3, d4, d5, d6, d7⟩ := mK A (fun n hn => by rw [Nat.zero_add]; exact hn) F (F + f0) ⟨[], []⟩ ⟨[], []⟩ 0 s m (by omega) h (Nat.zero_le _) (by simp; omega) (by simp; omega)
 have hr := hr (F + f0) (by omega)
 have hr' : Tr.program ⟨ts, e⟩ (F + f0) ⟨[], []⟩ (0 + 0) = r := hr
 rw [d7, show F + f0 - j = (F + f0 - j - 1) + 1 by omega, fU, if_pos (by omega)] at hr'
 subst d4
 exact ⟨_, _, hr'.symm, by simpa using d5, by simpa using d6⟩
end Tr
end Go.Proofs.YtnpapppipccdbaaGreatDoor
