/-
  Texts of one proof, in build order: The plain mathematics of chapter 15: programs of instructions, as text. No walk. | The plain mathematics of chapter 15: a program's text, and the reader of it. No walk. | The plain mathematics of chapter 15: how long a program's text is, and what a text's reader tells. No walk. | The tables of package asm as they are laid; and what its writer wants of the package's variables. | What internal/bytealg.MaxLen holds. | The reference's within, insNames, numbered, rightIns (chapter 14). | The walk of the reference's Right (14.1). | The walks of the reference's chapter 2, first part: Num. | The walk of the reference's Sign: a map's literal of nineteen entries, looked up once. | The walks of the reference's udec, decimal, kindNames, insText (15.1). | strconv.Itoa at this program: a number's text. Of no chapter. | The walk of package asm's insLine. | 'xs = append(xs, y)' on a row of the call's own, y of whatever type, as a step of a region that draws, and as a step of the walk. Of no chapter. | Rows of instructions and of numbers of the call's own. Of chapter 14. | The walk of package asm's headLine. | Cells of bytes and the row that is owned. | strings.Builder at this program: copyCheck, WriteByte, WriteString, walked; String by the library's contract. Of no chapter. | strings.Builder's WriteString: what it leaves alone, told too (each block of other cells than bytes, but the builder's own). Of no chapter.
-/
import Derived.Test.YtkeglkneobngnaaDoorW0
import Derived.Lib.AtoiAll
import Derived.Lib.ItoaNum
import Derived.Lib.ItoaMem
import Derived.Test.YtkeglkneobngnaaDoorRows
import Derived.WalkKit
import Derived.Lib.Hide
import Derived.Below
import Derived.Test.YtkeglkneobngnaaDoorWShelf
import Derived.Lib.SplitLaws
import Derived.Deep.RegionHeld3
import Derived.Deep.DeepCutAuto
import Derived.Deep.CutRange
import Derived.RegionTactic
import Derived.ChangeAlike
import Derived.MapKept
import Derived.Lib.LaidTab
import Derived.Maps.AppendAt
import Derived.Deep.RegionHeld
import Derived.Lib.Builder
import Derived.Lib.AppendStr
import Derived.Lib.UnsafeStr
namespace Go.Proofs.YtkeglkneobngnaaDoor
namespace As
open Cd

abbrev B := List UInt8
/-! Numbers. -/
def dgt (c : UInt8) : Prop := 48 ≤ c.toNat ∧ c.toNat ≤ 57
theorem dgt_of (k : Nat) (h : k < 10) : dgt (UInt8.ofNat (48 + k)) ∧ (UInt8.ofNat (48 + k)).toNat = 48 + k := by
  have e : (UInt8.ofNat (48 + k)).toNat = 48 + k := by simp [UInt8.toNat_ofNat]; omega
  exact ⟨⟨by omega, by omega⟩, e⟩
theorem dec_ne (u : Nat) : Lib.decDigits u ≠ [] := by
  rw [Lib.decDigits]
  split <;> simp
theorem dec_digits (u : Nat) : ∀ c ∈ Lib.decDigits u, dgt c := by
  induction u using Nat.strongRecOn with
  | ind u ih =>
    rw [Lib.decDigits]
    split
    · rename_i h
      intro c hc
      rw [List.mem_singleton.1 hc]
      exact (dgt_of u h).1
    · rename_i h
      intro c hc
      rcases List.mem_append.1 hc with hc | hc
      · exact ih (u / 10) (by omega) c hc
      · rw [List.mem_singleton.1 hc]
        exact (dgt_of (u % 10) (by omega)).1
theorem parse_snoc : ∀ (l : B) (acc u : Nat) (k : Nat), k < 10 → Lib.parseUint10 acc l = .ok u → u * 10 + k < 18446744073709551616 → Lib.parseUint10 acc (l ++ [UInt8.ofNat (48 + k)]) = .ok (u * 10 + k)
  | [], acc, u, k, hk, h, hu => by
    simp only [Lib.parseUint10] at h
    injection h with h
    subst h
    obtain ⟨⟨a, b⟩, e⟩ := dgt_of k hk
    show Lib.parseUint10 acc [_] = _
    simp only [Lib.parseUint10]
    rw [if_pos ⟨a, b⟩, if_neg (by omega), if_neg (by rw [e]; omega), e]
    congr 1
    omega
  | c :: r, acc, u, k, hk, h, hu => by
    simp only [Lib.parseUint10] at h
    split at h
    · rename_i h1
      split at h
      · cases h
      · rename_i h2
        split at h
        · cases h
        · rename_i h3
          show Lib.parseUint10 acc (c :: (r ++ [_])) = _
          simp only [Lib.parseUint10]
          rw [if_pos h1, if_neg h2, if_neg h3]
          exact parse_snoc r _ u k hk h hu
    · cases h
theorem parse_dec (u : Nat) : u < 18446744073709551616 → Lib.parseUint10 0 (Lib.decDigits u) = .ok u := by
  induction u using Nat.strongRecOn with
  | ind u ih =>
    intro hu
    by_cases h : u < 10
    · rw [Lib.decDigits, dif_pos h]
      have := parse_snoc [] 0 0 u h rfl (by omega)
      rw [Nat.zero_mul, Nat.zero_add] at this
      exact this
    · rw [Lib.decDigits, dif_neg h]
      have := parse_snoc (Lib.decDigits (u / 10)) 0 (u / 10) (u % 10) (by omega) (ih (u / 10) (by omega) (by omega)) (by omega)
      rw [this]
      congr 1
      omega
theorem mag_dec {u : Nat} (h : u < 18446744073709551616) : Lib.parseMag (Lib.decDigits u) = .ok u := by
  unfold Lib.parseMag
  rw [if_neg (dec_ne u), parse_dec u h]
theorem atoi_itoa (n : Int) (h1 : -9223372036854775808 ≤ n) (h2 : n ≤ 9223372036854775807) : Lib.atoiAll (Lib.itoa n) = .ok n := by
  by_cases hn : n < 0
  · obtain ⟨u, rfl⟩ : ∃ u : Nat, n = -(u : Int) := ⟨n.natAbs, by omega⟩
    rw [Lib.itoa_neg u (by omega)]
    unfold Lib.atoiAll
    dsimp only
    rw [if_pos (Or.inr (by decide)), mag_dec (by omega)]
    dsimp only
    rw [if_neg (by rintro ⟨h, _⟩; exact h (by decide)), if_neg (by omega), if_pos (by decide)]
  · obtain ⟨u, rfl⟩ : ∃ u : Nat, n = (u : Int) := ⟨n.toNat, by omega⟩
    rw [Lib.itoa_nonneg]
    cases hd : Lib.decDigits u with
    | nil => exact absurd hd (dec_ne u)
    | cons c r =>
      have hc := dec_digits u c (by rw [hd]; exact List.mem_cons_self)
      unfold dgt at hc
      unfold Lib.atoiAll
      dsimp only
      rw [if_neg (by omega), ← hd, mag_dec (by omega)]
      dsimp only
      rw [if_neg (by omega), if_neg (by omega), if_neg (by omega)]
/-- A number that is written as it must be. -/
def numB (w : B) : Option Int := match Lib.atoiAll w with
  | .ok v => if Lib.itoa v = w then some v else none
  | _ => none
theorem numB_itoa (n : Int) (h1 : -9223372036854775808 ≤ n) (h2 : n ≤ 9223372036854775807) : numB (Lib.itoa n) = some n := by
  unfold numB
  rw [atoi_itoa n h1 h2]
  dsimp only
  rw [if_pos rfl]
theorem numB_some {w : B} {n : Int} (h : numB w = some n) : Lib.itoa n = w := by
  unfold numB at h
  split at h
  · split at h
    · rename_i h1
      cases h
      exact h1
    · cases h
  · cases h

/-! Words, lines. -/
/-- A byte that may stand in a word. -/
def Solid (w : B) : Prop := w ≠ [] ∧ ∀ c ∈ w, c ≠ 32 ∧ c ≠ 10
theorem solid_itoa (n : Int) : Solid (Lib.itoa n) := by
  have hd : ∀ u, Solid (Lib.decDigits u) := fun u => ⟨dec_ne u, fun c hc => by
    have := dec_digits u c hc
    unfold dgt at this
    exact ⟨fun e => by rw [e] at this; exact absurd this.1 (by decide), fun e => by rw [e] at this; exact absurd this.1 (by decide)⟩⟩
  unfold Lib.itoa
  split
  · refine ⟨by simp, fun c hc => ?_⟩
    rcases List.mem_cons.1 hc with rfl | hc
    · decide
    · exact (hd _).2 c hc
  · exact hd _
/-- Pieces between the bytes s. -/
def cutAt (s : UInt8) : B → List B
  | [] => [[]]
  | c :: r => if c = s then [] :: cutAt s r else match cutAt s r with
    | [] => [[c]]
    | p :: ps => (c :: p) :: ps
theorem cutAt_ne (s : UInt8) : ∀ l, cutAt s l ≠ []
  | [] => by simp [cutAt]
  | c :: r => by
    unfold cutAt
    split
    · simp
    · split <;> simp
theorem cutAt_none {s : UInt8} : ∀ {l : B}, (∀ c ∈ l, c ≠ s) → cutAt s l = [l]
  | [], _ => rfl
  | c :: r, h => by
    unfold cutAt
    rw [if_neg (h c List.mem_cons_self), cutAt_none fun x hx => h x (List.mem_cons_of_mem _ hx)]
theorem cutAt_append {s : UInt8} : ∀ {l : B} (r : B), (∀ c ∈ l, c ≠ s) → cutAt s (l ++ s :: r) = l :: cutAt s r
  | [], r, _ => by
    show cutAt s (s :: r) = _
    unfold cutAt
    rw [if_pos rfl]
    cases r <;> rfl
  | c :: l, r, h => by
    show cutAt s (c :: (l ++ s :: r)) = _
    rw [cutAt, if_neg (h c List.mem_cons_self), cutAt_append r fun x hx => h x (List.mem_cons_of_mem _ hx)]
def words (l : B) : List B := (cutAt 32 l).filter fun w => !w.isEmpty
theorem words_nil : words [] = [] := rfl
theorem words_blank (l : B) : words (32 :: l) = words l := by
  unfold words
  have : cutAt 32 (32 :: l) = [] :: cutAt 32 l := by
    show cutAt 32 ([] ++ 32 :: l) = _
    exact cutAt_append l (fun c hc => by cases hc)
  rw [this]
  rfl
theorem words_one {w : B} (h : Solid w) : words w = [w] := by
  unfold words
  rw [cutAt_none fun c hc => (h.2 c hc).1]
  cases w with
  | nil => exact absurd rfl h.1
  | cons c r => rfl
theorem words_cons {w : B} (h : Solid w) (r : B) : words (w ++ 32 :: r) = w :: words r := by
  unfold words
  rw [cutAt_append r fun c hc => (h.2 c hc).1]
  cases w with
  | nil => exact absurd rfl h.1
  | cons c l => rfl
/-- Words with a blank ahead of each. -/
def spaced (ws : List B) : B := ws.flatMap fun w => 32 :: w
theorem words_spaced : ∀ (ws : List B), (∀ w ∈ ws, Solid w) → words (spaced ws) = ws
  | [], _ => rfl
  | [w], h => by
    show words (32 :: (w ++ [])) = _
    rw [List.append_nil, words_blank, words_one (h w List.mem_cons_self)]
  | w :: v :: ws, h => by
    have ih := words_spaced (v :: ws) fun x hx => h x (List.mem_cons_of_mem _ hx)
    have e : spaced (w :: v :: ws) = 32 :: (w ++ 32 :: (v ++ spaced ws)) := by simp [spaced]
    have e2 : spaced (v :: ws) = 32 :: (v ++ spaced ws) := by simp [spaced]
    rw [e, words_blank, words_cons (h w List.mem_cons_self), ← words_blank, ← e2, ih]
theorem words_line {w : B} (hw : Solid w) (ws : List B) (h : ∀ x ∈ ws, Solid x) : words (w ++ spaced ws) = w :: ws := by
  cases ws with
  | nil =>
    show words (w ++ []) = _
    rw [List.append_nil, words_one hw]
  | cons v ws =>
    have e2 : spaced (v :: ws) = 32 :: (v ++ spaced ws) := by simp [spaced]
    have := words_spaced (v :: ws) h
    rw [e2, words_blank] at this
    rw [e2, words_cons hw, this]
/-- No line feed within. -/
theorem spaced_flat {ws : List B} (h : ∀ w ∈ ws, Solid w) : ∀ c ∈ spaced ws, c ≠ 10 := fun c hc => by
  obtain ⟨w, hw, hc⟩ := List.mem_flatMap.1 hc
  rcases List.mem_cons.1 hc with rfl | hc
  · decide
  · exact ((h w hw).2 c hc).2
end As
end Go.Proofs.YtkeglkneobngnaaDoor

namespace Go.Proofs.YtkeglkneobngnaaDoor
namespace As
open Cd

def namesB : List B := [[], [112, 117, 115, 104], [98, 111, 111, 108], [110, 105, 108], [103, 101, 116], [115, 101, 116], [108, 111, 97, 100], [115, 116, 111, 114, 101], [98, 105, 110], [117, 110], [112, 111, 112], [106, 117, 109, 112], [102, 97, 108, 115, 101], [99, 97, 108, 108], [114, 101, 116], [103, 111], [109, 97, 107, 101], [115, 101, 110, 100], [114, 101, 99, 118], [99, 108, 111, 115, 101], [108, 101, 110], [112, 114, 105, 110, 116], [115, 108, 101, 101, 112], [115, 101, 108, 101, 99, 116], [99, 97, 115, 101, 115, 101, 110, 100], [99, 97, 115, 101, 114, 101, 99, 118], [99, 97, 115, 101, 101, 108, 115, 101]]
def kindsB : List B := [[110, 111, 110, 101], [105, 110, 116], [98, 111, 111, 108], [99, 104, 97, 110]]
def sgB : List B := [[], [43], [45], [42], [47], [37], [38], [124], [94], [60, 60], [62, 62], [60], [60, 61], [62], [62, 61], [61, 61], [33, 61], [45], [94], [33]]
def globB : B := [103, 108, 111, 98, 97, 108, 115]
def fnB : B := [102, 110]
/-- Which of a list a word is (the first; 0: none is). -/
def firstB (w : B) : List B → Nat → Nat
  | [], _ => 0
  | x :: r, a => if x = w then a else firstB w r (a + 1)
def nameB (op : Int) : B := namesB.getD op.toNat []
def kindW (k : Int) : B := kindsB.getD k.toNat []
def signB (n : Int) : B := sgB.getD n.toNat []
def opB (w : B) : Nat := firstB w namesB 0
def twoB (w : B) : Nat := firstB w ((sgB.drop 1).take 16) 1
def oneB (w : B) : Nat := firstB w (sgB.drop 17) 17

/-! The text. -/
def argB (i : In) : List B := if i.1 = 8 ∨ i.1 = 9 then [signB i.2] else if hasN i.1 then [Lib.itoa i.2] else []
def insL (i : In) : B := 32 :: 32 :: (nameB i.1 ++ spaced (argB i))
def headL (f : FnV) : B := fnB ++ spaced (kindW f.kind :: Lib.itoa f.params :: f.locals.map kindW)
def globL (p : Pg) : B := globB ++ spaced [Lib.itoa p.globals]
def insT (i : In) : B := insL i ++ [10]
def fnT (f : FnV) : B := headL f ++ 10 :: f.code.flatMap insT
def asmT (p : Pg) : B := globL p ++ 10 :: p.fns.flatMap fnT

/-! The reader. -/
def kindI (w : B) : Option Int := if w = kindsB.getD 0 [] then some 0 else if w = kindsB.getD 1 [] then some 1 else if w = kindsB.getD 2 [] then some 2 else if w = kindsB.getD 3 [] then some 3 else none
def localsI : List B → Option (List Int)
  | [] => some []
  | w :: r => match kindI w with
    | none => none
    | some k => if k = 0 then none else match localsI r with
      | none => none
      | some l => some (k :: l)
def headI : List B → Option FnV
  | _ :: k :: n :: r => match kindI k, numB n, localsI r with
    | some k, some n, some l => some ⟨n, l, k, []⟩
    | _, _, _ => none
  | _ => none
def numOf (op : Nat) (w : B) : Option Int :=
  if op = 8 then (if twoB w = 0 then none else some (twoB w)) else if op = 9 then (if oneB w = 0 then none else some (oneB w)) else numB w
def insI : List B → Option In
  | [] => none
  | w :: r => if hasN (opB w) then (match r with
      | [x] => (numOf (opB w) x).map fun n => ((opB w : Int), n)
      | _ => none)
    else if opB w = 0 ∨ r ≠ [] then none else some (opB w, 0)
def addI (i : In) (fs : List FnV) : Option (List FnV) := match fs.getLast? with
  | none => none
  | some f => some (fs.dropLast ++ [⟨f.params, f.locals, f.kind, f.code ++ [i]⟩])
structure St where
  begun : Bool
  p : Pg
def globI : List B → Option Int
  | [a, b] => if a = globB then numB b else none
  | _ => none
def rdLine (ws : List B) (s : St) : Option St :=
  if s.begun then (if ws.head? = some fnB then (headI ws).map fun f => ⟨true, ⟨s.p.globals, s.p.fns ++ [f]⟩⟩
    else match insI ws with
      | none => none
      | some i => (addI i s.p.fns).map fun l => ⟨true, ⟨s.p.globals, l⟩⟩)
  else (globI ws).map fun n => ⟨true, ⟨n, s.p.fns⟩⟩
def lnsR : List B → Nat → St → Except Nat St
  | [], _, s => .ok s
  | l :: r, k, s => if words l = [] then lnsR r (k + 1) s else match rdLine (words l) s with
    | none => .error k
    | some s => lnsR r (k + 1) s
def St0 : St := ⟨false, ⟨0, []⟩⟩

/-! Facts of the tables. -/
def solidB (w : B) : Bool := !w.isEmpty && w.all fun c => c != 32 && c != 10
theorem solid_of {w : B} (h : solidB w = true) : Solid w := by
  unfold solidB at h
  simp only [Bool.and_eq_true, List.all_eq_true, bne_iff_ne, Bool.not_eq_true', List.isEmpty_eq_false_iff] at h
  exact h
theorem solid_names : ∀ n : Fin 26, solidB (namesB.getD (n.val + 1) []) = true ∧ firstB (namesB.getD (n.val + 1) []) namesB 0 = n.val + 1 ∧ namesB.getD (n.val + 1) [] ≠ fnB := by decide
theorem solid_kinds : ∀ n : Fin 4, solidB (kindsB.getD n.val []) = true ∧ kindI (kindsB.getD n.val []) = some (n.val : Int) := by decide
theorem solid_two : ∀ n : Fin 16, solidB (sgB.getD (n.val + 1) []) = true ∧ twoB (sgB.getD (n.val + 1) []) = n.val + 1 := by decide
theorem solid_one : ∀ n : Fin 3, solidB (sgB.getD (n.val + 17) []) = true ∧ oneB (sgB.getD (n.val + 17) []) = n.val + 17 := by decide
theorem name_facts {op : Int} (h1 : 1 ≤ op) (h2 : op ≤ 26) : Solid (nameB op) ∧ (opB (nameB op) : Int) = op ∧ nameB op ≠ fnB := by
  obtain ⟨k, rfl⟩ : ∃ k : Nat, op = ((k + 1 : Nat) : Int) := ⟨(op - 1).toNat, by omega⟩
  have hk : k < 26 := by omega
  have := solid_names ⟨k, hk⟩
  unfold nameB opB
  rw [Int.toNat_natCast]
  exact ⟨solid_of this.1, by rw [this.2.1], this.2.2⟩
theorem kind_facts {k : Int} (h1 : 0 ≤ k) (h2 : k ≤ 3) : Solid (kindW k) ∧ kindI (kindW k) = some k := by
  obtain ⟨k, rfl⟩ := Int.eq_ofNat_of_zero_le h1
  have hk : k < 4 := by omega
  have := solid_kinds ⟨k, hk⟩
  unfold kindW
  rw [Int.toNat_natCast]
  exact ⟨solid_of this.1, this.2⟩

/-! What is written is read. -/
theorem argB_ok {i : In} (h : mayB i = true) : (∀ w ∈ argB i, Solid w) ∧ (if hasN i.1 then ∃ x, argB i = [x] ∧ numOf i.1.toNat x = some i.2 else argB i = []) := by
  obtain ⟨op, n⟩ := i
  have ho := mayB_op h
  have hr := mayB_n h
  unfold argB
  by_cases h8 : op = 8
  · subst h8
    have hm : 1 ≤ n ∧ n ≤ 16 := by simp [mayB, leastI, mostI] at h; omega
    obtain ⟨k, rfl⟩ : ∃ k : Nat, n = ((k + 1 : Nat) : Int) := ⟨(n - 1).toNat, by omega⟩
    have := solid_two ⟨k, by omega⟩
    rw [if_pos (Or.inl rfl), if_pos (show hasN 8 = true by decide)]
    have e : signB ((k + 1 : Nat) : Int) = sgB.getD (k + 1) [] := by unfold signB; rw [Int.toNat_natCast]
    refine ⟨fun w hw => ?_, _, rfl, ?_⟩
    · rw [List.mem_singleton.1 hw, e]; exact solid_of this.1
    · show numOf 8 _ = _
      unfold numOf
      rw [if_pos rfl, e, this.2, if_neg (by omega)]
  · by_cases h9 : op = 9
    · subst h9
      have hm : 17 ≤ n ∧ n ≤ 19 := by simp [mayB, leastI, mostI] at h; omega
      obtain ⟨k, rfl⟩ : ∃ k : Nat, n = ((k + 17 : Nat) : Int) := ⟨(n - 17).toNat, by omega⟩
      have := solid_one ⟨k, by omega⟩
      rw [if_pos (Or.inr rfl), if_pos (show hasN 9 = true by decide)]
      have e : signB ((k + 17 : Nat) : Int) = sgB.getD (k + 17) [] := by unfold signB; rw [Int.toNat_natCast]
      refine ⟨fun w hw => ?_, _, rfl, ?_⟩
      · rw [List.mem_singleton.1 hw, e]; exact solid_of this.1
      · show numOf 9 _ = _
        unfold numOf
        rw [if_neg (by decide), if_pos rfl, e, this.2, if_neg (by omega)]
    · rw [if_neg (fun e => e.elim h8 h9)]
      cases hn : hasN op with
      | false =>
        rw [if_neg (by simp), if_neg (by simp)]
        exact ⟨fun w hw => (by cases hw), rfl⟩
      | true =>
        rw [if_pos rfl, if_pos rfl]
        refine ⟨fun w hw => ?_, _, rfl, ?_⟩
        · rw [List.mem_singleton.1 hw]; exact solid_itoa _
        · dsimp only at ho hr ⊢
          unfold numOf
          rw [if_neg (by omega), if_neg (by omega), numB_itoa n hr.1 hr.2]
theorem ins_words {i : In} (h : mayB i = true) : words (insL i) = nameB i.1 :: argB i := by
  unfold insL
  rw [words_blank, words_blank, words_line (name_facts (mayB_op h).1 (mayB_op h).2).1 _ (argB_ok h).1]
theorem ins_read {i : In} (h : mayB i = true) : insI (nameB i.1 :: argB i) = some i := by
  have hf := name_facts (mayB_op h).1 (mayB_op h).2
  have ha := (argB_ok h).2
  unfold insI
  dsimp only
  rw [hf.2.1]
  cases hn : hasN i.1 with
  | true =>
    rw [hn] at ha
    obtain ⟨x, e, hx⟩ := ha
    rw [if_pos rfl, e]
    dsimp only
    have e2 : opB (nameB i.1) = i.1.toNat := by have := hf.2.1; omega
    rw [e2, hx]
    rfl
  | false =>
    rw [hn] at ha
    have ha : argB i = [] := ha
    rw [if_neg (by simp), ha, if_neg (by
      rintro (e | e)
      · have := hf.2.1; have := (mayB_op h).1; omega
      · exact e rfl)]
    rw [show i = (i.1, (0 : Int)) from by have := mayB_zero h hn; rw [← this]]
theorem locals_read : ∀ {l : List Int}, (∀ k ∈ l, 1 ≤ k ∧ k ≤ 3) → localsI (l.map kindW) = some l ∧ ∀ w ∈ l.map kindW, Solid w
  | [], _ => ⟨rfl, fun w hw => (by cases hw)⟩
  | k :: l, h => by
    have hk := h k List.mem_cons_self
    have ih := locals_read (l := l) fun x hx => h x (List.mem_cons_of_mem _ hx)
    have kf := kind_facts (k := k) (by omega) hk.2
    constructor
    · show localsI (kindW k :: l.map kindW) = _
      unfold localsI
      rw [kf.2]
      dsimp only
      rw [if_neg (by omega), ih.1]
    · intro w hw
      rcases List.mem_cons.1 hw with rfl | hw
      · exact kf.1
      · exact ih.2 w hw
theorem fnB_solid : Solid fnB := solid_of (by decide)
theorem globB_solid : Solid globB := solid_of (by decide)
theorem head_words {f : FnV} (h : FnR f) : words (headL f) = fnB :: kindW f.kind :: Lib.itoa f.params :: f.locals.map kindW ∧ (∀ c ∈ headL f, c ≠ 10) ∧
    headI (fnB :: kindW f.kind :: Lib.itoa f.params :: f.locals.map kindW) = some ⟨f.params, f.locals, f.kind, []⟩ := by
  have hl := h.locals
  have hp0 := h.params0
  have hp := h.params
  have lr := locals_read (l := f.locals) h.kinds
  have kf := kind_facts h.kind0 h.kind
  have hs : ∀ w ∈ kindW f.kind :: Lib.itoa f.params :: f.locals.map kindW, Solid w := fun w hw => by
    rcases List.mem_cons.1 hw with rfl | hw
    · exact kf.1
    · rcases List.mem_cons.1 hw with rfl | hw
      · exact solid_itoa _
      · exact lr.2 w hw
  refine ⟨words_line fnB_solid _ hs, fun c hc => ?_, ?_⟩
  · rcases List.mem_append.1 hc with hc | hc
    · exact (fnB_solid.2 c hc).2
    · exact spaced_flat hs c hc
  · unfold headI
    dsimp only
    rw [kf.2, numB_itoa _ (by omega) (by omega), lr.1]
theorem glob_words {p : Pg} (h0 : 0 ≤ p.globals) (h8 : p.globals ≤ 8) : words (globL p) = [globB, Lib.itoa p.globals] ∧ (∀ c ∈ globL p, c ≠ 10) ∧ globI [globB, Lib.itoa p.globals] = some p.globals := by
  have hs : ∀ w ∈ [Lib.itoa p.globals], Solid w := fun w hw => by rw [List.mem_singleton.1 hw]; exact solid_itoa _
  refine ⟨words_line globB_solid _ hs, fun c hc => ?_, ?_⟩
  · rcases List.mem_append.1 hc with hc | hc
    · exact (globB_solid.2 c hc).2
    · exact spaced_flat hs c hc
  · unfold globI
    dsimp only
    rw [if_pos rfl, numB_itoa _ (by omega) (by omega)]
theorem ins_flat {i : In} (h : mayB i = true) : ∀ c ∈ insL i, c ≠ 10 := fun c hc => by
  unfold insL at hc
  rcases List.mem_cons.1 hc with rfl | hc
  · decide
  rcases List.mem_cons.1 hc with rfl | hc
  · decide
  rcases List.mem_append.1 hc with hc | hc
  · exact ((name_facts (mayB_op h).1 (mayB_op h).2).1.2 c hc).2
  · exact spaced_flat (argB_ok h).1 c hc
theorem lnsR_line {l : B} {ws : List B} {s s' : St} (hw : words l = ws) (hne : ws ≠ []) (hf : ∀ c ∈ l, c ≠ 10) (hr : rdLine ws s = some s') (rest : B) (k : Nat) :
    lnsR (cutAt 10 (l ++ 10 :: rest)) k s = lnsR (cutAt 10 rest) (k + 1) s' := by
  rw [cutAt_append rest hf]
  conv => lhs; unfold lnsR
  rw [hw, if_neg hne, hr]
theorem code_read (g : Int) (fs : List FnV) (a : Int) (b : List Int) (c : Int) (rest : B) : ∀ (l : List In) (d : List In) (k : Nat), (∀ i ∈ l, mayB i = true) →
    lnsR (cutAt 10 (l.flatMap insT ++ rest)) k ⟨true, ⟨g, fs ++ [⟨a, b, c, d⟩]⟩⟩ = lnsR (cutAt 10 rest) (k + l.length) ⟨true, ⟨g, fs ++ [⟨a, b, c, d ++ l⟩]⟩⟩
  | [], d, k, _ => by rw [List.append_nil]; rfl
  | i :: l, d, k, h => by
    have hi := h i List.mem_cons_self
    have e : (i :: l).flatMap insT ++ rest = insL i ++ 10 :: (l.flatMap insT ++ rest) := by simp [insT]
    have hr : rdLine (nameB i.1 :: argB i) ⟨true, ⟨g, fs ++ [⟨a, b, c, d⟩]⟩⟩ = some ⟨true, ⟨g, fs ++ [⟨a, b, c, d ++ [i]⟩]⟩⟩ := by
      unfold rdLine
      rw [if_pos rfl, if_neg (by
        show ¬ some (nameB i.1) = some fnB
        intro e; injection e with e
        exact (name_facts (mayB_op hi).1 (mayB_op hi).2).2.2 e), ins_read hi]
      dsimp only
      unfold addI
      rw [List.getLast?_append, List.dropLast_concat]
      rfl
    rw [e, lnsR_line (ins_words hi) (by simp) (ins_flat hi) hr, code_read g fs a b c rest l (d ++ [i]) (k + 1) fun x hx => h x (List.mem_cons_of_mem _ hx)]
    rw [List.append_assoc, List.length_cons, Nat.add_right_comm]
    rfl
theorem fns_read (g : Int) : ∀ (l fs : List FnV) (k : Nat), (∀ f ∈ l, FnR f) → ∃ k', lnsR (cutAt 10 (l.flatMap fnT)) k ⟨true, ⟨g, fs⟩⟩ = lnsR (cutAt 10 []) k' ⟨true, ⟨g, fs ++ l⟩⟩
  | [], fs, k, _ => ⟨k, by rw [List.append_nil]; rfl⟩
  | f :: l, fs, k, h => by
    have hf := h f List.mem_cons_self
    obtain ⟨hw, hl, hh⟩ := head_words hf
    have e : (f :: l).flatMap fnT = headL f ++ 10 :: (f.code.flatMap insT ++ l.flatMap fnT) := by simp [fnT]
    have hr : rdLine (fnB :: kindW f.kind :: Lib.itoa f.params :: f.locals.map kindW) ⟨true, ⟨g, fs⟩⟩ = some ⟨true, ⟨g, fs ++ [⟨f.params, f.locals, f.kind, []⟩]⟩⟩ := by
      unfold rdLine
      rw [if_pos rfl, if_pos (show List.head? (_ :: _) = some fnB from rfl), hh]
      rfl
    obtain ⟨k', hk⟩ := fns_read g l (fs ++ [f]) (k + 1 + f.code.length) fun x hx => h x (List.mem_cons_of_mem _ hx)
    refine ⟨k', ?_⟩
    rw [e, lnsR_line hw (by simp) hl hr, code_read g fs f.params f.locals f.kind _ f.code [] (k + 1) hf.ins]
    rw [List.append_assoc] at hk
    exact hk
/-- WHAT IS WRITTEN IS READ. -/
theorem back {p : Pg} (h : PgR p) : lnsR (cutAt 10 (asmT p)) 0 St0 = .ok ⟨true, p⟩ := by
  obtain ⟨hw, hl, hg⟩ := glob_words h.globals0 h.globals
  have hr : rdLine [globB, Lib.itoa p.globals] St0 = some ⟨true, ⟨p.globals, []⟩⟩ := by
    unfold rdLine
    rw [if_neg (by simp [St0]), hg]
    rfl
  unfold asmT
  rw [lnsR_line hw (by simp) hl hr]
  obtain ⟨k', hk⟩ := fns_read p.globals p.fns [] 1 h.each
  rw [hk]
  rfl
end As
end Go.Proofs.YtkeglkneobngnaaDoor

namespace Go.Proofs.YtkeglkneobngnaaDoor
namespace As
open Cd

theorem dec_len : ∀ (k u : Nat), u < 10 ^ (k + 1) → (Lib.decDigits u).length ≤ k + 1
  | 0, u, h => by
    rw [Lib.decDigits, dif_pos (by omega)]
    exact Nat.le_refl _
  | k + 1, u, h => by
    rw [Lib.decDigits]
    split
    · simp
    · have := dec_len k (u / 10) (by rw [Nat.pow_succ] at h; omega)
      rw [List.length_append, List.length_singleton]
      omega
theorem itoa_len (n : Int) (h1 : -9223372036854775808 ≤ n) (h2 : n ≤ 9223372036854775807) : (Lib.itoa n).length ≤ 20 := by
  unfold Lib.itoa
  split
  · have := dec_len 18 n.natAbs (by omega)
    simp only [List.length_cons]
    have e : (-n).toNat = n.natAbs := by omega
    omega
  · have := dec_len 18 n.toNat (by omega)
    omega
theorem itoa_len2 (n : Int) (h1 : 0 ≤ n) (h2 : n ≤ 12) : (Lib.itoa n).length ≤ 2 := by
  unfold Lib.itoa
  rw [if_neg (by omega)]
  exact dec_len 1 n.toNat (by omega)
theorem names_len : ∀ n : Fin 27, (namesB.getD n.val []).length ≤ 8 := by decide
theorem kinds_len : ∀ n : Fin 4, (kindsB.getD n.val []).length ≤ 4 := by decide
theorem sg_len : ∀ n : Fin 20, (sgB.getD n.val []).length ≤ 2 := by decide
theorem name_len (op : Int) : (nameB op).length ≤ 8 := by
  unfold nameB
  by_cases h : op.toNat < 27
  · exact names_len ⟨_, h⟩
  · rw [List.getD_eq_getElem?_getD, List.getElem?_eq_none (by show 27 ≤ _; omega)]; decide
theorem kind_len (op : Int) : (kindW op).length ≤ 4 := by
  unfold kindW
  by_cases h : op.toNat < 4
  · exact kinds_len ⟨_, h⟩
  · rw [List.getD_eq_getElem?_getD, List.getElem?_eq_none (by show 4 ≤ _; omega)]; decide
theorem sign_len (op : Int) : (signB op).length ≤ 2 := by
  unfold signB
  by_cases h : op.toNat < 20
  · exact sg_len ⟨_, h⟩
  · rw [List.getD_eq_getElem?_getD, List.getElem?_eq_none (by show 20 ≤ _; omega)]; decide
theorem spaced_cons (w : B) (ws : List B) : (spaced (w :: ws)).length = 1 + w.length + (spaced ws).length := by
  simp [spaced]; omega
theorem insT_len {i : In} (h : mayB i = true) : (insT i).length ≤ 32 := by
  have h1 := name_len i.1
  have hn := mayB_n h
  have h2 := itoa_len i.2 hn.1 hn.2
  have h3 := sign_len i.2
  have h4 : (spaced (argB i)).length ≤ 21 := by
    unfold argB
    split
    · rw [spaced_cons]; simp [spaced]; omega
    · split
      · rw [spaced_cons]; simp [spaced]; omega
      · simp [spaced]
  unfold insT insL
  simp only [List.length_append, List.length_cons, List.length_nil]
  omega
theorem code_len : ∀ {l : List In}, (∀ i ∈ l, mayB i = true) → (l.flatMap insT).length ≤ 32 * l.length
  | [], _ => Nat.le_refl _
  | i :: l, h => by
    have := code_len (l := l) fun x hx => h x (List.mem_cons_of_mem _ hx)
    have := insT_len (h i List.mem_cons_self)
    rw [List.flatMap_cons, List.length_append, List.length_cons]
    omega
theorem locals_len : ∀ (l : List Int), (spaced (l.map kindW)).length ≤ 5 * l.length
  | [] => Nat.le_refl _
  | k :: l => by
    have := locals_len l
    have := kind_len k
    rw [List.map_cons, spaced_cons, List.length_cons]
    omega
theorem fnT_len {f : FnV} (h : FnR f) : (fnT f).length ≤ 80 + 32 * f.code.length := by
  have h1 := code_len h.ins
  have h2 := locals_len f.locals
  have h3 := h.locals
  have h4 := kind_len f.kind
  have h5 := itoa_len2 f.params h.params0 (by have := h.params; omega)
  unfold fnT headL
  simp only [List.length_append, List.length_cons, spaced_cons]
  have : fnB.length = 2 := rfl
  omega
/-- How many instructions there are. -/
def insN (l : List FnV) : Nat := (l.map fun f => f.code.length).sum
theorem fns_len : ∀ {l : List FnV}, (∀ f ∈ l, FnR f) → (l.flatMap fnT).length ≤ 80 * l.length + 32 * insN l
  | [], _ => Nat.le_refl _
  | f :: l, h => by
    have := fns_len (l := l) fun x hx => h x (List.mem_cons_of_mem _ hx)
    have := fnT_len (h f List.mem_cons_self)
    have e : insN (f :: l) = f.code.length + insN l := by simp [insN]
    rw [List.flatMap_cons, List.length_append, List.length_cons, e]
    omega
theorem asm_len {p : Pg} (h : PgR p) : (asmT p).length ≤ 1000 + 32 * insN p.fns := by
  have h1 := fns_len h.each
  have h2 := h.fns
  have h3 := itoa_len2 p.globals h.globals0 (by have := h.globals; omega)
  unfold asmT globL
  simp only [List.length_append, List.length_cons, spaced_cons]
  have : globB.length = 7 := rfl
  have : (spaced []).length = 0 := rfl
  omega
theorem insN_le {n : Nat} : ∀ {l : List FnV}, (∀ f ∈ l, f.code.length ≤ n) → insN l ≤ n * l.length
  | [], _ => Nat.zero_le _
  | f :: l, h => by
    have := insN_le (l := l) fun x hx => h x (List.mem_cons_of_mem _ hx)
    have := h f List.mem_cons_self
    have e : insN (f :: l) = f.code.length + insN l := by simp [insN]
    rw [e, List.length_cons, Nat.mul_succ]
    omega
theorem insN_append (a b : List FnV) : insN (a ++ b) = insN a + insN b := by simp [insN]
/-- A small program's text may be read. -/
theorem small_len {p : Pg} (h : PgR p) (hs : ∀ f ∈ p.fns, f.code.length ≤ 120) : (asmT p).length ≤ 60000 := by
  have h1 := asm_len h
  have h2 := insN_le hs
  have h3 := h.fns
  have : 120 * p.fns.length ≤ 120 * 12 := Nat.mul_le_mul_left _ h3
  omega
/-! A reader takes an instruction a line, at most. -/
theorem addI_n {i : In} {fs gs : List FnV} (h : addI i fs = some gs) : insN gs = insN fs + 1 := by
  unfold addI at h
  split at h
  · cases h
  · rename_i f hf
    cases h
    obtain ⟨hd, rfl⟩ := List.getLast?_eq_some_iff.1 hf
    rw [List.dropLast_concat, insN_append, insN_append]
    simp [insN]
    omega
theorem headI_n {ws : List B} {f : FnV} (h : headI ws = some f) : f.code = [] := by
  unfold headI at h
  split at h
  · split at h
    · cases h; rfl
    · cases h
  · cases h
theorem rdLine_n {ws : List B} {s s' : St} (h : rdLine ws s = some s') : insN s'.p.fns ≤ insN s.p.fns + 1 := by
  unfold rdLine at h
  split at h
  · split at h
    · obtain ⟨f, hf, rfl⟩ := Option.map_eq_some_iff.1 h
      have := headI_n hf
      dsimp only
      rw [insN_append]
      simp [insN, this]
    · split at h
      · cases h
      · obtain ⟨l, hl, rfl⟩ := Option.map_eq_some_iff.1 h
        have := addI_n hl
        dsimp only
        omega
  · obtain ⟨n, hn, rfl⟩ := Option.map_eq_some_iff.1 h
    exact Nat.le_succ _
theorem lnsR_n : ∀ {ls : List B} {k : Nat} {s s' : St}, lnsR ls k s = .ok s' → insN s'.p.fns ≤ insN s.p.fns + ls.length
  | [], k, s, s', h => by cases h; exact Nat.le_refl _
  | l :: r, k, s, s', h => by
    unfold lnsR at h
    split at h
    · have := lnsR_n h
      rw [List.length_cons]; omega
    · split at h
      · cases h
      · rename_i hr
        have := lnsR_n h
        have := rdLine_n hr
        rw [List.length_cons]; omega
theorem cutAt_len (s : UInt8) : ∀ l : B, (cutAt s l).length ≤ l.length + 1
  | [] => Nat.le_refl _
  | c :: r => by
    have := cutAt_len s r
    unfold cutAt
    split
    · simp only [List.length_cons]; omega
    · split
      · simp
      · rename_i h
        rw [h] at this
        simp only [List.length_cons] at this ⊢
        omega
/-! What a reader tells. -/
inductive Ans where
  | form (line : Nat)
  | err (e : Nat)
  | ok (p : Pg)
def readA (s : B) : Ans := if 60000 < s.length then .err 4 else match lnsR (cutAt 10 s) 0 St0 with
  | .error k => .form k
  | .ok st => if st.begun then (if progE st.p = 0 then .ok st.p else .err (progE st.p)) else .form (1 + s.count 10)
theorem read_back {p : Pg} (h : PgR p) (hl : (asmT p).length ≤ 60000) : readA (asmT p) = .ok p := by
  unfold readA
  rw [if_neg (by omega), back h]
  dsimp only
  rw [if_pos rfl, if_pos ((progE_iff p).2 h)]
theorem read_right {s : B} {p : Pg} (h : readA s = .ok p) : PgR p ∧ insN p.fns ≤ s.length + 1 := by
  unfold readA at h
  split at h
  · cases h
  · split at h
    · cases h
    · rename_i st hst
      split at h
      · split at h
        · rename_i hp
          cases h
          have h1 := lnsR_n hst
          have h2 := cutAt_len 10 s
          exact ⟨(progE_iff _).1 hp, by
            have : insN St0.p.fns = 0 := rfl
            omega⟩
        · cases h
      · cases h
/-- A TEXT THAT IS READ, and written, is read as the same again. -/
theorem read_once {s : B} {p : Pg} (h : readA s = .ok p) (hs : s.length ≤ 1500) : readA (asmT p) = .ok p := by
  obtain ⟨h1, h2⟩ := read_right h
  have h3 := asm_len h1
  exact read_back h1 (by omega)
end As
end Go.Proofs.YtkeglkneobngnaaDoor

namespace Go.Proofs.YtkeglkneobngnaaDoor
open Go.RowKit Cd As

/-- A text of bytes. -/
def stB (l : B) : ByteArray := ⟨l.toArray⟩
theorem stB_append (a b : B) : stB a ++ stB b = stB (a ++ b) := by
  apply ByteArray.ext
  simp [stB, ByteArray.data_append]
theorem stB_size (a : B) : (stB a).size = a.length := by simp [stB, ByteArray.size]
theorem stB_toList (a : B) : (stB a).toList = a := by simp [stB, ByteArray.toList_eq]
def NamesW (w : World) : Prop := ∀ n : Nat, n < 27 → w.cell? ⟨1, n, none⟩ = some (.string (stB (namesB.getD n [])))
def KindsW (w : World) : Prop := ∀ n : Nat, n < 4 → w.cell? ⟨0, n, none⟩ = some (.string (stB (kindsB.getD n [])))
theorem gNames : Tryd.prog.globalNamed "sluiceway/asm.names" = some 1 := by kernel_rfl
theorem tNames : (Tryd.prog.globals[1]?).map (·.type) = some 101 := by kernel_rfl
theorem gKinds : Tryd.prog.globalNamed "sluiceway/asm.kinds" = some 0 := by kernel_rfl
theorem tKinds : (Tryd.prog.globals[0]?).map (·.type) = some 99 := by kernel_rfl
theorem cells_names : Tryd.prog.cellsOf 101 = 27 := by kernel_rfl
theorem cells_kinds : Tryd.prog.cellsOf 99 = 4 := by kernel_rfl
theorem signB_V {n : Int} (h1 : 1 ≤ n) (h2 : n ≤ 19) : (⟨(signV n).toArray⟩ : ByteArray) = stB (signB n) := by
  unfold signV stB
  rw [if_pos ⟨h1, h2⟩]
  rfl
/-- What asm's writer reads of the package's variables. -/
structure AsmVars (w : World) : Prop where
  names : NamesW w
  kinds : KindsW w
  signs : Signs w
theorem AsmVars.below {w w' : World} (h : AsmVars w) (hb : Below w.heap.size w w') : AsmVars w' := by
  have k : Keeps (fun _ => False) w w' := Keeps.of_new hb
  exact ⟨fun n hn => k.cell_of (h.names n hn) id, fun n hn => k.cell_of (h.kinds n hn) id, fun n hn => k.cell_of (h.signs n hn) id⟩
end Go.Proofs.YtkeglkneobngnaaDoor

namespace Go.Proofs.YtkeglkneobngnaaDoor
open Go.RowKit
/-- What internal/bytealg.MaxLen holds: some int. -/
def MaxLB (w : World) : Prop := ∃ m, w.cell? ⟨3, 0, none⟩ = some (.int .i64 m)
theorem MaxLB.below {w w' : World} (h : MaxLB w) (hb : Below w.heap.size w w') : MaxLB w' := by
  obtain ⟨m, hm⟩ := h
  exact ⟨m, by rw [hb.cell (p := ⟨3, 0, none⟩) (block_lt_of_cell hm)]; exact hm⟩
end Go.Proofs.YtkeglkneobngnaaDoor

namespace Go.Proofs.YtkeglkneobngnaaDoor
open Go.RowKit Cd As

set_option maxHeartbeats 400000 in
theorem within_any (a b c : Int) (w : World) : Calls Tryd.prog 30 #[.int .i64 a, .int .i64 b, .int .i64 c] w fun e w' => e = .returned (.bool (decide (b ≤ a) && decide (a ≤ c))) ∧ w' = w := by
  obtain ⟨r, hr⟩ : ∃ r, r = (decide (b ≤ a) && decide (a ≤ c)) := ⟨_, rfl⟩
  rw [← hr]
  by_cases h1 : b ≤ a
  · by_cases h2 : a ≤ c
    · have HQ : Hid (r = true) := Lib.hid (by rw [hr, decide_eq_true h1, decide_eq_true h2]; rfl)
      clear hr
      go_enter Tryd.func30, Tryd.ntmps30
      go_wp2_with fail
      go_ret
      exact ⟨by rw [HQ.out]; rfl, rfl⟩
    · have HQ : Hid (r = false) := Lib.hid (by rw [hr, decide_eq_false h2, Bool.and_false])
      clear hr
      go_enter Tryd.func30, Tryd.ntmps30
      go_wp2_with fail
      go_ret
      exact ⟨by rw [HQ.out]; rfl, rfl⟩
  · have HQ : Hid (r = false) := Lib.hid (by rw [hr, decide_eq_false h1]; rfl)
    clear hr
    go_enter Tryd.func30, Tryd.ntmps30
    go_wp2_with fail
    go_ret
    exact ⟨by rw [HQ.out]; rfl, rfl⟩

def namesT : ByteArray := " push bool nil get set load store bin un pop jump false call ret go make send recv close len print sleep select casesend caserecv caseelse".toUTF8
def namesX : List ByteArray := namesB.map stB
theorem names_count : Lib.countB namesT ⟨#[32]⟩ = 26 := by decide +kernel
theorem names_split : Lib.splitB ⟨#[32]⟩ 0 26 namesT = namesX := by decide +kernel

set_option maxRecDepth 100000 in
set_option maxHeartbeats 1600000 in
theorem rInsNames_any (w : World) (hM : MaxLB w) : Calls Tryd.prog 48 #[] w fun e w' =>
    e = .returned (.slice (some ⟨w.heap.size, 0, none⟩) 27 27) ∧ w' = w.alloc (.cells (namesX.map Value.string).toArray 9) := by
  obtain ⟨m, hm⟩ := hM
  have H := Tryd.strings_Split namesT ⟨#[32]⟩ m w (by decide +kernel) hm (by decide +kernel)
  rw [names_count, names_split] at H
  have G := Lib.hid H
  clear H hm
  generalize (namesX.map Value.string).toArray = X at *
  go_enter Tryd.func48, Tryd.ntmps48
  go_wp2_with (go_at_call 77; refine G.out.mono ?_; rintro e w2 ⟨rfl, rfl⟩)
  go_ret
  exact ⟨rfl, rfl⟩
/-- The row of names, and what lies in it. -/
theorem rNames_at (w : World) (hM : MaxLB w) : Calls Tryd.prog 48 #[] w fun e w' =>
    e = .returned (.slice (some ⟨w.heap.size, 0, none⟩) 27 27) ∧ Below w.heap.size w w' ∧ ∀ k, k < 27 → w'.cell? ⟨w.heap.size, k, none⟩ = some (.string (stB (namesB.getD k []))) := by
  refine (rInsNames_any w hM).mono ?_
  rintro e w' ⟨rfl, rfl⟩
  refine ⟨rfl, (Below.refl _ _).alloc (Nat.le_refl _) _, fun k hk => ?_⟩
  rw [cell_of_row (w.alloc (.cells (namesX.map Value.string).toArray 9)) w.heap.size k _ _ _ (heap_alloc_new _ _)]
  have e : (namesX.map Value.string)[k]? = some (.string (stB (namesB.getD k []))) := by
    have h27 : namesB.length = 27 := rfl
    unfold namesX
    rw [List.getElem?_map, List.getElem?_map, List.getD_eq_getElem?_getD, List.getElem?_eq_getElem (by omega)]
    rfl
  simpa using e
def manyT : ByteArray := " push bool get set load store bin un jump false call go select casesend caserecv caseelse ".toUTF8
theorem many_says : ∀ k : Fin 27, Lib.contains manyT.data.toList (32 :: (namesB.getD k.val [] ++ [32])) = (hasN k.val) := by decide +kernel

set_option maxRecDepth 100000 in
set_option maxHeartbeats 1600000 in
theorem rNumbered_any (k : Nat) (w : World) (hk : k < 27) (hM : MaxLB w) : Calls Tryd.prog 21 #[.int .i64 (k : Int)] w fun e w' => e = .returned (.bool (hasN (k : Int))) ∧ Below w.heap.size w w' := by
  have HM := Lib.hid hM
  have hs := many_says ⟨k, hk⟩
  dsimp only at hs
  have hki : (k : Int) < 27 := by omega
  obtain ⟨nm, hnm⟩ : ∃ nm, nm = namesB.getD k [] := ⟨_, rfl⟩
  have HC : Hid (∀ W : World, MaxLB W → Calls Tryd.prog 47 #[.string manyT, .string (⟨#[32]⟩ ++ stB nm ++ ⟨#[32]⟩)] W fun e w' => e = .returned (.bool (hasN (k : Int))) ∧ w' = W) := Lib.hid fun W hW => by
    obtain ⟨m, hm⟩ := hW
    have H := Tryd.strings_Contains manyT (⟨#[32]⟩ ++ stB nm ++ ⟨#[32]⟩) m W (by decide +kernel) hm
    have e2 : (⟨#[32]⟩ ++ stB nm ++ ⟨#[32]⟩ : ByteArray).data.toList = 32 :: (nm ++ [32]) := by simp [stB]
    rw [e2, hnm, hs] at H
    rw [hnm]
    exact H
  have HN := Lib.hid (rNames_at w hM)
  have hkk : k < 27 := hk
  rw [← hnm] at hs
  have HNM := Lib.hid hnm
  have hsz : (stB nm).size ≤ 8 := by rw [stB_size, hnm]; exact names_len ⟨k, hk⟩
  have hsz2 : (⟨#[32]⟩ ++ stB nm : ByteArray).size ≤ 9 := by
    rw [ByteArray.size_append]
    have : (⟨#[32]⟩ : ByteArray).size = 1 := rfl
    omega
  clear hs hM hnm
  go_enter Tryd.func21, Tryd.ntmps21
  go_wp2_with fail
  refine HN.out.mono ?_
  rintro e w2 ⟨rfl, hb2, hc⟩
  have hck := hc k hkk
  rw [← HNM.out] at hck
  have HB2 := Lib.hid hb2
  have HM2 := Lib.hid (HM.out.below hb2)
  clear hc hb2
  go_wp2_with (go_at_call 47; refine (HC.out _ HM2.out).mono ?_; rintro e w3 ⟨rfl, rfl⟩)
  go_ret
  exact ⟨rfl, HB2.out⟩

theorem may_1 (n : Int) (h1 : -9223372036854775808 ≤ n) (h2 : n ≤ 9223372036854775807) : mayB (1, n) = true := by simp [mayB, leastI, mostI, h1, h2]
theorem may_2 (n : Int) : mayB (2, n) = (decide (0 ≤ n) && decide (n ≤ 1)) := by simp [mayB, leastI, mostI]
theorem may_8 (n : Int) : mayB (8, n) = (decide (1 ≤ n) && decide (n ≤ 16)) := by simp [mayB, leastI, mostI]
theorem may_9 (n : Int) : mayB (9, n) = (decide (17 ≤ n) && decide (n ≤ 19)) := by simp [mayB, leastI, mostI]
theorem may_out {op : Int} (h : ¬ (1 ≤ op ∧ op ≤ 26)) (n : Int) : mayB (op, n) = false := by
  rw [← Bool.not_eq_true]
  intro he
  simp [mayB] at he
  omega
theorem may_else {op : Int} (h : 1 ≤ op ∧ op ≤ 26) (h1 : op ≠ 1) (h2 : op ≠ 2) (h8 : op ≠ 8) (h9 : op ≠ 9) (n : Int) (hn : n ≤ 9223372036854775807) : mayB (op, n) = (decide (n = 0) || (decide (0 < n) && hasN op)) := by
  unfold mayB hasN leastI mostI
  simp only [if_neg h1, if_neg h2, if_neg h8, if_neg h9]
  cases hm : manyB op <;> simp <;> by_cases h0 : n = 0 <;> by_cases hp : 0 < n <;> simp_all <;> omega

set_option maxRecDepth 100000 in
set_option maxHeartbeats 3200000 in
theorem rRightIns_any (op n : Int) (w : World) (h1 : -9223372036854775808 ≤ n) (h2 : n ≤ 9223372036854775807) (hM : MaxLB w) : Calls Tryd.prog 31 #[.agg #[.int .i64 op, .int .i64 n]] w fun e w' => e = .returned (.bool (mayB (op, n))) ∧ Below w.heap.size w w' := by
  have hb := (Below.refl w.heap.size w).alloc (Nat.le_refl _) (.cells #[.int .i64 op, .int .i64 n] 52)
  have HB := Lib.hid hb
  have HM := Lib.hid (hM.below hb)
  clear hb hM
  by_cases g1 : op = 1
  · subst g1
    rw [may_1 n h1 h2]
    clear h1 h2
    go_enter Tryd.func31, Tryd.ntmps31
    go_wp2_with fail
    go_ret
    exact ⟨rfl, HB.out⟩
  by_cases g2 : op = 2
  · subst g2
    rw [may_2 n]
    clear h1 h2 g1
    go_enter Tryd.func31, Tryd.ntmps31
    go_wp2_with fail
    refine (within_any n 0 1 _).mono ?_
    rintro e w1 ⟨rfl, rfl⟩
    go_wp2_with fail
    go_ret
    exact ⟨rfl, HB.out⟩
  by_cases g8 : op = 8
  · subst g8
    rw [may_8 n]
    clear h1 h2 g1 g2
    go_enter Tryd.func31, Tryd.ntmps31
    go_wp2_with fail
    refine (within_any n 1 16 _).mono ?_
    rintro e w1 ⟨rfl, rfl⟩
    go_wp2_with fail
    go_ret
    exact ⟨rfl, HB.out⟩
  by_cases g9 : op = 9
  · subst g9
    rw [may_9 n]
    clear h1 h2 g1 g2 g8
    go_enter Tryd.func31, Tryd.ntmps31
    go_wp2_with fail
    refine (within_any n 17 19 _).mono ?_
    rintro e w1 ⟨rfl, rfl⟩
    go_wp2_with fail
    go_ret
    exact ⟨rfl, HB.out⟩
  by_cases g : 1 ≤ op ∧ op ≤ 26
  · have HW : Hid ((decide (1 ≤ op) && decide (op ≤ 26)) = true) := Lib.hid (by simp [g.1, g.2])
    have HE := Lib.hid (may_else g g1 g2 g8 g9 n h2)
    obtain ⟨k, rfl⟩ : ∃ k : Nat, op = (k : Int) := ⟨op.toNat, (Int.toNat_of_nonneg (by omega)).symm⟩
    have HK : Hid (k < 27) := Lib.hid (by omega)
    clear h1 h2 g
    go_enter Tryd.func31, Tryd.ntmps31
    go_wp2_with fail
    refine (within_any k 1 26 _).mono ?_
    rintro e w1 ⟨rfl, rfl⟩
    rw [HW.out]
    by_cases z0 : n = 0
    · subst z0
      go_wp2_with fail
      go_ret
      exact ⟨by rw [HE.out]; rfl, HB.out⟩
    · by_cases zp : 0 < n
      · have HNM := Lib.hid (rNumbered_any k _ HK.out HM.out)
        go_wp2_with fail
        refine HNM.out.mono ?_
        rintro e w2 ⟨rfl, hb2⟩
        have HB2 := Lib.hid (HB.out.trans (hb2.mono HB.out.size))
        have HE2 : Hid (mayB ((k : Int), n) = hasN (k : Int)) := Lib.hid (by rw [HE.out, decide_eq_false z0, decide_eq_true zp]; rfl)
        clear hb2 HNM
        go_wp2_with fail
        go_ret
        exact ⟨congrArg (fun b => Ending.returned (Value.bool b)) (by rw [HE2.out]; simp [z0]), HB2.out⟩
      · have HE2 : Hid (mayB ((k : Int), n) = false) := Lib.hid (by rw [HE.out, decide_eq_false z0, decide_eq_false zp]; rfl)
        go_wp2_with fail
        go_ret
        exact ⟨congrArg (fun b => Ending.returned (Value.bool b)) (by rw [HE2.out]; simp [z0]), HB.out⟩
  · rw [may_out g n]
    have HW : Hid ((decide (1 ≤ op) && decide (op ≤ 26)) = false) := Lib.hid (by
      rw [← Bool.not_eq_true]
      intro he
      simp at he
      exact g he)
    clear h1 h2 g
    go_enter Tryd.func31, Tryd.ntmps31
    go_wp2_with fail
    refine (within_any op 1 26 _).mono ?_
    rintro e w1 ⟨rfl, rfl⟩
    rw [HW.out]
    go_wp2_with fail
    go_ret
    exact ⟨rfl, HB.out⟩
end Go.Proofs.YtkeglkneobngnaaDoor

namespace Go.Proofs.YtkeglkneobngnaaDoor
open Go.RowKit Cd As

/-- The numbers of a program's instructions are ints. -/
def InsR (l : List In) : Prop := ∀ x ∈ l, -9223372036854775808 ≤ x.2 ∧ x.2 ≤ 9223372036854775807
def RangeP (p : Pg) : Prop := ∀ f ∈ p.fns, InsR f.code
def leadB (pa ki : Int) (n : Nat) : Bool := (decide (0 ≤ pa) && decide (pa ≤ (n : Int))) && (decide (0 ≤ ki) && decide (ki ≤ 3))
theorem fnE_ref (pa ki : Int) (ls : List Int) (cs : List In) (h : ¬ (12 < ls.length ∨ 9000 < cs.length)) :
    fnE ⟨pa, ls, ki, cs⟩ = if (leadB pa ki ls.length && ls.all kindB) then (if cs.all mayB then 0 else 1) else 2 := by
  unfold fnE leadB
  rw [if_neg h]
  by_cases h1 : pa < 0 ∨ (ls.length : Int) < pa ∨ ki < 0 ∨ 3 < ki
  · rw [if_pos h1, if_neg]
    intro he
    simp at he
    omega
  · rw [if_neg h1]
    have e : ((decide (0 ≤ pa) && decide (pa ≤ (ls.length : Int))) && (decide (0 ≤ ki) && decide (ki ≤ 3))) = true := by simp; omega
    rw [e, Bool.true_and]
theorem take_all {l : List Int} {k : Nat} (hk : k < l.length) : (l.take (k + 1)).all kindB = ((l.take k).all kindB && kindB (l.getD k 0)) := by
  rw [List.take_succ_eq_append_getElem hk, List.all_append, List.getD_eq_getElem?_getD, List.getElem?_eq_getElem hk]
  simp

set_option maxRecDepth 100000 in
set_option maxHeartbeats 6400000 in
theorem rRight_any (p : Pg) (v : Value) (w : World) (hp : ProgAt w v p) (hR : RangeP p) (hM : MaxLB w) :
    Calls Tryd.prog 12 #[v] w fun e w' => e = .returned (.int .i64 (progE p)) ∧ Below w.heap.size w w' := by
  obtain ⟨vf, rfl, ao, n, cap, rfl, hn, hnc, hcm, hx⟩ := hp
  unfold maxLen at hcm
  obtain ⟨gl, fs⟩ := p
  dsimp only [RangeP] at hn hx hR ⊢
  have hb0 := (Below.refl w.heap.size w).alloc (Nat.le_refl _) (.cells #[.int .i64 gl, .slice ao n cap] 24)
  have HB0 := Lib.hid hb0
  have HN := Lib.hid hn
  have HRG := Lib.hid hR
  have HM := Lib.hid hM
  have HX : Hid (∀ W, Below w.heap.size w W → 0 < n → ∃ b o, ao = some ⟨b, o, none⟩ ∧ ∀ i f, fs[i]? = some f → FnAt W b (o + i * 4) f) := Lib.hid fun W hW h0 => by
    obtain ⟨b, o, h1, h2, h3⟩ := hx h0
    exact ⟨b, o, h1, fun i f hi => (h3 i f hi).below hW⟩
  have HE : Hid (progE ⟨gl, fs⟩ = if gl < 0 ∨ 8 < gl then 2 else if 12 < n then 4 else fnsE fs) := Lib.hid (by rw [hn]; rfl)
  obtain ⟨E, hE⟩ : ∃ E, E = progE ⟨gl, fs⟩ := ⟨_, rfl⟩
  rw [← hE] at HE ⊢
  clear hb0 hx hn hE hR hM
  go_enter Tryd.func12, Tryd.ntmps12
  go_upto_region 1 with fail
  have hx0 := cell_of_row (w.alloc (.cells #[.int .i64 gl, .slice ao n cap] 24)) w.heap.size 0 _ _ _ (heap_alloc_new _ _)
  have hx1 := cell_of_row (w.alloc (.cells #[.int .i64 gl, .slice ao n cap] 24)) w.heap.size 1 _ _ _ (heap_alloc_new _ _)
  generalize w.alloc (.cells #[.int .i64 gl, .slice ao n cap] 24) = W1 at *
  have hx0' : W1.cell? ⟨w.heap.size, 0, none⟩ = some (.int .i64 gl) := hx0
  have hx1' : W1.cell? ⟨w.heap.size, 1, none⟩ = some (.slice ao n cap) := hx1
  clear hx0 hx1
  have HWG := Lib.hid (within_any gl 0 8 W1)
  by_cases h1 : gl < 0 ∨ 8 < gl
  · have hb : (decide ((0 : Int) ≤ gl) && decide (gl ≤ 8)) = false := by
      rw [← Bool.not_eq_true]; intro he; simp at he; omega
    rw [hb] at HWG
    have HQ : Hid (E = 2) := Lib.hid (by rw [HE.out, if_pos h1])
    clear hb h1
    go_wp2_with fail
    refine HWG.out.mono ?_
    rintro e w2 ⟨rfl, rfl⟩
    go_wp2_with fail
    go_ret
    exact ⟨by rw [HQ.out]; rfl, HB0.out⟩
  have hb : (decide ((0 : Int) ≤ gl) && decide (gl ≤ 8)) = true := by simp; omega
  rw [hb] at HWG
  by_cases h3 : 12 < n
  · have h3i : (12 : Int) < (n : Int) := by omega
    have HQ : Hid (E = 4) := Lib.hid (by rw [HE.out, if_neg h1, if_pos h3])
    clear hb h1
    go_wp2_with fail
    refine HWG.out.mono ?_
    rintro e w2 ⟨rfl, rfl⟩
    go_wp2_with fail
    go_ret
    exact ⟨by rw [HQ.out]; rfl, HB0.out⟩
  have h3i : ¬ (12 : Int) < (n : Int) := by omega
  have HQ : Hid (E = fnsE fs) := Lib.hid (by rw [HE.out, if_neg h1, if_neg h3])
  clear HE hb h1 h3
  go_wp2_with fail
  refine HWG.out.mono ?_
  rintro e w2 ⟨rfl, rfl⟩
  go_wp2_with fail
  clear h3i HWG
  go_loopw [21] (fun iv wr => ∃ k : Nat, k ≤ n ∧ iv = .int .i64 k ∧ Hid (∀ j g, j < k → fs[j]? = some g → fnE g = 0) ∧ Below w.heap.size w wr) (fun iv _ => n - (intOf iv).toNat)
  case atStart => exact ⟨0, Nat.zero_le _, rfl, Lib.hid (fun j _ hj => absurd hj (Nat.not_lt_zero _)), HB0.out⟩
  case round =>
    obtain ⟨k, hk, rfl, hall, hbel⟩ := hrel
    rename World => wr
    have HB := Lib.hid hbel
    clear hbel hx0' hx1'
    by_cases hkn : k < n
    · obtain ⟨b, o, rfl, hfn⟩ := HX.out _ HB.out (by omega)
      have hkl : k < fs.length := by rw [← HN.out]; exact hkn
      obtain ⟨f, hf⟩ : ∃ f, fs[k]? = some f := ⟨_, List.getElem?_eq_getElem hkl⟩
      obtain ⟨hc1, ⟨vl, hc2, hli⟩, hc3, vc, hc4, hci⟩ := hfn k f hf
      have HF := Lib.hid hf
      have HIR : Hid (InsR f.code) := Lib.hid (HRG.out f (List.mem_of_getElem? hf))
      obtain ⟨pa, ls, ki, cs⟩ := f
      dsimp only at hc1 hc2 hc3 hc4 hli hci HIR
      obtain ⟨a1, n1, c1, rfl, hn1, hnc1, hcm1, hxl⟩ := hli
      obtain ⟨a2, n2, c2, rfl, hn2, hnc2, hcm2, hxc⟩ := hci
      unfold maxLen at hcm1 hcm2
      have hi1 : (k : Int) < (n : Int) := by omega
      have hba := (Below.refl wr.heap.size wr).alloc (Nat.le_refl _) (.cells #[.int .i64 pa, .slice a1 n1 c1, .int .i64 ki, .slice a2 n2 c2] 44)
      have HNN : Hid (n1 = ls.length ∧ n2 = cs.length) := Lib.hid ⟨hn1, hn2⟩
      have HXL : Hid (∀ W, Below wr.heap.size wr W → 0 < n1 → ∃ b o, a1 = some ⟨b, o, none⟩ ∧ ∀ i, i < n1 → W.cell? ⟨b, o + i, none⟩ = some (.int .i64 (ls.getD i 0))) := Lib.hid fun W hW h0 => by
        obtain ⟨b, o, h1, h2, h3⟩ := hxl h0
        exact ⟨b, o, h1, fun i hi => by rw [hW.cell (p := ⟨b, o + i, none⟩) h2]; exact h3 i hi⟩
      have HXC : Hid (∀ W, Below wr.heap.size wr W → 0 < n2 → ∃ b o, a2 = some ⟨b, o, none⟩ ∧ ∀ i x, cs[i]? = some x → W.cell? ⟨b, o + i * 2, none⟩ = some (.int .i64 x.1) ∧ W.cell? ⟨b, o + i * 2 + 1, none⟩ = some (.int .i64 x.2)) := Lib.hid fun W hW h0 => by
        obtain ⟨b, o, h1, h2, h3⟩ := hxc h0
        refine ⟨b, o, h1, fun i x hi => ?_⟩
        rw [hW.cell (p := ⟨b, o + i * 2, none⟩) h2, hW.cell (p := ⟨b, o + i * 2 + 1, none⟩) h2]
        exact h3 i x hi
      have HBA := Lib.hid hba
      have HBW : Hid (∀ W, Below wr.heap.size wr W → Below w.heap.size w W) := Lib.hid fun W hW => HB.out.trans (hW.mono HB.out.size)
      clear hfn HX hf hkl hn1 hn2 hxl hxc hba
      go_upto_region 8 with fail
      have hy0 : (wr.alloc (.cells #[.int .i64 pa, .slice a1 n1 c1, .int .i64 ki, .slice a2 n2 c2] 44)).cell? ⟨wr.heap.size, 0, none⟩ = some (.int .i64 pa) := cell_of_row _ _ _ _ _ _ (heap_alloc_new _ _)
      have hy1 : (wr.alloc (.cells #[.int .i64 pa, .slice a1 n1 c1, .int .i64 ki, .slice a2 n2 c2] 44)).cell? ⟨wr.heap.size, 1, none⟩ = some (.slice a1 n1 c1) := cell_of_row _ _ _ _ _ _ (heap_alloc_new _ _)
      have hy2 : (wr.alloc (.cells #[.int .i64 pa, .slice a1 n1 c1, .int .i64 ki, .slice a2 n2 c2] 44)).cell? ⟨wr.heap.size, 2, none⟩ = some (.int .i64 ki) := cell_of_row _ _ _ _ _ _ (heap_alloc_new _ _)
      have hy3 : (wr.alloc (.cells #[.int .i64 pa, .slice a1 n1 c1, .int .i64 ki, .slice a2 n2 c2] 44)).cell? ⟨wr.heap.size, 3, none⟩ = some (.slice a2 n2 c2) := cell_of_row _ _ _ _ _ _ (heap_alloc_new _ _)
      generalize wr.alloc (.cells #[.int .i64 pa, .slice a1 n1 c1, .int .i64 ki, .slice a2 n2 c2] 44) = W2 at *
      clear hc1 hc2 hc3 hc4
      by_cases g1 : 12 < n1
      · have g1i : (12 : Int) < (n1 : Int) := by omega
        have HZ : Hid (E = 4) := Lib.hid (by
          have e : fnE ⟨pa, ls, ki, cs⟩ = 4 := by unfold fnE; rw [if_pos (Or.inl (by rw [← HNN.out.1]; exact g1))]
          rw [HQ.out, fnsE_at (fun j g hj hg => hall.out j g hj hg) HF.out (by rw [e]; decide), e])
        clear hall
        go_wp2_with fail
        go_ret
        exact ⟨by rw [HZ.out]; rfl, HBW.out _ HBA.out⟩
      have g1i : ¬ (12 : Int) < (n1 : Int) := by omega
      by_cases g2 : 9000 < n2
      · have g2i : (9000 : Int) < (n2 : Int) := by omega
        have HZ : Hid (E = 4) := Lib.hid (by
          have e : fnE ⟨pa, ls, ki, cs⟩ = 4 := by unfold fnE; rw [if_pos (Or.inr (by rw [← HNN.out.2]; exact g2))]
          rw [HQ.out, fnsE_at (fun j g hj hg => hall.out j g hj hg) HF.out (by rw [e]; decide), e])
        clear hall
        go_wp2_with fail
        go_ret
        exact ⟨by rw [HZ.out]; rfl, HBW.out _ HBA.out⟩
      have g2i : ¬ (9000 : Int) < (n2 : Int) := by omega
      have HFE : Hid (fnE ⟨pa, ls, ki, cs⟩ = if (leadB pa ki n1 && ls.all kindB) then (if cs.all mayB then 0 else 1) else 2) := Lib.hid (by
        rw [fnE_ref pa ki ls cs (by rw [← HNN.out.1, ← HNN.out.2]; omega), HNN.out.1])
      have HW1 := Lib.hid (within_any pa 0 n1 W2)
      have HW2 := Lib.hid (within_any ki 0 3 W2)
      obtain ⟨x1, hx1⟩ : ∃ x1, x1 = (decide ((0 : Int) ≤ pa) && decide (pa ≤ (n1 : Int))) := ⟨_, rfl⟩
      obtain ⟨x2, hx2⟩ : ∃ x2, x2 = (decide ((0 : Int) ≤ ki) && decide (ki ≤ 3)) := ⟨_, rfl⟩
      have HFB : Hid (leadB pa ki n1 = (x1 && x2)) := Lib.hid (by rw [hx1, hx2]; rfl)
      rw [← hx1] at HW1
      rw [← hx2] at HW2
      clear hx1 hx2 g1 g2
      go_upto_region 10 with fail
      clear g1i g2i
      go_cut [5] from 35 to 45 (fun ok wx => ok = .bool (x1 && x2) ∧ wx = W2)
      case first =>
        cases x1
        · go_wp2_with fail
          refine HW1.out.mono ?_
          rintro e w2 ⟨rfl, rfl⟩
          go_wp2_with fail
          go_meet
          exact ⟨rfl, rfl⟩
        · go_wp2_with fail
          refine HW1.out.mono ?_
          rintro e w2 ⟨rfl, rfl⟩
          go_wp2_with fail
          refine HW2.out.mono ?_
          rintro e w2 ⟨rfl, rfl⟩
          go_wp2_with fail
          go_meet
          exact ⟨rfl, rfl⟩
      case rest =>
        obtain ⟨rfl, hww⟩ := hcut
        replace hww := hww.symm
        subst hww
        clear HW1 HW2
        go_wp2_with fail
        go_loopw [49, 5] (fun iv ok wx => ∃ j : Nat, j ≤ n1 ∧ iv = .int .i64 j ∧ ok = .bool ((x1 && x2) && (ls.take j).all kindB) ∧ wx = W2) (fun iv _ _ => n1 - (intOf iv).toNat)
        case atStart => exact ⟨0, Nat.zero_le _, rfl, by rw [List.take_zero, List.all_nil, Bool.and_true], rfl⟩
        case round =>
          obtain ⟨j, hj, rfl, rfl, hww⟩ := hrel
          replace hww := hww.symm
          subst hww
          by_cases hjn : j < n1
          · obtain ⟨b, o, rfl, hcell⟩ := HXL.out _ HBA.out (by omega)
            have hc1 := hcell j hjn
            have hi2 : (j : Int) < (n1 : Int) := by omega
            have HTA : Hid ((ls.take (j + 1)).all kindB = ((ls.take j).all kindB && kindB (ls.getD j 0))) := Lib.hid (take_all (by rw [← HNN.out.1]; exact hjn))
            clear hcell HXL
            obtain ⟨x, hxx⟩ : ∃ x, x = ls.getD j 0 := ⟨_, rfl⟩
            rw [← hxx] at hc1 HTA
            clear hxx
            have HWK := Lib.hid (within_any x 1 3 W2)
            have hkb : (decide ((1 : Int) ≤ x) && decide (x ≤ 3)) = kindB x := rfl
            rw [hkb] at HWK
            obtain ⟨q, hq⟩ : ∃ q, q = ((x1 && x2) && (ls.take j).all kindB) := ⟨_, rfl⟩
            have HQB : Hid (((x1 && x2) && (ls.take (j + 1)).all kindB) = (q && kindB x)) := Lib.hid (by rw [HTA.out, hq, Bool.and_assoc (x1 && x2)])
            rw [← hq]
            clear hq HTA hkb
            cases q
            · go_wp2_with fail
              go_roundw
              case rel => exact ⟨j + 1, by omega, by go_num, by rw [HQB.out]; rfl, trivial⟩
              case measure => simp [intOf]; omega
            · go_wp2_with fail
              refine HWK.out.mono ?_
              rintro e w2 ⟨rfl, rfl⟩
              go_wp2_with fail
              go_roundw
              case rel => exact ⟨j + 1, by omega, by go_num, by rw [HQB.out]; rfl, trivial⟩
              case measure => simp [intOf]; omega
          · obtain rfl : j = n1 := by omega
            have HTK : Hid ((ls.take j).all kindB = ls.all kindB) := Lib.hid (by rw [HNN.out.1, List.take_length])
            rw [HTK.out]
            clear HXL HTK
            obtain ⟨q, hq⟩ : ∃ q, q = ((x1 && x2) && ls.all kindB) := ⟨_, rfl⟩
            have HFQ : Hid (fnE ⟨pa, ls, ki, cs⟩ = if q then (if cs.all mayB then 0 else 1) else 2) := Lib.hid (by rw [HFE.out, HFB.out, hq])
            rw [← hq]
            clear hq HFE HFB
            cases q
            · have HZ : Hid (E = 2) := Lib.hid (by
                have e : fnE ⟨pa, ls, ki, cs⟩ = 2 := HFQ.out
                rw [HQ.out, fnsE_at (fun j g hj hg => hall.out j g hj hg) HF.out (by rw [e]; decide), e])
              clear hall HFQ
              go_wp2_with fail
              go_ret
              exact ⟨by rw [HZ.out]; rfl, HBW.out _ HBA.out⟩
            · have HFI : Hid (fnE ⟨pa, ls, ki, cs⟩ = if cs.all mayB then 0 else 1) := Lib.hid HFQ.out
              clear HFQ
              have hy3x := hy3
              go_wp2_with fail
              clear hy0 hy1 hy2 hy3 hy3x
              go_loopw [64] (fun iv wx => ∃ q : Nat, q ≤ n2 ∧ iv = .int .i64 q ∧ Hid (∀ j, j < q → mayB (cs.getD j (0, 0)) = true) ∧ Below wr.heap.size wr wx) (fun iv _ => n2 - (intOf iv).toNat)
              case atStart => exact ⟨0, Nat.zero_le _, rfl, Lib.hid (fun j hj => absurd hj (Nat.not_lt_zero _)), HBA.out⟩
              case round =>
                obtain ⟨q, hq, rfl, hal2, hbel⟩ := hrel
                rename World => wx
                by_cases hqm : q < n2
                · obtain ⟨b, o, rfl, hcell⟩ := HXC.out _ hbel (by omega)
                  have hql : q < cs.length := by rw [← HNN.out.2]; exact hqm
                  obtain ⟨c, hc⟩ : ∃ c, cs[q]? = some c := ⟨_, List.getElem?_eq_getElem hql⟩
                  obtain ⟨hc1, hc2⟩ := hcell q c hc
                  have HXX : Hid (cs.getD q (0, 0) = c) := Lib.hid (by rw [List.getD_eq_getElem?_getD, hc]; rfl)
                  have hir := HIR.out c (List.mem_of_getElem? hc)
                  obtain ⟨x, y⟩ := c
                  dsimp only at hc1 hc2 hir
                  have hi3 : (q : Int) < (n2 : Int) := by omega
                  have hbx := hbel.alloc hbel.size (.cells #[.int .i64 x, .int .i64 y] 52)
                  have HRI := Lib.hid (rRightIns_any x y (wx.alloc (.cells #[.int .i64 x, .int .i64 y] 52)) hir.1 hir.2 (HM.out.below (HBW.out _ hbx)))
                  clear hcell HXC hql hc hir
                  go_wp2_with fail
                  refine HRI.out.mono ?_
                  rintro e w3 ⟨rfl, hb3⟩
                  have HB3 : Hid (Below wr.heap.size wr w3) := Lib.hid (hbx.trans (hb3.mono hbx.size))
                  clear HRI hb3 hbx
                  cases hmb : mayB (x, y) with
                  | false =>
                    have HZ : Hid (E = 1) := Lib.hid (by
                      have e : fnE ⟨pa, ls, ki, cs⟩ = 1 := by rw [HFI.out, not_ins (j := q) (by rw [← HNN.out.2]; exact hqm) (by rw [HXX.out]; exact hmb)]; rfl
                      rw [HQ.out, fnsE_at (fun j g hj hg => hall.out j g hj hg) HF.out (by rw [e]; decide), e])
                    clear hall hal2 hmb
                    go_wp2_with fail
                    go_ret
                    exact ⟨by rw [HZ.out]; rfl, HBW.out _ HB3.out⟩
                  | true =>
                    have HK : Hid (∀ j, j < q + 1 → mayB (cs.getD j (0, 0)) = true) := Lib.hid fun j hj => by
                      by_cases e : j = q
                      · subst e
                        rw [HXX.out]
                        exact hmb
                      · exact hal2.out j (by omega)
                    clear hal2 hmb
                    go_wp2_with fail
                    go_roundw
                    case rel => exact ⟨q + 1, by omega, by go_num, HK, HB3.out⟩
                    case measure => simp [intOf]; omega
                · obtain rfl : q = n2 := by omega
                  have HK : Hid (∀ j g, j < k + 1 → fs[j]? = some g → fnE g = 0) := Lib.hid fun j g hj hg => by
                    by_cases e : j = k
                    · subst e
                      rw [HF.out] at hg
                      cases hg
                      rw [HFI.out, all_ins fun j hj => hal2.out j (by rw [HNN.out.2]; exact hj)]
                      rfl
                    · exact hall.out j g (by omega) hg
                  have HBE := Lib.hid (HBW.out _ hbel)
                  clear hall hal2 HXC
                  go_wp2_with fail
                  go_roundw
                  case rel => exact ⟨k + 1, by omega, by go_num, HK, HBE.out⟩
                  case measure => simp [intOf]; omega
    · obtain rfl : k = n := by omega
      have HA : Hid (E = 0) := Lib.hid (by rw [HQ.out]; exact fnsE_all fun j g hj hg => hall.out j g (by rw [HN.out]; exact hj) hg)
      clear hall HX
      go_wp2_with fail
      go_ret
      exact ⟨by rw [HA.out]; rfl, HB.out⟩
end Go.Proofs.YtkeglkneobngnaaDoor

namespace Go.Proofs.YtkeglkneobngnaaDoor
open Go.RowKit

/-- A block that has just been laid with bytes reads as their text. -/
theorem new_text {w : World} (l : List Nat) (n : Nat) (hn : l.length = n) :
    (convert 50 9 (.slice (some ⟨w.heap.size, 0, none⟩) n n)).run Tryd.prog (w.alloc (.cells (rowV l) 5)) = .ok (.string (txt l)) (w.alloc (.cells (rowV l) 5)) :=
  text_of_row (heap_alloc_new _ _) hn

theorem new_text1 {w : World} (d : Nat) : (convert 50 9 (.slice (some ⟨w.heap.size, 0, none⟩) 1 1)).run Tryd.prog (w.alloc (.cells #[.int .u8 (d : Int)] 5)) = .ok (.string (txt [d])) (w.alloc (.cells #[.int .u8 (d : Int)] 5)) := new_text [d] 1 rfl
theorem new_text2 {w : World} (d e : Nat) : (convert 50 9 (.slice (some ⟨w.heap.size, 0, none⟩) 2 2)).run Tryd.prog (w.alloc (.cells #[.int .u8 (d : Int), .int .u8 (e : Int)] 5)).drew = .ok (.string (txt [d, e])) (w.alloc (.cells #[.int .u8 (d : Int), .int .u8 (e : Int)] 5)).drew :=
  text_of_row (W := (w.alloc (.cells (rowV [d, e]) 5)).drew) (l := [d, e]) (heap_alloc_new _ _) rfl

/-- Where the loop of Num stands: the bytes so far, the last one's digit, what is left. -/
def NumAt (N : Nat) (o : ByteArray) (m : Nat) (l : List Nat) (d : Nat) : Prop := bs o = l ++ [d] ∧ d < 128 ∧ Vy.enc N = (if m = 0 then l ++ [d] else l ++ [d + 128] ++ Vy.enc m)
theorem NumAt.start (N : Nat) : NumAt N (txt [N % 128]) (N / 128) [] (N % 128) := by
  refine ⟨by rw [bs_txt _ (by intro b hb; rw [List.mem_singleton.1 hb]; omega)]; rfl, by omega, ?_⟩
  by_cases h : N < 128
  · rw [if_pos (by omega), Vy.enc_small h, Nat.mod_eq_of_lt h]; rfl
  · rw [if_neg (by omega), Vy.enc_big h]; rfl
theorem NumAt.size {N : Nat} {o : ByteArray} {m : Nat} {l : List Nat} {d : Nat} (h : NumAt N o m l d) (hN : N < 2 ^ 64) : o.size = l.length + 1 ∧ l.length < 10 := by
  have h1 : o.size = l.length + 1 := by rw [← bs_length, h.1]; simp
  refine ⟨h1, ?_⟩
  have h2 := Vy.enc_len10 N hN
  rw [h.2.2] at h2
  split at h2 <;> simp at h2 <;> omega
theorem NumAt.step {N : Nat} {o : ByteArray} {m : Nat} {l : List Nat} {d : Nat} (h : NumAt N o m l d) (hm : 0 < m) : NumAt N (o.extract 0 l.length ++ txt [d + 128, m % 128]) (m / 128) (l ++ [d + 128]) (m % 128) := by
  have hd := h.2.1
  refine ⟨?_, by omega, ?_⟩
  · rw [bs_append, bs_extract, h.1, bs_txt _ (by intro b hb; simp at hb; omega)]
    simp
  · rw [h.2.2, if_neg (by omega)]
    by_cases h1 : m < 128
    · rw [if_pos (by omega), Vy.enc_small h1, Nat.mod_eq_of_lt h1]
    · rw [if_neg (by omega), Vy.enc_big h1]; simp
theorem NumAt.fin {N : Nat} {o : ByteArray} {l : List Nat} {d : Nat} (h : NumAt N o 0 l d) : o = txt (Vy.enc N) := by
  rw [h.2.2, if_pos rfl, ← h.1, txt_bs]
theorem NumAt.last {N : Nat} {o : ByteArray} {m : Nat} {l : List Nat} {d : Nat} (h : NumAt N o m l d) (hl : l.length < o.size) : o[l.length].toNat = d := by
  have := bs_getD o l.length hl
  rw [h.1] at this
  simpa using this.symm

set_option maxRecDepth 100000 in
set_option maxHeartbeats 800000 in
theorem refNum_any (N : Nat) (w : World) (hN : N < 2 ^ 64) :
    Calls Tryd.prog 20 #[.int .u64 N] w fun e w' => e = .returned (.string (txt (Vy.enc N))) ∧ Below w.heap.size w w' := by
  have hcv : (convert 50 9 (.slice (some ⟨w.heap.size, 0, none⟩) 1 1)).run Tryd.prog (w.alloc (.cells #[.int .u8 ((N : Int) % 128)] 5)) = .ok (.string (txt [N % 128])) (w.alloc (.cells #[.int .u8 ((N : Int) % 128)] 5)) := new_text1 (N % 128)
  have HS := Lib.hid (NumAt.start N)
  generalize txt [N % 128] = o0 at *
  go_enter Tryd.func20, Tryd.ntmps20
  go_wp2_with fail
  clear hcv
  go_loopw [0, 3] (fun n s wr => ∃ (m : Nat) (o : ByteArray) (l : List Nat) (d : Nat), m ≤ N ∧ n = .int .u64 m ∧ s = .string o ∧ NumAt N o m l d ∧ Below w.heap.size w wr) (fun n _ _ => (intOf n).toNat)
  case atStart => exact ⟨N / 128, o0, [], N % 128, by omega, rfl, rfl, HS.out, (Below.refl _ _).alloc (Nat.le_refl _) _⟩
  case round =>
    obtain ⟨m, o, l, d, hmN, rfl, rfl, hat, hb⟩ := hrel
    obtain ⟨hsz, hl10⟩ := hat.size hN
    have HA := Lib.hid hat
    clear HS
    by_cases hm : 0 < m
    · have hd := hat.2.1
      have hlast := hat.last (by omega)
      have HSt := Lib.hid (hat.step hm)
      have hcv2 : (convert 50 9 (.slice (some ⟨wr.heap.size, 0, none⟩) 2 2)).run Tryd.prog (wr.alloc (.cells #[.int .u8 ((d : Int) + 128), .int .u8 ((m : Int) % 128)] 5)).drew = .ok (.string (txt [d + 128, m % 128])) (wr.alloc (.cells #[.int .u8 ((d : Int) + 128), .int .u8 ((m : Int) % 128)] 5)).drew := new_text2 (d + 128) (m % 128)
      have ht2 : (txt [d + 128, m % 128]).size ≤ 2 := by rw [txt_size]; simp
      have ht1 : (o.extract 0 l.length).size ≤ 10 := by rw [ByteArray.size_extract]; omega
      generalize txt [d + 128, m % 128] = t2 at *
      clear hat
      go_wp2_with fail
      go_region
      go_wp2_with fail
      go_roundw
      case rel => exact ⟨m / 128, _, _, _, by omega, by go_num, rfl, HSt.out, (hb.alloc hb.size _).drew⟩
      case measure => simp [intOf]; omega
    · obtain rfl : m = 0 := by omega
      go_wp2_with fail
      go_ret
      exact ⟨by rw [hat.fin]; rfl, hb⟩
end Go.Proofs.YtkeglkneobngnaaDoor

namespace Go.Proofs.YtkeglkneobngnaaDoor
open Go.RowKit

/-- The first n entries of the literal. -/
def entL : Nat → List MapEntry
  | 0 => []
  | n + 1 => entL n ++ [{ key := .int .i64 ((n + 1 : Nat) : Int), val := .string ⟨(signL (n + 1)).toArray⟩, born := n }]
def ents (n : Nat) : Array MapEntry := (entL n).toArray
theorem now_app (k : Int) : ∀ (l l' : List MapEntry) (i : Nat), Instr.findNow (.int .i64) (.int .i64 k) l i = some none → Instr.findNow (.int .i64) (.int .i64 k) (l ++ l') i = Instr.findNow (.int .i64) (.int .i64 k) l' (i + l.length)
  | [], l', i, _ => by simp
  | e :: l, l', i, h => by
    rw [List.cons_append]
    unfold Instr.findNow at h
    conv => lhs; unfold Instr.findNow
    split at h
    · cases h
    · rw [now_app k l l' (i + 1) h, List.length_cons]
      congr 1; omega
    · cases h
theorem now_past (k : Int) : ∀ n : Nat, (n : Int) < k ∨ k < 1 → Instr.findNow (.int .i64) (.int .i64 k) (entL n) 0 = some none
  | 0, _ => rfl
  | n + 1, h => by
    have ih := now_past k n (by omega)
    unfold entL
    rw [now_app k _ _ 0 ih]
    have e : (k == ((n + 1 : Nat) : Int)) = false := by rw [beq_eq_false_iff_ne]; omega
    simp only [Instr.findNow, Instr.sameNow, if_true, e]
theorem now_first (k : Int) (x : Nat × Value) : ∀ (l l' : List MapEntry) (i : Nat), Instr.findNow (.int .i64) (.int .i64 k) l i = some (some x) → Instr.findNow (.int .i64) (.int .i64 k) (l ++ l') i = some (some x)
  | [], _, _, h => by cases h
  | e :: l, l', i, h => by
    rw [List.cons_append]
    unfold Instr.findNow at h
    conv => lhs; unfold Instr.findNow
    split at h
    · exact h
    · exact now_first k x l l' (i + 1) h
    · cases h
theorem now_at (k : Nat) (h1 : 1 ≤ k) : ∀ n : Nat, k ≤ n → ∃ i, Instr.findNow (.int .i64) (.int .i64 (k : Int)) (entL n) 0 = some (some (i, .string ⟨(signL k).toArray⟩))
  | 0, h => absurd h (by omega)
  | n + 1, h => by
    by_cases e : k = n + 1
    · subst e
      have ih := now_past ((n + 1 : Nat) : Int) n (by omega)
      refine ⟨0 + (entL n).length, ?_⟩
      conv => lhs; unfold entL
      rw [now_app _ _ _ 0 ih]
      have e : (((n + 1 : Nat) : Int) == ((n + 1 : Nat) : Int)) = true := beq_self_eq_true _
      simp only [Instr.findNow, Instr.sameNow, if_true, e]
    · obtain ⟨i, hi⟩ := now_at k h1 n (by omega)
      refine ⟨i, ?_⟩
      conv => lhs; unfold entL
      exact now_first _ _ _ _ _ hi
theorem map_run (es : Array MapEntry) (n : Nat) (k : Int) (s : ByteArray) (w : World) (hf : Instr.findNow (.int .i64) (.int .i64 k) es.toList 0 = some none) :
    (Instr.mapUpdate 120 (.map (some w.heap.size)) (.int .i64 k) (.string s)).run Tryd.prog (w.alloc (.map es n)) = .ok () (w.alloc (.map (es.push { key := .int .i64 k, val := .string s, born := n }) (n + 1))) := by
  have hb : (w.alloc (.map es n)).heap[w.heap.size]? = some (.map es n) := heap_alloc_new w _
  have hk : (Instr.checkKey false 10000 3 (.int .i64 k)).run Tryd.prog (w.alloc (.map es n)) = .ok () (w.alloc (.map es n)) := MapKept.run_checkKey Tryd.underlying3 (by simp [MapKept.IsKey]) false 9999
  have hk2 := MapKept.run_findKey (P := Tryd.prog) (w := w.alloc (.map es n)) Tryd.underlying3 hf
  unfold Instr.mapUpdate
  simp only [Sem.run_bind, run_underlying Tryd.underlying120, Result.andThen_ok, MapKept.run_getObj_map hb, hk, hk2, MapKept.run_setObj_map _ hb]
  have e : ∀ A B : Obj, (w.heap.push A).setIfInBounds w.heap.size B = w.heap.push B := fun A B => by
    apply Array.ext_getElem?
    intro i
    rw [Array.getElem?_setIfInBounds, Array.getElem?_push, Array.getElem?_push, Array.size_push]
    by_cases h : w.heap.size = i
    · rw [if_pos h, if_pos (by omega), if_pos h.symm]
    · rw [if_neg h, if_neg (Ne.symm h), if_neg (Ne.symm h)]
  exact congrArg (fun h => Result.ok () ({ w with heap := h } : World)) (e _ _)
theorem ents_push (n : Nat) : (ents n).push { key := .int .i64 ((n + 1 : Nat) : Int), val := .string ⟨(signL (n + 1)).toArray⟩, born := n } = ents (n + 1) := by
  unfold ents
  rw [show entL (n + 1) = entL n ++ [{ key := .int .i64 ((n + 1 : Nat) : Int), val := .string ⟨(signL (n + 1)).toArray⟩, born := n }] from rfl]
  simp
theorem ins_run (n : Nat) (w : World) :
    (Instr.mapUpdate 120 (.map (some w.heap.size)) (.int .i64 ((n + 1 : Nat) : Int)) (.string ⟨(signL (n + 1)).toArray⟩)).run Tryd.prog (w.alloc (.map (ents n) n)) = .ok () (w.alloc (.map (ents (n + 1)) (n + 1))) := by
  rw [map_run (ents n) n _ _ w (now_past _ n (by omega)), ents_push]
theorem zero_string (w : World) : (zeroValue 9).run Tryd.prog w = .ok (.string ByteArray.empty) w := by kernel_rfl
theorem look_run (op : Int) (w : World) :
    (Instr.lookup 120 (.map (some w.heap.size)) (.int .i64 op) false).run Tryd.prog (w.alloc (.map (ents 19) 19)) = .ok (.string ⟨(signV op).toArray⟩) (w.alloc (.map (ents 19) 19)) := by
  have hb : (w.alloc (.map (ents 19) 19)).heap[w.heap.size]? = some (.map (ents 19) 19) := heap_alloc_new w _
  have hk : ∀ em, (Instr.checkKey em 10000 3 (.int .i64 op)).run Tryd.prog (w.alloc (.map (ents 19) 19)) = .ok () (w.alloc (.map (ents 19) 19)) := fun em => MapKept.run_checkKey Tryd.underlying3 (by simp [MapKept.IsKey]) em 9999
  unfold Instr.lookup
  simp only [Sem.run_bind, run_underlying Tryd.underlying120, Result.andThen_ok, MapKept.run_getObj_map hb, Sem.run_pure, hk]
  by_cases h : 1 ≤ op ∧ op ≤ 19
  · obtain ⟨k, rfl⟩ := Int.eq_ofNat_of_zero_le (show 0 ≤ op by omega)
    obtain ⟨i, hi⟩ := now_at k (by omega) 19 (by omega)
    have hk2 := MapKept.run_findKey (P := Tryd.prog) (w := w.alloc (.map (ents 19) 19)) Tryd.underlying3 hi
    have hs : signV (k : Int) = signL k := by unfold signV; rw [if_pos h]; rfl
    simp only [show (ents 19).toList = entL 19 from rfl, hk2, Result.andThen_ok, hs]
    rfl
  · have hk2 := MapKept.run_findKey (P := Tryd.prog) (w := w.alloc (.map (ents 19) 19)) Tryd.underlying3 (now_past op 19 (by omega))
    have hs : signV op = [] := by unfold signV; rw [if_neg h]
    simp only [show (ents 19).toList = entL 19 from rfl, hk2, Result.andThen_ok, Sem.run_pure, Sem.run_bind, zero_string, hs]
    rfl

set_option maxHeartbeats 800000 in
set_option maxRecDepth 100000 in
theorem rsign_any (op : Int) (w : World) :
    Calls Tryd.prog 62 #[.int .i64 op] w fun e w' => e = .returned (.string ⟨(signV op).toArray⟩) ∧ Below w.heap.size w w' := by
  have hmm := @run_makeMap Tryd.prog
  have hlk := look_run op w
  have i1 : (Instr.mapUpdate 120 (.map (some w.heap.size)) (.int .i64 1) (.string ⟨#[43]⟩)).run Tryd.prog (w.alloc (.map #[] 0)) = .ok () (w.alloc (.map (ents 1) 1)) := ins_run 0 w
  have i2 : (Instr.mapUpdate 120 (.map (some w.heap.size)) (.int .i64 2) (.string ⟨#[45]⟩)).run Tryd.prog (w.alloc (.map (ents 1) 1)) = .ok () (w.alloc (.map (ents 2) 2)) := ins_run 1 w
  have i3 : (Instr.mapUpdate 120 (.map (some w.heap.size)) (.int .i64 3) (.string ⟨#[42]⟩)).run Tryd.prog (w.alloc (.map (ents 2) 2)) = .ok () (w.alloc (.map (ents 3) 3)) := ins_run 2 w
  have i4 : (Instr.mapUpdate 120 (.map (some w.heap.size)) (.int .i64 4) (.string ⟨#[47]⟩)).run Tryd.prog (w.alloc (.map (ents 3) 3)) = .ok () (w.alloc (.map (ents 4) 4)) := ins_run 3 w
  have i5 : (Instr.mapUpdate 120 (.map (some w.heap.size)) (.int .i64 5) (.string ⟨#[37]⟩)).run Tryd.prog (w.alloc (.map (ents 4) 4)) = .ok () (w.alloc (.map (ents 5) 5)) := ins_run 4 w
  have i6 : (Instr.mapUpdate 120 (.map (some w.heap.size)) (.int .i64 6) (.string ⟨#[38]⟩)).run Tryd.prog (w.alloc (.map (ents 5) 5)) = .ok () (w.alloc (.map (ents 6) 6)) := ins_run 5 w
  have i7 : (Instr.mapUpdate 120 (.map (some w.heap.size)) (.int .i64 7) (.string ⟨#[124]⟩)).run Tryd.prog (w.alloc (.map (ents 6) 6)) = .ok () (w.alloc (.map (ents 7) 7)) := ins_run 6 w
  have i8 : (Instr.mapUpdate 120 (.map (some w.heap.size)) (.int .i64 8) (.string ⟨#[94]⟩)).run Tryd.prog (w.alloc (.map (ents 7) 7)) = .ok () (w.alloc (.map (ents 8) 8)) := ins_run 7 w
  have i9 : (Instr.mapUpdate 120 (.map (some w.heap.size)) (.int .i64 9) (.string ⟨#[60, 60]⟩)).run Tryd.prog (w.alloc (.map (ents 8) 8)) = .ok () (w.alloc (.map (ents 9) 9)) := ins_run 8 w
  have i10 : (Instr.mapUpdate 120 (.map (some w.heap.size)) (.int .i64 10) (.string ⟨#[62, 62]⟩)).run Tryd.prog (w.alloc (.map (ents 9) 9)) = .ok () (w.alloc (.map (ents 10) 10)) := ins_run 9 w
  have i11 : (Instr.mapUpdate 120 (.map (some w.heap.size)) (.int .i64 11) (.string ⟨#[60]⟩)).run Tryd.prog (w.alloc (.map (ents 10) 10)) = .ok () (w.alloc (.map (ents 11) 11)) := ins_run 10 w
  have i12 : (Instr.mapUpdate 120 (.map (some w.heap.size)) (.int .i64 12) (.string ⟨#[60, 61]⟩)).run Tryd.prog (w.alloc (.map (ents 11) 11)) = .ok () (w.alloc (.map (ents 12) 12)) := ins_run 11 w
  have i13 : (Instr.mapUpdate 120 (.map (some w.heap.size)) (.int .i64 13) (.string ⟨#[62]⟩)).run Tryd.prog (w.alloc (.map (ents 12) 12)) = .ok () (w.alloc (.map (ents 13) 13)) := ins_run 12 w
  have i14 : (Instr.mapUpdate 120 (.map (some w.heap.size)) (.int .i64 14) (.string ⟨#[62, 61]⟩)).run Tryd.prog (w.alloc (.map (ents 13) 13)) = .ok () (w.alloc (.map (ents 14) 14)) := ins_run 13 w
  have i15 : (Instr.mapUpdate 120 (.map (some w.heap.size)) (.int .i64 15) (.string ⟨#[61, 61]⟩)).run Tryd.prog (w.alloc (.map (ents 14) 14)) = .ok () (w.alloc (.map (ents 15) 15)) := ins_run 14 w
  have i16 : (Instr.mapUpdate 120 (.map (some w.heap.size)) (.int .i64 16) (.string ⟨#[33, 61]⟩)).run Tryd.prog (w.alloc (.map (ents 15) 15)) = .ok () (w.alloc (.map (ents 16) 16)) := ins_run 15 w
  have i17 : (Instr.mapUpdate 120 (.map (some w.heap.size)) (.int .i64 17) (.string ⟨#[45]⟩)).run Tryd.prog (w.alloc (.map (ents 16) 16)) = .ok () (w.alloc (.map (ents 17) 17)) := ins_run 16 w
  have i18 : (Instr.mapUpdate 120 (.map (some w.heap.size)) (.int .i64 18) (.string ⟨#[94]⟩)).run Tryd.prog (w.alloc (.map (ents 17) 17)) = .ok () (w.alloc (.map (ents 18) 18)) := ins_run 17 w
  have i19 : (Instr.mapUpdate 120 (.map (some w.heap.size)) (.int .i64 19) (.string ⟨#[33]⟩)).run Tryd.prog (w.alloc (.map (ents 18) 18)) = .ok () (w.alloc (.map (ents 19) 19)) := ins_run 18 w
  go_enter Tryd.func62, Tryd.ntmps62
  go_wp2_with fail
  go_ret
  exact ⟨rfl, (Below.refl _ _).alloc (Nat.le_refl _) _⟩

end Go.Proofs.YtkeglkneobngnaaDoor

namespace Go.Proofs.YtkeglkneobngnaaDoor
open Go.RowKit Cd As

theorem txt_one (d : Nat) : txt [d] = stB [UInt8.ofNat d] := rfl

set_option maxRecDepth 100000 in
set_option maxHeartbeats 1600000 in
theorem udec_small (n : Nat) (h : n < 10) (w : World) : Calls Tryd.prog 61 #[.int .u64 n] w fun e w' => e = .returned (.string (stB (Lib.decDigits n))) ∧ Below w.heap.size w w' := by
  have hcv : (convert 50 9 (.slice (some ⟨w.heap.size, 0, none⟩) 1 1)).run Tryd.prog (w.alloc (.cells #[.int .u8 (48 + (n : Int))] 5)) = .ok (.string (txt [48 + n])) (w.alloc (.cells #[.int .u8 (48 + (n : Int))] 5)) := by
    have := new_text1 (w := w) (48 + n)
    rw [show ((48 + n : Nat) : Int) = 48 + (n : Int) by omega] at this
    exact this
  have hd : txt [48 + n] = stB (Lib.decDigits n) := by rw [Lib.decDigits_one h, txt_one]
  rw [hd] at hcv
  generalize stB (Lib.decDigits n) = t at *
  clear hd
  go_enter Tryd.func61, Tryd.ntmps61
  go_wp2_with fail
  go_ret
  exact ⟨rfl, (Below.refl _ _).alloc (Nat.le_refl _) _⟩

set_option maxRecDepth 100000 in
set_option maxHeartbeats 1600000 in
theorem udec_any : ∀ (N n : Nat), n ≤ N → n < 2 ^ 64 → ∀ w : World, Calls Tryd.prog 61 #[.int .u64 n] w fun e w' => e = .returned (.string (stB (Lib.decDigits n))) ∧ Below w.heap.size w w' := by
  intro N
  induction N with
  | zero => exact fun n hn _ w => udec_small n (by omega) w
  | succ N ih =>
    intro n hn h64 w
    by_cases h : n < 10
    · exact udec_small n h w
    have HD : Hid (stB (Lib.decDigits n) = stB (Lib.decDigits (n / 10)) ++ stB (Lib.decDigits (n % 10))) := Lib.hid (by
      rw [stB_append]
      congr 1
      rw [Lib.decDigits_one (Nat.mod_lt n (by decide)), Lib.decDigits, dif_neg h])
    have HA := Lib.hid (ih (n / 10) (by omega) (by omega))
    have HS := Lib.hid (udec_small (n % 10) (Nat.mod_lt n (by decide)))
    have hl1 := dec_len 19 (n / 10) (by omega)
    have hl2 := dec_len 0 (n % 10) (by omega)
    have hz1 : (stB (Lib.decDigits (n / 10))).size ≤ 20 := by rw [stB_size]; exact hl1
    have hz2 : (stB (Lib.decDigits (n % 10))).size ≤ 1 := by rw [stB_size]; exact hl2
    rw [HD.out]
    generalize stB (Lib.decDigits (n / 10)) = t1 at *
    generalize stB (Lib.decDigits (n % 10)) = t2 at *
    clear ih hl1 hl2
    go_enter Tryd.func61, Tryd.ntmps61
    go_wp2_with fail
    refine (HA.out w).mono ?_
    rintro e w2 ⟨rfl, hb2⟩
    have HB2 := Lib.hid hb2
    clear hb2
    go_wp2_with fail
    refine (HS.out w2).mono ?_
    rintro e w3 ⟨rfl, hb3⟩
    have HB3 := Lib.hid (HB2.out.trans (hb3.mono HB2.out.size))
    clear hb3
    go_wp2_with fail
    go_ret
    exact ⟨rfl, HB3.out⟩
theorem dec_any (n : Nat) (w : World) (h : n < 2 ^ 64) : Calls Tryd.prog 61 #[.int .u64 n] w fun e w' => e = .returned (.string (stB (Lib.decDigits n))) ∧ Below w.heap.size w w' := udec_any n n (Nat.le_refl _) h w

set_option maxRecDepth 100000 in
set_option maxHeartbeats 1600000 in
theorem decimal_any (n : Int) (w : World) (h1 : -9223372036854775808 ≤ n) (h2 : n ≤ 9223372036854775807) : Calls Tryd.prog 32 #[.int .i64 n] w fun e w' => e = .returned (.string (stB (Lib.itoa n))) ∧ Below w.heap.size w w' := by
  by_cases h : n < 0
  · obtain ⟨q, hq⟩ : ∃ q : Nat, n = -((q : Int) + 1) := ⟨(-n - 1).toNat, by omega⟩
    have HE : Hid (stB (Lib.itoa n) = ⟨#[45]⟩ ++ stB (Lib.decDigits (q + 1))) := Lib.hid (by
      have e1 : n = -(((q + 1 : Nat)) : Int) := by omega
      have e2 : (⟨#[45]⟩ : ByteArray) = stB [45] := rfl
      rw [e1, Lib.itoa_neg (q + 1) (by omega), e2, stB_append]
      rfl)
    have HD := Lib.hid (dec_any (q + 1) w (by omega))
    have hl := dec_len 19 (q + 1) (by omega)
    have hz : (stB (Lib.decDigits (q + 1))).size ≤ 20 := by rw [stB_size]; exact hl
    have e3 : -(-((q : Int) + 1) + 1) + 1 = ((q + 1 : Nat) : Int) := by omega
    rw [HE.out]
    generalize stB (Lib.decDigits (q + 1)) = t at *
    clear hl
    go_enter Tryd.func32, Tryd.ntmps32
    go_wp2_with fail
    clear e3
    have e5 : ((q : Int) + 1) = ((q + 1 : Nat) : Int) := by omega
    rw [e5]
    clear e5
    refine HD.out.mono ?_
    rintro e w2 ⟨rfl, hb2⟩
    clear HE HD
    clear hq
    go_wp2_with fail
    go_ret
    exact ⟨rfl, hb2⟩
  · obtain ⟨q, rfl⟩ : ∃ q : Nat, n = (q : Int) := ⟨n.toNat, by omega⟩
    rw [Lib.itoa_nonneg]
    have HD := Lib.hid (dec_any q w (by omega))
    go_enter Tryd.func32, Tryd.ntmps32
    go_wp2_with fail
    refine HD.out.mono ?_
    rintro e w2 ⟨rfl, hb2⟩
    go_wp2_with fail
    go_ret
    exact ⟨rfl, hb2⟩

set_option maxRecDepth 100000 in
set_option maxHeartbeats 1600000 in
theorem rKinds_any (w : World) : Calls Tryd.prog 33 #[] w fun e w' =>
    e = .returned (.slice (some ⟨w.heap.size, 0, none⟩) 4 4) ∧ Below w.heap.size w w' ∧ ∀ k, k < 4 → w'.cell? ⟨w.heap.size, k, none⟩ = some (.string (stB (kindsB.getD k []))) := by
  go_enter Tryd.func33, Tryd.ntmps33
  go_wp2_with fail
  go_ret
  refine ⟨rfl, (Below.refl _ _).alloc (Nat.le_refl _) _, fun k hk => ?_⟩
  rw [cell_of_row _ _ _ _ _ _ (heap_alloc_new _ _)]
  match k, hk with
  | 0, _ => rfl
  | 1, _ => rfl
  | 2, _ => rfl
  | 3, _ => rfl


theorem insV_arg (x : B) : (⟨#[32]⟩ : ByteArray) ++ stB x = stB (spaced [x]) := by
  have e : (⟨#[32]⟩ : ByteArray) = stB [32] := rfl
  rw [e, stB_append]
  congr 1
  simp [spaced]

set_option maxRecDepth 100000 in
set_option maxHeartbeats 6400000 in
theorem rInsText_any (i : In) (w : World) (hi : mayB i = true) (hr : -9223372036854775808 ≤ i.2 ∧ i.2 ≤ 9223372036854775807) (hM : MaxLB w) : Calls Tryd.prog 34 #[.agg #[.int .i64 i.1, .int .i64 i.2]] w fun e w' => e = .returned (.string (stB (nameB i.1 ++ spaced (argB i)))) ∧ Below w.heap.size w w' := by
  obtain ⟨op, n⟩ := i
  dsimp only at hr ⊢
  have hop : 1 ≤ op ∧ op ≤ 26 := by simp [mayB] at hi; omega
  obtain ⟨k, rfl⟩ : ∃ k : Nat, op = (k : Int) := ⟨op.toNat, (Int.toNat_of_nonneg (by omega)).symm⟩
  have hk : k < 27 := by omega
  have hki : (k : Int) < 27 := by omega
  have HI := Lib.hid hi
  have HR := Lib.hid hr
  have HK := Lib.hid hop
  have HARG : Hid (argB ((k : Int), n) = if (k : Int) = 8 ∨ (k : Int) = 9 then [signB n] else if hasN (k : Int) then [Lib.itoa n] else []) := Lib.hid rfl
  have hb := (Below.refl w.heap.size w).alloc (Nat.le_refl _) (.cells #[.int .i64 (k : Int), .int .i64 n] 52)
  have HB := Lib.hid hb
  have HM := Lib.hid (hM.below hb)
  have hnm : nameB (k : Int) = namesB.getD k [] := rfl
  rw [hnm]
  have hz : (namesB.getD k []).length ≤ 8 := names_len ⟨k, hk⟩
  obtain ⟨nm, hnn⟩ : ∃ nm, nm = namesB.getD k [] := ⟨_, rfl⟩
  rw [← hnn] at hz ⊢
  have HNM := Lib.hid hnn
  obtain ⟨R, hR⟩ : ∃ R, R = stB (nm ++ spaced (argB ((k : Int), n))) := ⟨_, rfl⟩
  rw [← hR]
  have HRR := Lib.hid hR
  have hz2 : (stB nm).size ≤ 8 := by rw [stB_size]; exact hz
  have hx0 := cell_of_row (w.alloc (.cells #[.int .i64 (k : Int), .int .i64 n] 52)) w.heap.size 0 _ _ _ (heap_alloc_new _ _)
  have hx1 := cell_of_row (w.alloc (.cells #[.int .i64 (k : Int), .int .i64 n] 52)) w.heap.size 1 _ _ _ (heap_alloc_new _ _)
  clear hi hr hb hM hop hnm hnn hz hR
  go_enter Tryd.func34, Tryd.ntmps34
  go_upto_region 1 with fail
  generalize w.alloc (.cells #[.int .i64 (k : Int), .int .i64 n] 52) = W1 at *
  have HC : Hid (∀ V, Below W1.heap.size W1 V → V.cell? ⟨w.heap.size, 0, none⟩ = some (.int .i64 (k : Int)) ∧ V.cell? ⟨w.heap.size, 1, none⟩ = some (.int .i64 n) ∧ Below w.heap.size w V ∧ MaxLB V) := Lib.hid fun V hV =>
    ⟨(Keeps.of_new (S := fun _ => False) hV).cell_of hx0 id, (Keeps.of_new (S := fun _ => False) hV).cell_of hx1 id, HB.out.trans (hV.mono HB.out.size), HM.out.below hV⟩
  clear hx0 hx1
  have HNC : Hid (∀ V, Below W1.heap.size W1 V → Calls Tryd.prog 48 #[] V fun e w' => ∃ g, e = .returned (.slice (some ⟨g, 0, none⟩) 27 27) ∧ Below W1.heap.size W1 w' ∧ w'.cell? ⟨g, k, none⟩ = some (.string (stB nm))) := Lib.hid fun V hV =>
    (rNames_at V (HC.out V hV).2.2.2).mono fun e w' ⟨h1, h2, h3⟩ => ⟨_, h1, hV.trans (h2.mono hV.size), by rw [HNM.out]; exact h3 k hk⟩
  have hbb : Below W1.heap.size W1 W1 := Below.refl _ _
  go_cut [3] from 4 to 9 (fun v wx => v = .string (stB nm) ∧ Below W1.heap.size W1 wx)
  case first =>
    obtain ⟨hx0, hx1, -, -⟩ := HC.out _ hbb
    go_region_with (go_at_call 48; refine (HNC.out _ ?_).mono ?_; (first | assumption | exact Below.drew (by assumption)); rintro e V1 ⟨g, rfl, hv1, hcg⟩; obtain ⟨hy0, hy1, -, -⟩ := HC.out _ hv1)
    all_goals go_wp2_with fail
    all_goals go_meet
    all_goals exact ⟨rfl, by assumption⟩
  case rest =>
    obtain ⟨rfl, hb2⟩ := hcut
    rename World => W2
    have HB2 := Lib.hid hb2
    clear hbb hb2
    obtain ⟨hx0, hx1, -, hm2⟩ := HC.out _ HB2.out
    by_cases h89 : k = 8 ∨ k = 9
    · have HA : Hid (argB ((k : Int), n) = [signB n]) := Lib.hid (by rw [HARG.out, if_pos (by omega)])
      have hn1 : 1 ≤ n ∧ n ≤ 19 := by
        have := HI.out
        rcases h89 with rfl | rfl <;> simp [mayB, leastI, mostI] at this <;> omega
      have HSG := Lib.hid (rsign_any n W2)
      rw [signB_V hn1.1 hn1.2] at HSG
      have hzs : (stB (signB n)).size ≤ 2 := by rw [stB_size]; exact sign_len n
      have HFIN : Hid (R = stB nm ++ (⟨#[32]⟩ ++ stB (signB n))) := Lib.hid (by rw [HRR.out, HA.out, insV_arg, stB_append])
      generalize stB (signB n) = t at *
      have h8i : (k : Int) = 8 ∨ (k : Int) = 9 := by omega
      clear HA hm2 hn1 h89
      rcases h8i with h8 | h8
      · rw [h8] at hx0
        go_wp2_with fail
        refine HSG.out.mono ?_
        rintro e w3 ⟨rfl, hb3⟩
        have HB3 := Lib.hid (HB2.out.trans (hb3.mono HB2.out.size))
        clear hb3 hx0 hx1
        go_wp2_with fail
        go_ret
        exact ⟨by rw [HFIN.out]; rfl, (HC.out _ HB3.out).2.2.1⟩
      · rw [h8] at hx0
        go_wp2_with fail
        refine HSG.out.mono ?_
        rintro e w3 ⟨rfl, hb3⟩
        have HB3 := Lib.hid (HB2.out.trans (hb3.mono HB2.out.size))
        clear hb3 hx0 hx1
        go_wp2_with fail
        go_ret
        exact ⟨by rw [HFIN.out]; rfl, (HC.out _ HB3.out).2.2.1⟩
    · have h8 : ¬ (k : Int) = 8 := by omega
      have h9 : ¬ (k : Int) = 9 := by omega
      have b8 : ((k : Int) == 8) = false := by rw [beq_eq_false_iff_ne]; omega
      have b9 : ((k : Int) == 9) = false := by rw [beq_eq_false_iff_ne]; omega
      have HNB := Lib.hid (rNumbered_any k W2 hk hm2)
      have HA : Hid (argB ((k : Int), n) = if hasN (k : Int) then [Lib.itoa n] else []) := Lib.hid (by rw [HARG.out, if_neg (by omega)])
      clear h89
      go_wp2_with fail
      refine HNB.out.mono ?_
      rintro e w3 ⟨rfl, hb3⟩
      have HB3 := Lib.hid (HB2.out.trans (hb3.mono HB2.out.size))
      clear hb3 hx0 hx1 hm2 HNB
      obtain ⟨hx0, hx1, -, -⟩ := HC.out _ HB3.out
      cases hh : hasN (k : Int) with
      | false =>
        have HFIN : Hid (R = stB nm) := Lib.hid (by rw [HRR.out, HA.out, hh]; simp [spaced])
        clear HA hh
        go_wp2_with fail
        go_ret
        exact ⟨by rw [HFIN.out]; rfl, (HC.out _ HB3.out).2.2.1⟩
      | true =>
        have HFIN : Hid (R = stB nm ++ (⟨#[32]⟩ ++ stB (Lib.itoa n))) := Lib.hid (by rw [HRR.out, HA.out, hh, if_pos rfl, insV_arg, stB_append])
        have HD := Lib.hid (decimal_any n w3 HR.out.1 HR.out.2)
        have hzs : (stB (Lib.itoa n)).size ≤ 20 := by rw [stB_size]; exact itoa_len n HR.out.1 HR.out.2
        generalize stB (Lib.itoa n) = t at *
        clear HA hh
        go_wp2_with fail
        refine HD.out.mono ?_
        rintro e w4 ⟨rfl, hb4⟩
        have HB4 := Lib.hid (HB3.out.trans (hb4.mono HB3.out.size))
        clear hb4 hx0 hx1
        go_wp2_with fail
        go_ret
        exact ⟨by rw [HFIN.out]; rfl, (HC.out _ HB4.out).2.2.1⟩
end Go.Proofs.YtkeglkneobngnaaDoor

namespace Go.Proofs.YtkeglkneobngnaaDoor
open Go.RowKit

/-- The library's table of powers of ten. -/
abbrev Pow (w : World) : Prop := Lib.TabIs Tryd.prog w "internal/strconv.uint64pow10" .u64 Lib.pow10Tab
theorem gPow : Tryd.prog.globalNamed "internal/strconv.uint64pow10" = some 5 := by kernel_rfl
theorem tPow : (Tryd.prog.globals[5]?).map (·.type) = some 177 := by kernel_rfl
theorem cells_u64 : Tryd.prog.cellsOf 46 = 1 := by kernel_rfl
theorem cells_pow : Tryd.prog.cellsOf 177 = 20 := by kernel_rfl
theorem Pow.at {w : World} (h : Pow w) : 5 < w.heap.size := by
  unfold Pow Lib.TabIs World.var? at h
  rw [gPow] at h
  simp only [Option.bind_some] at h
  rcases Nat.lt_or_ge 5 w.heap.size with h' | h'
  · exact h'
  · rw [Array.getElem?_eq_none h'] at h; cases h
theorem Pow.keeps {S : Nat → Prop} {w w' : World} (h : Pow w) (hk : Keeps S w w') (hS : ¬ S 5) : Pow w' := by
  have hlt := h.at
  unfold Pow Lib.TabIs World.var? at h ⊢
  rw [gPow] at h ⊢
  simp only [Option.bind_some] at h ⊢
  rw [hk.block _ hlt hS]
  exact h
theorem Pow.below {w w' : World} (h : Pow w) (hb : Below w.heap.size w w') : Pow w' := h.keeps (S := fun _ => False) (Keeps.of_new hb) id
/-- A number's text. -/
def sOf (x : Int) : ByteArray := ⟨(Lib.itoa x).toArray⟩
theorem itoa_any (n : Int) (h0 : -9223372036854775808 ≤ n) (h1 : n ≤ 9223372036854775807) (w : World) (h : Pow w) : Calls Tryd.prog 36 #[.int .i64 n] w fun e w' =>
    e = .returned (.string (sOf n)) ∧ Below w.heap.size w w' := by
  refine (Tryd.strconv_Itoa n h0 h1 w h).mono ?_
  rintro e w' ⟨rfl, k, os, rfl⟩
  exact ⟨rfl, ⟨rfl, rfl, rfl, by simp [Sort.grow, World.drewN], fun k hk => by simp [Sort.grow, World.drewN, Array.getElem?_append, hk]⟩⟩
end Go.Proofs.YtkeglkneobngnaaDoor

namespace Go.Proofs.YtkeglkneobngnaaDoor
open Go.RowKit Cd As

set_option maxRecDepth 100000 in
set_option maxHeartbeats 3200000 in
theorem insLine_any (i : In) (w : World) (hi : mayB i = true) (hv : AsmVars w) (hP : Pow w) :
    Calls Tryd.prog 38 #[.agg #[.int .i64 i.1, .int .i64 i.2]] w fun e w' => e = .returned (.string (stB (insT i))) ∧ Below w.heap.size w w' := by
  obtain ⟨op, n⟩ := i
  obtain ⟨o1, o2⟩ := mayB_op hi
  obtain ⟨n1, n2⟩ := mayB_n hi
  dsimp only at o1 o2 n1 n2 ⊢
  obtain ⟨z, rfl⟩ : ∃ z : Nat, op = (z : Int) := ⟨op.toNat, (Int.toNat_of_nonneg (by omega)).symm⟩
  have hz : z < 27 := by omega
  have hzi : (z : Int) < 27 := by omega
  have hal := (Below.refl w.heap.size w).alloc (Nat.le_refl _) (.cells #[.int .i64 (z : Int), .int .i64 n] 52)
  have HV := Lib.hid (hv.below hal)
  have HP := Lib.hid (hP.below hal)
  have HAL := Lib.hid hal
  have hx0 := cell_of_row (w.alloc (.cells #[.int .i64 (z : Int), .int .i64 n] 52)) w.heap.size 0 _ _ _ (heap_alloc_new _ _)
  have hx1 := cell_of_row (w.alloc (.cells #[.int .i64 (z : Int), .int .i64 n] 52)) w.heap.size 1 _ _ _ (heap_alloc_new _ _)
  have hnm := HV.out.names z hz
  have HNL : Hid ((stB (namesB.getD z [])).size ≤ 8) := Lib.hid (by rw [stB_size]; have := name_len (z : Int); unfold nameB at this; rwa [Int.toNat_natCast] at this)
  have HIN : Hid (insT ((z : Int), n) = [32, 32] ++ namesB.getD z [] ++ spaced (argB ((z : Int), n)) ++ [10]) := Lib.hid (by
    unfold insT As.insL nameB
    rw [Int.toNat_natCast]
    simp)
  have HARG : Hid (argB ((z : Int), n) = if (z : Int) = 8 ∨ (z : Int) = 9 then [signB n] else if hasN (z : Int) then [Lib.itoa n] else []) := Lib.hid rfl
  have HMB := Lib.hid hi
  have H32 : Hid ((⟨#[32, 32]⟩ : ByteArray) = stB [32, 32] ∧ (⟨#[32]⟩ : ByteArray) = stB [32] ∧ (⟨#[10]⟩ : ByteArray) = stB [10]) := Lib.hid ⟨rfl, rfl, rfl⟩
  clear hv hP hi hal
  go_enter Tryd.func38, Tryd.ntmps38
  go_upto_region 1 with fail
  generalize hW1 : w.alloc (.cells #[.int .i64 (z : Int), .int .i64 n] 52) = W1 at *
  generalize hxb : w.heap.size = xb at *
  clear hW1
  generalize hnmv : stB (namesB.getD z []) = nm at *
  have HNM := Lib.hid hnmv
  clear hnmv
  have hs1 : ¬ 9223372036854775807 < (⟨#[32, 32]⟩ : ByteArray).size + nm.size := by have := HNL.out; show ¬ 9223372036854775807 < 2 + nm.size; omega
  have HN1 := Lib.hid n1
  have HN2 := Lib.hid n2
  have hs9 : ¬ 9223372036854775807 < ((⟨#[32, 32]⟩ : ByteArray) ++ nm).size + (⟨#[10]⟩ : ByteArray).size := by
    have := HNL.out
    rw [ByteArray.size_append]
    show ¬ 9223372036854775807 < 2 + nm.size + 1
    omega
  have HS5 : ∀ t : ByteArray, t.size ≤ 20 → ¬ 9223372036854775807 < (⟨#[32]⟩ : ByteArray).size + t.size ∧ ¬ 9223372036854775807 < ((⟨#[32, 32]⟩ : ByteArray) ++ nm).size + ((⟨#[32]⟩ : ByteArray) ++ t).size ∧ ¬ 9223372036854775807 < ((⟨#[32, 32]⟩ : ByteArray) ++ nm ++ ((⟨#[32]⟩ : ByteArray) ++ t)).size + (⟨#[10]⟩ : ByteArray).size := by
    intro t ht
    have := HNL.out
    simp only [ByteArray.size_append]
    show ¬ 9223372036854775807 < 1 + t.size ∧ ¬ 9223372036854775807 < 2 + nm.size + (1 + t.size) ∧ ¬ 9223372036854775807 < 2 + nm.size + (1 + t.size) + 1
    omega
  have HS6 := Lib.hid HS5
  have HE : Hid (∀ l : B, argB ((z : Int), n) = [l] → (⟨#[32, 32]⟩ : ByteArray) ++ nm ++ ((⟨#[32]⟩ : ByteArray) ++ stB l) ++ (⟨#[10]⟩ : ByteArray) = stB (insT ((z : Int), n))) := Lib.hid fun l hl => by
    rw [H32.out.1, H32.out.2.1, H32.out.2.2, ← HNM.out, stB_append, stB_append, stB_append, stB_append, HIN.out, hl]
    simp [spaced]
  have HE0 : Hid (argB ((z : Int), n) = [] → (⟨#[32, 32]⟩ : ByteArray) ++ nm ++ (⟨#[10]⟩ : ByteArray) = stB (insT ((z : Int), n))) := Lib.hid fun hl => by
    rw [H32.out.1, H32.out.2.2, ← HNM.out, stB_append, stB_append, HIN.out, hl]
    simp [spaced]
  clear HS5
  by_cases h89 : z = 8 ∨ z = 9
  · have HA : Hid (argB ((z : Int), n) = [signB n]) := Lib.hid (by rw [HARG.out, if_pos (by omega)])
    have hn1 : 1 ≤ n ∧ n ≤ 19 := by
      have := HMB.out
      rcases h89 with h | h <;> subst h <;> simp [mayB, leastI, mostI] at this <;> omega
    have HSG := Lib.hid (sign_any n W1 HV.out.signs)
    have hsl := sign_len n
    rw [signB_V hn1.1 hn1.2] at HSG
    obtain ⟨p1, p2, p3⟩ := HS6.out (stB (signB n)) (by rw [stB_size]; omega)
    have HEA := Lib.hid (HE.out (signB n) HA.out)
    generalize stB (signB n) = t at *
    clear HE HE0 HARG HA hsl hn1 HIN HMB n1 n2
    rcases h89 with h | h
    · subst h
      go_wp2_with fail
      refine HSG.out.mono ?_
      rintro e _ ⟨rfl, rfl⟩
      go_wp2_with fail
      go_ret
      exact ⟨by rw [HEA.out]; rfl, by rw [hxb]; exact HAL.out⟩
    · subst h
      go_wp2_with fail
      refine HSG.out.mono ?_
      rintro e _ ⟨rfl, rfl⟩
      go_wp2_with fail
      go_ret
      exact ⟨by rw [HEA.out]; rfl, by rw [hxb]; exact HAL.out⟩
  · have h8 : ((z : Int) == 8) = false := beq_eq_false_iff_ne.2 (by omega)
    have h9 : ((z : Int) == 9) = false := beq_eq_false_iff_ne.2 (by omega)
    have h7 : ((z : Int) == 8 || (z : Int) == 9) = false := by rw [h8, h9]; rfl
    rw [if_neg (by omega)] at HARG
    clear h89 HMB
    cases hh : hasN (z : Int) with
    | false =>
      have HA : Hid (argB ((z : Int), n) = []) := Lib.hid (by rw [HARG.out, hh]; rfl)
      have HEA := Lib.hid (HE0.out HA.out)
      have HHN := Lib.hid (hasN_any (z : Int) W1)
      rw [hh] at HHN
      clear HE HE0 HARG HA HIN hh n1 n2
      go_wp2_with fail
      refine HHN.out.mono ?_
      rintro e _ ⟨rfl, rfl⟩
      go_wp2_with fail
      go_ret
      exact ⟨by rw [HEA.out]; rfl, by rw [hxb]; exact HAL.out⟩
    | true =>
      have HA : Hid (argB ((z : Int), n) = [Lib.itoa n]) := Lib.hid (by rw [HARG.out, hh]; rfl)
      have HEA := Lib.hid (HE.out _ HA.out)
      have HHN := Lib.hid (hasN_any (z : Int) W1)
      have hil := itoa_len n n1 n2
      have HIT := Lib.hid (itoa_any n n1 n2 W1 HP.out)
      obtain ⟨p1, p2, p3⟩ := HS6.out (stB (Lib.itoa n)) (by rw [stB_size]; omega)
      have hso : sOf n = stB (Lib.itoa n) := rfl
      rw [hso] at HIT
      rw [hh] at HHN
      generalize stB (Lib.itoa n) = t at *
      clear HE HE0 HARG HA HIN hh n1 n2 hil hso
      go_wp2_with fail
      refine HHN.out.mono ?_
      rintro e _ ⟨rfl, rfl⟩
      go_wp2_with fail
      refine HIT.out.mono ?_
      rintro e W2 ⟨rfl, hb⟩
      go_wp2_with fail
      go_ret
      exact ⟨by rw [HEA.out]; rfl, by rw [hxb]; exact HAL.out.trans (hb.mono (Nat.le_trans (Nat.le_of_eq hxb.symm) HAL.out.size))⟩
end Go.Proofs.YtkeglkneobngnaaDoor

namespace Go.Proofs.YtkeglkneobngnaaDoor
open Go.RowKit

theorem slice_of_own {w : World} {B : Nat} {e : TypeId} {size n : Nat} {v : Value} {xs : List Value} (h : w.ownsRow B e size v n xs) : ∃ ao cap, v = .slice ao n cap := by
  rcases h.2 with ⟨rfl, h0⟩ | ⟨g, cap, cur, rfl, _⟩
  · exact ⟨none, 0, by rw [h0]⟩
  · exact ⟨_, _, rfl⟩
theorem own_below {w w' : World} {B : Nat} {e : TypeId} {size n : Nat} {v : Value} {xs : List Value} (h : w.ownsRow B e size v n xs) (hb : Below w.heap.size w w') : w'.ownsRow B e size v n xs :=
  (Keeps.of_new (S := fun _ => False) hb).row h fun _ _ => id
theorem tinfoA {i : Option TypeInfo} {z : Value} {n m : Nat} (h : i.map (fun i => (i.zero, i.size, i.bytes)) = some (some z, n, m)) : ∃ i0, i = some i0 ∧ i0.zero = some z ∧ i0.size = n ∧ i0.bytes = m := by
  cases i with
  | none => cases h
  | some i0 =>
    simp only [Option.map_some, Option.some.injEq, Prod.mk.injEq] at h
    exact ⟨i0, rfl, h.1, h.2.1, h.2.2⟩
theorem step_append1 {ops : Array Oper} {o : Oper} {a : Act} {w : World} {K : Act → World → Prop} {Q : Exit → Act → World → Prop} {F : Prop} (hgd : o.guard = none) (s x : Operand) (t e : TypeId) (z : Value) (size bytes : Nat)
    (ho : o.op = .call { callee := .builtin .append, args := #[s, x], argTypes := #[t, t] }) (ht : Tryd.prog.underlying t = some (.slice e)) (hinfo : (Tryd.prog.info? e).map (fun i => (i.zero, i.size, i.bytes)) = some (some z, size, bytes)) (hz : z.cells.size = size) (hsz : 0 < size) (hby : bytes ≤ 100)
    (B : Nat) (v : Value) (n : Nat) (xs news : List Value) (g c : Nat) (hown : w.ownsRow B e size v n xs) (hn : n ≤ 1000000) (hnl : news.length = size) (hcell : ∀ j u, news[j]? = some u → w.cell? ⟨g, j, none⟩ = some u) (hone : ∀ u ∈ news, u.oneCell' = true) (hB : B ≤ w.heap.size)
    (hs : a.eval s = v) (hx : a.eval x = .slice (some ⟨g, 0, none⟩) 1 c)
    (h : ∀ ao cap w', w'.ownsRow B e size (.slice ao (n + 1) cap) (n + 1) (xs ++ news) → Keeps (fun b => v.ownBlock = some b) w w' → K (a.put o.dst (.slice ao (n + 1) cap)) w') :
    if Region.wanted o (yielded ops a.tmps) = true then Oper.wp Tryd.prog o a w K Q else F := by
  have hw : Region.wanted o (yielded ops a.tmps) = true := by simp [Region.wanted, hgd]
  rw [if_pos hw]
  obtain ⟨i0, hi, hz0, hz1, hz2⟩ := tinfoA hinfo
  have hb3 : (n + 1) * bytes ≤ 140737488355328 := Nat.le_trans (Nat.mul_le_mul (show n + 1 ≤ 1000001 by omega) hby) (by decide)
  obtain ⟨v', w', hr, h1, h2, _, _⟩ := run_append_own_at (P := Tryd.prog) w B t o.type e i0 z size bytes ht hi hz0 hz1 hz2 hz hsz v n xs hown ⟨g, 0, none⟩ 1 c news (by rw [hnl, Nat.one_mul])
    (fun j u hj => by rw [show (⟨g, 0, none⟩ : Addr).add j = ⟨g, j, none⟩ by unfold Addr.add; split <;> simp_all]; exact hcell j u hj) hone (by unfold maxLen; omega) hb3 hB
  obtain ⟨ao', cap', rfl⟩ := slice_of_own h1
  unfold Oper.wp
  simp [execOp, ho, resolve, invoke, builtin, hs, hx, hr, Result.andThen]
  exact h ao' cap' w' h1 (Keeps.of_grownBy h2 fun k _ e => e)
/-- Where the new row lies is told, too. -/
theorem step_append2 {ops : Array Oper} {o : Oper} {a : Act} {w : World} {K : Act → World → Prop} {Q : Exit → Act → World → Prop} {F : Prop} (hgd : o.guard = none) (s x : Operand) (t e : TypeId) (z : Value) (size bytes : Nat)
    (ho : o.op = .call { callee := .builtin .append, args := #[s, x], argTypes := #[t, t] }) (ht : Tryd.prog.underlying t = some (.slice e)) (hinfo : (Tryd.prog.info? e).map (fun i => (i.zero, i.size, i.bytes)) = some (some z, size, bytes)) (hz : z.cells.size = size) (hsz : 0 < size) (hby : bytes ≤ 100)
    (B : Nat) (v : Value) (n : Nat) (xs news : List Value) (g c : Nat) (hown : w.ownsRow B e size v n xs) (hn : n ≤ 1000000) (hnl : news.length = size) (hcell : ∀ j u, news[j]? = some u → w.cell? ⟨g, j, none⟩ = some u) (hone : ∀ u ∈ news, u.oneCell' = true) (hB : B ≤ w.heap.size)
    (hs : a.eval s = v) (hx : a.eval x = .slice (some ⟨g, 0, none⟩) 1 c)
    (h : ∀ ao cap w', w'.ownsRow B e size (.slice ao (n + 1) cap) (n + 1) (xs ++ news) → Keeps (fun b => v.ownBlock = some b) w w' → (∀ k, (Value.slice ao (n + 1) cap).ownBlock = some k → v.ownBlock = some k ∨ w.heap.size ≤ k) → K (a.put o.dst (.slice ao (n + 1) cap)) w') :
    if Region.wanted o (yielded ops a.tmps) = true then Oper.wp Tryd.prog o a w K Q else F := by
  have hw : Region.wanted o (yielded ops a.tmps) = true := by simp [Region.wanted, hgd]
  rw [if_pos hw]
  obtain ⟨i0, hi, hz0, hz1, hz2⟩ := tinfoA hinfo
  have hb3 : (n + 1) * bytes ≤ 140737488355328 := Nat.le_trans (Nat.mul_le_mul (show n + 1 ≤ 1000001 by omega) hby) (by decide)
  obtain ⟨v', w', hr, h1, h2, _, h4⟩ := run_append_own_at (P := Tryd.prog) w B t o.type e i0 z size bytes ht hi hz0 hz1 hz2 hz hsz v n xs hown ⟨g, 0, none⟩ 1 c news (by rw [hnl, Nat.one_mul])
    (fun j u hj => by rw [show (⟨g, 0, none⟩ : Addr).add j = ⟨g, j, none⟩ by unfold Addr.add; split <;> simp_all]; exact hcell j u hj) hone (by unfold maxLen; omega) hb3 hB
  obtain ⟨ao', cap', rfl⟩ := slice_of_own h1
  unfold Oper.wp
  simp [execOp, ho, resolve, invoke, builtin, hs, hx, hr, Result.andThen]
  exact h ao' cap' w' h1 (Keeps.of_grownBy h2 fun k _ e => e) fun k hk => by
    rcases h4 with h4 | h4
    · exact Or.inl (h4 ▸ hk)
    · rw [h4] at hk
      cases hk
      exact Or.inr (Nat.le_refl _)
theorem wpList_append1 {ops : Array Oper} {rest : List Oper} {o : Oper} {a : Act} {w : World} {Q : Exit → Act → World → Prop} (hgd : o.guard = none) (s x : Operand) (t e : TypeId) (z : Value) (size bytes : Nat)
    (ho : o.op = .call { callee := .builtin .append, args := #[s, x], argTypes := #[t, t] }) (ht : Tryd.prog.underlying t = some (.slice e)) (hinfo : (Tryd.prog.info? e).map (fun i => (i.zero, i.size, i.bytes)) = some (some z, size, bytes)) (hz : z.cells.size = size) (hsz : 0 < size) (hby : bytes ≤ 100)
    (B : Nat) (v : Value) (n : Nat) (xs news : List Value) (g c : Nat) (hown : w.ownsRow B e size v n xs) (hn : n ≤ 1000000) (hnl : news.length = size) (hcell : ∀ j u, news[j]? = some u → w.cell? ⟨g, j, none⟩ = some u) (hone : ∀ u ∈ news, u.oneCell' = true) (hB : B ≤ w.heap.size)
    (hs : a.eval s = v) (hx : a.eval x = .slice (some ⟨g, 0, none⟩) 1 c)
    (h : ∀ ao cap w', w'.ownsRow B e size (.slice ao (n + 1) cap) (n + 1) (xs ++ news) → Keeps (fun b => v.ownBlock = some b) w w' → wpList Tryd.prog ops Q rest (a.put o.dst (.slice ao (n + 1) cap)) w') :
    wpList Tryd.prog ops Q (o :: rest) a w := by
  obtain ⟨i0, hi, hz0, hz1, hz2⟩ := tinfoA hinfo
  have hb3 : (n + 1) * bytes ≤ 140737488355328 := Nat.le_trans (Nat.mul_le_mul (show n + 1 ≤ 1000001 by omega) hby) (by decide)
  obtain ⟨v', w', hr, h1, h2, _, _⟩ := run_append_own_at (P := Tryd.prog) w B t o.type e i0 z size bytes ht hi hz0 hz1 hz2 hz hsz v n xs hown ⟨g, 0, none⟩ 1 c news (by rw [hnl, Nat.one_mul])
    (fun j u hj => by rw [show (⟨g, 0, none⟩ : Addr).add j = ⟨g, j, none⟩ by unfold Addr.add; split <;> simp_all]; exact hcell j u hj) hone (by unfold maxLen; omega) hb3 hB
  obtain ⟨ao', cap', rfl⟩ := slice_of_own h1
  refine wpList_plain hgd fun K hK => ?_
  unfold Oper.wp
  simp [execOp, ho, resolve, invoke, builtin, hs, hx, hr, Result.andThen]
  exact hK _ _ (h ao' cap' w' h1 (Keeps.of_grownBy h2 fun k _ e => e))
end Go.Proofs.YtkeglkneobngnaaDoor

namespace Go.Proofs.YtkeglkneobngnaaDoor
open Go.RowKit Cd

theorem info_ins : (Tryd.prog.info? 52).map (fun i => (i.zero, i.size, i.bytes)) = some (some (.agg #[.int .i64 0, .int .i64 0]), 2, 16) := by kernel_rfl
def cellsL (l : List Int) : List Value := l.map (Value.int .i64)
def cellsN (l : List In) : List Value := l.flatMap fun i => [.int .i64 i.1, .int .i64 i.2]
theorem cellsN_snoc (l : List In) (i : In) : cellsN l ++ [.int .i64 i.1, .int .i64 i.2] = cellsN (l ++ [i]) := by simp [cellsN]
theorem cellsL_snoc (l : List Int) (i : Int) : cellsL l ++ [.int .i64 i] = cellsL (l ++ [i]) := by simp [cellsL]
theorem cellsN_length (l : List In) : (cellsN l).length = l.length * 2 := by
  induction l with
  | nil => rfl
  | cons p ps ih => simp only [cellsN, List.flatMap_cons, List.length_append, List.length_cons, List.length_nil] at ih ⊢; omega
theorem cellsN_get : ∀ (l : List In) (i : Nat) (x : In), l[i]? = some x → (cellsN l)[i * 2]? = some (.int .i64 x.1) ∧ (cellsN l)[i * 2 + 1]? = some (.int .i64 x.2)
  | [], _, _, h => by cases h
  | y :: l, 0, x, h => by cases h; exact ⟨rfl, rfl⟩
  | y :: l, i + 1, x, h => by
    have := cellsN_get l i x (by simpa using h)
    have e : cellsN (y :: l) = .int .i64 y.1 :: .int .i64 y.2 :: cellsN l := rfl
    rw [e]
    refine ⟨?_, ?_⟩
    · rw [show (i + 1) * 2 = i * 2 + 1 + 1 by omega]; simpa using this.1
    · rw [show (i + 1) * 2 + 1 = i * 2 + 1 + 1 + 1 by omega]; simpa using this.2
theorem addr0 (g j : Nat) : (⟨g, 0, none⟩ : Addr).add j = ⟨g, j, none⟩ := by unfold Addr.add; split <;> simp_all
theorem own_ints {w : World} {B n : Nat} {v : Value} {l : List Int} (h : w.ownsRow B 3 1 v n (cellsL l)) : IntsAt w v l := by
  have hl : l.length = n := by simpa [cellsL] using h.1
  subst hl
  exact OwnI.ints (B := B) h
theorem own_ins {w : World} {B n : Nat} {v : Value} {l : List In} (h : w.ownsRow B 52 2 v n (cellsN l)) : InsAt w v l := by
  have hl : l.length = n := by have := h.1; rw [cellsN_length] at this; omega
  have hc := h
  rcases h.2 with ⟨rfl, h0⟩ | ⟨g, cap, cur, rfl, hb, hg, h3, h4, h5, h6⟩
  · obtain rfl : l = [] := List.eq_nil_of_length_eq_zero (by omega)
    exact insAt_nil w
  · refine ⟨_, _, _, rfl, hl.symm, h3, h4, fun _ => ⟨g, 0, rfl, (Array.getElem?_eq_some_iff.1 hg).1, fun i x hi => ?_⟩⟩
    obtain ⟨e1, e2⟩ := cellsN_get l i x hi
    have f1 := World.ownsRow.cells hc (g := g) rfl _ _ e1
    have f2 := World.ownsRow.cells hc (g := g) rfl _ _ e2
    rw [addr0] at f1 f2
    rw [Nat.zero_add]
    exact ⟨f1, f2⟩
theorem own_mono {w : World} {B B' n size : Nat} {e : TypeId} {v : Value} {xs : List Value} (h : w.ownsRow B e size v n xs) (hB : B' ≤ B) : w.ownsRow B' e size v n xs :=
  ⟨h.1, h.2.imp id fun ⟨g, c, cur, e1, e2, e3⟩ => ⟨g, c, cur, e1, Nat.le_trans hB e2, e3⟩⟩

theorem bel_next {w a b : World} (h : Below w.heap.size w a) (k : Below a.heap.size a b) : Below w.heap.size w b := h.trans (k.mono h.size)
end Go.Proofs.YtkeglkneobngnaaDoor

namespace Go.Proofs.YtkeglkneobngnaaDoor
open Go.RowKit Cd As

def strV (l : List B) : List Value := l.map fun s => Value.string (stB s)
theorem strV_length (l : List B) : (strV l).length = l.length := by simp [strV]
theorem strV_snoc (l : List B) (s : B) : strV l ++ [.string (stB s)] = strV (l ++ [s]) := by simp [strV]
theorem own_three (w : World) (x y z : Value) (e : TypeId) : (w.alloc (.cells #[x, y, z] e)).ownsRow w.heap.size e 1 (.slice (some ⟨w.heap.size, 0, none⟩) 3 3) 3 [x, y, z] :=
  ⟨rfl, .inr ⟨w.heap.size, 3, #[x, y, z], rfl, Nat.le_refl _, heap_alloc_new _ _, Nat.le_refl _, by decide, rfl, rfl⟩⟩
theorem head_len {f : FnV} (h : FnR f) : (As.headL f).length ≤ 80 := by
  have h2 := locals_len f.locals
  have h3 := h.locals
  have h4 := kind_len f.kind
  have h5 := itoa_len2 f.params h.params0 (by have := h.params; omega)
  unfold As.headL
  simp only [List.length_append, spaced_cons]
  have : fnB.length = 2 := rfl
  omega
theorem info_strA : (Tryd.prog.info? 9).map (fun i => (i.zero, i.size, i.bytes)) = some (some (.string ByteArray.empty), 1, 16) := by kernel_rfl
/-- A row of texts of the call's own. -/
structure Strs (W1 w : World) (v : Value) (l : List B) : Prop where
  own : w.ownsRow W1.heap.size 9 1 v l.length (strV l)
  bel : Below W1.heap.size W1 w
theorem join_spaced (x : B) (r : List B) : Lib.join (x :: r) [32] = x ++ spaced r := by
  rw [Lib.join_cons]
  congr 1
theorem join_any (v : Value) (x : B) (r : List B) (W1 w : World) (h : Strs W1 w v (x :: r)) (hl : (x ++ spaced r).length ≤ 1000000) (hr : r.length ≤ 1000000) :
    Calls Tryd.prog 65 #[v, .string ⟨#[32]⟩] w fun e w' => e = .returned (.string (stB (x ++ spaced r))) ∧ Below w.heap.size w w' := by
  obtain ⟨⟨h1, h2⟩, hb⟩ := h
  rcases h2 with ⟨_, h0⟩ | ⟨g, cap, cur, rfl, h3, h4, h5, h6, h7, h8⟩
  · cases h0
  · have hg : g < w.heap.size := by
      rcases Nat.lt_or_ge g w.heap.size with h' | h'
      · exact h'
      · simp [Array.getElem?_eq_none h'] at h4
    have e1 : ((x :: r).map stB).map (·.data.toList) = x :: r := by
      rw [List.map_map]
      conv => rhs; rw [← List.map_id (x :: r)]
      rfl
    have e2 : ((x :: r).map stB).length = (x :: r).length := List.length_map ..
    have := Tryd.strings_Join g 0 cap ((x :: r).map stB) ⟨#[32]⟩ w (fun j y hj => by
      rw [List.getElem?_map] at hj
      obtain ⟨z, hz, rfl⟩ := Option.map_eq_some_iff.1 hj
      have hjl := (List.getElem?_eq_some_iff.1 hz).1
      rw [Lib.cell_of_heap h4, Nat.zero_add, ← Array.getElem?_toList]
      have e : (strV (x :: r))[j]? = some (.string (stB z)) := by unfold strV; rw [List.getElem?_map, hz]; rfl
      rw [← h8, List.getElem?_take, if_pos (by omega)] at e
      exact e) hg (by rw [e2]; simp only [List.length_cons]; omega) (by rw [e2]; exact h5) (by
        rw [e1]
        show (Lib.join (x :: r) [32]).length ≤ _
        rw [join_spaced]; omega)
    rw [e1, e2] at this
    have e3 : Lib.join (x :: r) (⟨#[32]⟩ : ByteArray).data.toList = x ++ spaced r := join_spaced x r
    rw [e3] at this
    exact this

set_option maxRecDepth 100000 in
set_option maxHeartbeats 3200000 in
theorem headLine_any (f : FnV) (vl vc : Value) (w : World) (hf : FnR f) (hl : IntsAt w vl f.locals) (hv : AsmVars w) (hP : Pow w) :
    Calls Tryd.prog 37 #[.agg #[.int .i64 f.params, vl, .int .i64 f.kind, vc]] w fun e w' => e = .returned (.string (stB (As.headL f ++ [10]))) ∧ Below w.heap.size w w' := by
  have HR := Lib.hid hf
  obtain ⟨pa, ls, ki, cs⟩ := f
  obtain ⟨ao, n, cap, rfl, hn, hnc, hcm, hx⟩ := hl
  dsimp only at hn hx ⊢
  unfold maxLen at hcm
  have h12 : n ≤ 12 := by rw [hn]; exact hf.locals
  obtain ⟨q, rfl⟩ : ∃ q : Nat, ki = (q : Int) := ⟨ki.toNat, (Int.toNat_of_nonneg hf.kind0).symm⟩
  have hq4 : q < 4 := by have := hf.kind; dsimp only at this; omega
  have hqi : (q : Int) < 4 := by omega
  have hp0 : 0 ≤ pa := hf.params0
  have hp12 : pa ≤ 12 := by have := hf.params; have := hf.locals; dsimp only at *; omega
  have HN := Lib.hid hn
  have HKK : Hid (∀ k, k < n → 1 ≤ ls.getD k 0 ∧ ls.getD k 0 ≤ 3) := Lib.hid fun k hk => by
    have hkl : k < ls.length := by rw [← HN.out]; exact hk
    rw [List.getD_eq_getElem?_getD, List.getElem?_eq_getElem hkl]
    exact hf.kinds _ (List.getElem_mem hkl)
  clear hf
  have hal := (Below.refl w.heap.size w).alloc (Nat.le_refl _) (.cells #[.int .i64 pa, .slice ao n cap, .int .i64 (q : Int), vc] 44)
  have HB0 := Lib.hid hal
  have HV := Lib.hid (hv.below hal)
  have HP := Lib.hid (hP.below hal)
  have HX : Hid (∀ W, Below w.heap.size w W → 0 < n → ∃ b o, ao = some ⟨b, o, none⟩ ∧ ∀ i, i < n → W.cell? ⟨b, o + i, none⟩ = some (.int .i64 (ls.getD i 0))) := Lib.hid fun W hW h0 => by
    obtain ⟨b, o, h1, h2, h3⟩ := hx h0
    exact ⟨b, o, h1, fun i hi => by rw [hW.cell (p := ⟨b, o + i, none⟩) h2]; exact h3 i hi⟩
  have hx0 := cell_of_row (w.alloc (.cells #[.int .i64 pa, .slice ao n cap, .int .i64 (q : Int), vc] 44)) w.heap.size 0 _ _ _ (heap_alloc_new _ _)
  have hx1 := cell_of_row (w.alloc (.cells #[.int .i64 pa, .slice ao n cap, .int .i64 (q : Int), vc] 44)) w.heap.size 1 _ _ _ (heap_alloc_new _ _)
  have hx2 := cell_of_row (w.alloc (.cells #[.int .i64 pa, .slice ao n cap, .int .i64 (q : Int), vc] 44)) w.heap.size 2 _ _ _ (heap_alloc_new _ _)
  have hsz1 : w.heap.size < (w.alloc (.cells #[.int .i64 pa, .slice ao n cap, .int .i64 (q : Int), vc] 44)).heap.size := by simp
  have H32 : Hid ((⟨#[102, 110]⟩ : ByteArray) = stB fnB ∧ (⟨#[10]⟩ : ByteArray) = stB [10]) := Lib.hid ⟨rfl, rfl⟩
  clear hx hn hv hP hal
  go_enter Tryd.func37, Tryd.ntmps37
  go_upto_region 1 with fail
  generalize hW1 : w.alloc (.cells #[.int .i64 pa, .slice ao n cap, .int .i64 (q : Int), vc] 44) = W1 at *
  generalize hxb : w.heap.size = xb at *
  clear hW1
  have HC : Hid (∀ V, Below W1.heap.size W1 V → V.cell? ⟨xb, 0, none⟩ = some (.int .i64 pa) ∧ V.cell? ⟨xb, 1, none⟩ = some (.slice ao n cap) ∧ V.cell? ⟨xb, 2, none⟩ = some (.int .i64 (q : Int))) := Lib.hid fun V hV =>
    ⟨by rw [hV.cell (p := ⟨xb, 0, none⟩) hsz1]; exact hx0, by rw [hV.cell (p := ⟨xb, 1, none⟩) hsz1]; exact hx1, by rw [hV.cell (p := ⟨xb, 2, none⟩) hsz1]; exact hx2⟩
  have HK : Hid (∀ V, Below W1.heap.size W1 V → ∀ k, k < 4 → V.cell? ⟨0, k, none⟩ = some (.string (stB (kindsB.getD k [])))) := Lib.hid fun V hV => (HV.out.below hV).kinds
  have HIT : Hid (∀ V, Below W1.heap.size W1 V → Calls Tryd.prog 36 #[.int .i64 pa] V fun e w' => e = .returned (.string (stB (Lib.itoa pa))) ∧ Below W1.heap.size W1 w') := Lib.hid fun V hV =>
    (itoa_any pa (by omega) (by omega) V (HP.out.below hV)).mono fun e w' ⟨he, hb⟩ => ⟨he, hV.trans (hb.mono hV.size)⟩
  clear hx0 hx1 hx2
  have hbb : Below W1.heap.size W1 W1 := Below.refl _ _
  go_cut [3] from 6 to 14 (fun v wx => Strs W1 wx v [fnB, kindsB.getD q [], Lib.itoa pa])
  case first =>
    obtain ⟨hx0, hx1, hx2⟩ := HC.out _ hbb
    have hk1 := HK.out _ hbb q hq4
    go_region_with (go_at_call 36; refine (HIT.out _ ?_).mono ?_; (first | assumption | exact Below.drew (by assumption)); rintro e V1 ⟨rfl, hv1⟩; obtain ⟨hy0, hy1, hy2⟩ := HC.out _ hv1; have hk2 := HK.out _ hv1 q hq4)
    all_goals go_wp2_with fail
    all_goals go_meet
    all_goals exact ⟨own_mono (own_three _ _ _ _ _) hv1.size, hv1.alloc hv1.size _⟩
  case rest =>
    have HB := Lib.hid hcut
    rename World => W2
    obtain ⟨ao5, cap5, hv5⟩ := slice_of_own hcut.own
    subst hv5
    clear hcut HIT hbb
    obtain ⟨hx0, hx1, hx2⟩ := HC.out _ HB.out.bel
    have HX0 : Hid (∀ V, Below W1.heap.size W1 V → Below xb w V) := Lib.hid fun V hV => HB0.out.trans (hV.mono (Nat.le_of_lt hsz1))
    go_wp2_with fail
    go_loopw [17, 3] (fun iv v wr => ∃ k : Nat, k ≤ n ∧ iv = .int .i64 k ∧ Strs W1 wr v (fnB :: kindsB.getD q [] :: Lib.itoa pa :: (ls.take k).map kindW)) (fun iv _ _ => n - (intOf iv).toNat)
    case atStart => exact ⟨0, Nat.zero_le _, rfl, HB.out⟩
    case round =>
      obtain ⟨k, hk, rfl, hbuf⟩ := hrel
      rename World => wr
      have HBF := Lib.hid hbuf
      obtain ⟨ao6, cap6, hv6⟩ := slice_of_own hbuf.own
      subst hv6
      clear hbuf HB hx0 hx1 hx2
      have HLN : Hid ((fnB :: kindsB.getD q [] :: Lib.itoa pa :: (ls.take k).map kindW).length = k + 3) := Lib.hid (by
        have := HN.out
        simp
        omega)
      by_cases hkn : k < n
      · obtain ⟨b, o, rfl, hcell⟩ := HX.out wr (HX0.out wr HBF.out.bel) (by omega)
        have hc1 := hcell k hkn
        have hi1 : (k : Int) < (n : Int) := by omega
        obtain ⟨g1, g2⟩ := HKK.out k hkn
        obtain ⟨y, hy⟩ : ∃ y : Nat, ls.getD k 0 = (y : Int) := ⟨(ls.getD k 0).toNat, (Int.toNat_of_nonneg (by omega)).symm⟩
        rw [hy] at hc1 g1 g2
        have hyi : (y : Int) < 4 := by omega
        have hy4 : y < 4 := by omega
        have hk1 := HK.out _ HBF.out.bel y hy4
        have HTK : Hid (fnB :: kindsB.getD q [] :: Lib.itoa pa :: (ls.take (k + 1)).map kindW = (fnB :: kindsB.getD q [] :: Lib.itoa pa :: (ls.take k).map kindW) ++ [kindsB.getD y []]) := Lib.hid (by
          have hkl : k < ls.length := by rw [← HN.out]; exact hkn
          have e : ls[k] = (y : Int) := by rw [← hy, List.getD_eq_getElem?_getD, List.getElem?_eq_getElem hkl]; rfl
          rw [List.take_succ_eq_append_getElem hkl, List.map_append, e]
          show _ = fnB :: kindsB.getD q [] :: Lib.itoa pa :: ((ls.take k).map kindW ++ [kindsB.getD y []])
          rfl)
        generalize hL : fnB :: kindsB.getD q [] :: Lib.itoa pa :: (ls.take k).map kindW = L at *
        clear hL hcell hy g1 g2
        have HO : Hid (wr.ownsRow W1.heap.size 9 1 (.slice ao6 (k + 3) cap6) (k + 3) (strV L)) := Lib.hid (by
          have := HBF.out.own
          rwa [HLN.out] at this)
        have HBL := Lib.hid HBF.out.bel
        rw [HLN.out]
        have hal := (Below.refl wr.heap.size wr).alloc (Nat.le_refl _) (.cells #[.string (stB (kindsB.getD y []))] 9)
        have HOV := Lib.hid (own_below HO.out hal)
        have HAL := Lib.hid hal
        have hbs : W1.heap.size ≤ (wr.alloc (.cells #[.string (stB (kindsB.getD y []))] 9)).heap.size := Nat.le_trans HBL.out.size hal.size
        have hcn : ∀ (j : Nat) u, [Value.string (stB (kindsB.getD y []))][j]? = some u → (wr.alloc (.cells #[.string (stB (kindsB.getD y []))] 9)).cell? ⟨wr.heap.size, j, none⟩ = some u := fun j u hj => by
          rw [cell_of_row _ _ _ _ _ _ (heap_alloc_new _ _), ← Array.getElem?_toList]
          exact hj
        have hon : ∀ u ∈ [Value.string (stB (kindsB.getD y []))], u.oneCell' = true := fun u hu => by rw [List.mem_singleton.1 hu]; rfl
        clear hal HBF
        generalize hkv : stB (kindsB.getD y []) = kv at *
        have HKV := Lib.hid hkv
        clear hkv
        go_wp2_with (at_builtin; refine wpList_append1 rfl (.tmp 21) (.tmp 25) 64 9 (.string ByteArray.empty) 1 16 rfl Tryd.underlying64 info_strA rfl (by decide) (by decide) W1.heap.size _ (k + 3) _ [.string kv] wr.heap.size 1 HOV.out (by omega) rfl hcn hon hbs (by simp [Act.eval]) (by simp [Act.eval]) ?_)
        intro ao9 cap9 w9 ho9 hk9
        have HB9 : Hid (Strs W1 w9 (.slice ao9 (k + 3 + 1) cap9) (fnB :: kindsB.getD q [] :: Lib.itoa pa :: (ls.take (k + 1)).map kindW)) := Lib.hid (by
          rw [HTK.out]
          refine ⟨?_, ?_⟩
          · rw [← strV_snoc, List.length_append, List.length_singleton, HLN.out, HKV.out]
            exact ho9
          · exact (HBL.out.trans (HAL.out.mono HBL.out.size)).trans (hk9.below hbs fun e _ he => (World.ownsRow.lt HOV.out e he).1))
        clear ho9 hk9 hcn hon hbs HOV HAL HO
        go_wp2_with fail
        go_roundw
        case rel => exact ⟨k + 1, by omega, by go_num, HB9.out⟩
        case measure => simp [intOf]; omega
      · obtain rfl : k = n := by omega
        have hls : ls.take k = ls := by rw [HN.out, List.take_length]
        rw [hls] at HBF ⊢
        have HHL : Hid (As.headL ⟨pa, ls, (q : Int), cs⟩ = fnB ++ spaced (kindsB.getD q [] :: Lib.itoa pa :: ls.map kindW)) := Lib.hid rfl
        have hhl := head_len HR.out
        rw [HHL.out] at hhl
        have HJ := Lib.hid (join_any _ _ _ W1 wr HBF.out (by omega) (by
          simp only [List.length_cons, List.length_map]
          have := HN.out
          omega))
        have hsz : ¬ 9223372036854775807 < (stB (fnB ++ spaced (kindsB.getD q [] :: Lib.itoa pa :: ls.map kindW))).size + (⟨#[10]⟩ : ByteArray).size := by
          rw [stB_size]
          show ¬ 9223372036854775807 < _ + 1
          omega
        have HE : Hid (stB (fnB ++ spaced (kindsB.getD q [] :: Lib.itoa pa :: ls.map kindW)) ++ (⟨#[10]⟩ : ByteArray) = stB (As.headL ⟨pa, ls, (q : Int), cs⟩ ++ [10])) := Lib.hid (by rw [H32.out.2, stB_append, HHL.out])
        have HBL := Lib.hid HBF.out.bel
        clear hhl HHL HX HKK hls
        generalize fnB :: kindsB.getD q [] :: Lib.itoa pa :: ls.map kindW = L at *
        generalize stB (fnB ++ spaced (kindsB.getD q [] :: Lib.itoa pa :: ls.map kindW)) = t at *
        go_wp2_with fail
        refine HJ.out.mono ?_
        rintro e w9 ⟨rfl, hb9⟩
        go_wp2_with fail
        go_ret
        exact ⟨by rw [HE.out]; rfl, by rw [hxb]; exact HX0.out _ (HBL.out.trans (hb9.mono HBL.out.size))⟩
end Go.Proofs.YtkeglkneobngnaaDoor

namespace Go.Proofs.YtkeglkneobngnaaDoor
open Go.RowKit

/-- Bytes as cells. -/
def cells8 (l : List Nat) : List Value := l.map fun b : Nat => Value.int .u8 (b : Int)
theorem cells8_snoc (l : List Nat) (b : Nat) : cells8 l ++ [.int .u8 (b : Int)] = cells8 (l ++ [b]) := by simp [cells8]
theorem owns_ge {w : World} {base : Nat} {e : TypeId} {size : Nat} {v : Value} {n : Nat} {xs : List Value} (h : w.ownsRow base e size v n xs) : ∀ k, v.ownBlock = some k → base ≤ k := by
  intro k hk
  rcases h.2 with ⟨rfl, _⟩ | ⟨g, cap, cur, rfl, hg, _⟩
  · cases hk
  · cases hk; exact hg
theorem RowAt.ofOwns {w : World} {base n : Nat} {v : Value} {l : List Nat} (h : w.ownsRow base 5 1 v n (cells8 l)) (h0 : 0 < n) :
    ∃ g cap, v = .slice (some ⟨g, 0, none⟩) n cap ∧ base ≤ g ∧ g < w.heap.size ∧ RowAt w g l ∧ l.length = n ∧ n ≤ cap := by
  have hl : l.length = n := by simpa [cells8] using h.1
  rcases h.2 with ⟨_, hn⟩ | ⟨g, cap, cur, rfl, hbg, hg, hnc, hcm, hcs, htake⟩
  · omega
  · refine ⟨g, cap, rfl, hbg, (Array.getElem?_eq_some_iff.1 hg).1, fun j hj => ⟨?_, frozen_of_row w g j cur 5 hg⟩, hl, hnc⟩
    rw [cell_of_row w g j cur 5 (0, 0) hg]
    have h2 : (cur.toList.take (n * 1))[j]? = (cells8 l)[j]? := by rw [htake]
    rw [List.getElem?_take, if_pos (by omega)] at h2
    simp [cells8, hj, List.getD_eq_getElem?_getD] at h2 ⊢
    exact h2
theorem make10 (w : World) : ∃ w', (Instr.makeSlice 50 (.int .i64 0) (.int .i64 10)).run Tryd.prog w = .ok (.slice (some ⟨w.heap.size, 0, none⟩) 0 10) w' ∧
    w'.ownsRow w.heap.size 5 1 (.slice (some ⟨w.heap.size, 0, none⟩) 0 10) 0 [] ∧ w.grownBy w' none := by
  obtain ⟨i0, hi, hz0, hz1, hz2⟩ := info_parts info_u8
  exact run_make_own (P := Tryd.prog) w w.heap.size 50 5 i0 (.int .u8 0) 1 Tryd.underlying50 hi hz0 hz1 .i64 .i64 10 (by rw [hz2]; decide) (by decide) (Nat.le_refl _)

/-- Where Num's loop stands. -/
def EncAt (N : Nat) (l : List Nat) (m : Nat) : Prop := Vy.enc N = l ++ Vy.enc m ∧ m ≤ N
theorem EncAt.step {N : Nat} {l : List Nat} {m : Nat} (h : EncAt N l m) (hm : ¬ m < 128) : EncAt N (l ++ [m % 128 + 128]) (m / 128) :=
  ⟨by rw [h.1, Vy.enc_big hm]; simp, by have := h.2; omega⟩
theorem EncAt.fin {N : Nat} {l : List Nat} {m : Nat} (h : EncAt N l m) (hm : m < 128) : l ++ [m] = Vy.enc N := by rw [h.1, Vy.enc_small hm]
theorem EncAt.len {N : Nat} {l : List Nat} {m : Nat} (h : EncAt N l m) (hN : N < 2 ^ 64) : l.length < 10 := by
  have h2 := Vy.enc_len10 N hN
  have := Vy.enc_len_pos m
  rw [h.1, List.length_append] at h2; omega

end Go.Proofs.YtkeglkneobngnaaDoor

namespace Go.Proofs.YtkeglkneobngnaaDoor
open Go.RowKit

theorem cells8_text (s : ByteArray) : cells8 (bs s) = Lib.strCells s := by
  unfold cells8 bs Lib.strCells; rw [List.map_map]; rfl
theorem cells8_append (a b : List Nat) : cells8 a ++ cells8 b = cells8 (a ++ b) := by simp [cells8]
theorem cells8_length (l : List Nat) : (cells8 l).length = l.length := by simp [cells8]
/-- A builder, in a block of the call's own, that holds the bytes l. -/
def Bld (B b : Nat) (l : List Nat) (w : World) : Prop := Lib.IsBuilder 69 5 B b (cells8 l) w

theorem bld_size : (Tryd.prog.info? 69).map (·.size) = some 2 := by kernel_rfl
theorem bld_lies : liesAt Tryd.prog Tryd.prog.depth 69 (2 / Tryd.prog.cellsOf 69) 0 69 1 = true := by kernel_rfl

set_option maxRecDepth 100000 in
set_option maxHeartbeats 1000000 in
theorem copyCheck_used (b : Nat) (w : World) (h0 : w.cell? ⟨b, 0, none⟩ = some (.pointer (some ⟨b, 0, none⟩))) :
    Calls Tryd.prog 63 #[.pointer (some ⟨b, 0, none⟩)] w fun e w' => e = .returned (.tuple #[]) ∧ w' = w := by
  obtain ⟨j, hj, _⟩ := Option.map_eq_some_iff.1 bld_size
  go_enter Tryd.func63, Tryd.ntmps63
  go_wp2
  rw [Lib.run_neq_ptr_same w _ Tryd.underlying67 hj]
  go_wp2
  go_end0
  exact ⟨rfl, rfl⟩

set_option maxRecDepth 100000 in
set_option maxHeartbeats 1000000 in
theorem copyCheck_fresh (b : Nat) (w : World) (h0 : w.cell? ⟨b, 0, none⟩ = some (.pointer none)) (hsh : w.shape? b = some (69, 2)) (hfz : w.frozen? ⟨b, 0, none⟩ = false) :
    Calls Tryd.prog 63 #[.pointer (some ⟨b, 0, none⟩)] w fun e w' => e = .returned (.tuple #[]) ∧ w' = w.setCell ⟨b, 0, none⟩ (.pointer (some ⟨b, 0, none⟩)) := by
  obtain ⟨j, hj, hjs⟩ := Option.map_eq_some_iff.1 bld_size
  go_enter Tryd.func63, Tryd.ntmps63
  go_wp2
  rw [Lib.run_to_unsafe w ⟨b, 0, none⟩ Tryd.underlying67 Tryd.underlying121 hj (by rw [hjs]; decide) hsh (Nat.zero_lt_succ 1)]
  simp only [Result.andThen]
  rw [Oper.upon_value]
  go_wp2
  rw [run_callFunc_extern Tryd.func84 (by kernel_rfl) (by kernel_rfl) (by kernel_rfl) (e := Extern.AbiNoEscape.same) (by kernel_rfl)]
  rw [Lib.run_noEscape]
  simp only [Result.andThen]
  rw [Oper.upon_value]
  go_wp2
  rw [Lib.run_from_unsafe w ⟨b, 0, none⟩ Tryd.underlying121 Tryd.underlying67 hj hsh bld_lies]
  simp only [Result.andThen]
  rw [Oper.upon_value]
  go_wp2
  go_end0
  exact ⟨rfl, rfl⟩
theorem copyCheck_any (B b : Nat) (l : List Nat) (w : World) (h : Bld B b l w) :
    Calls Tryd.prog 63 #[.pointer (some ⟨b, 0, none⟩)] w fun e w' => e = .returned (.tuple #[]) ∧ (Lib.BuilderAt 69 5 B b (.pointer (some ⟨b, 0, none⟩)) (cells8 l) w' ∧ Below B w w') := by
  rcases h with h | h
  · refine (copyCheck_fresh b w h.cell0 h.shape h.frozen0).mono ?_
    rintro e w' ⟨rfl, rfl⟩
    exact ⟨rfl, h.used _, (Below.refl B w).setCell (p := ⟨b, 0, none⟩) h.1 _⟩
  · refine (copyCheck_used b w h.cell0).mono ?_
    rintro e w' ⟨rfl, rfl⟩
    exact ⟨rfl, h, Below.refl B _⟩

set_option maxRecDepth 100000 in
set_option maxHeartbeats 1000000 in
theorem writeString_any (B b : Nat) (l : List Nat) (s : ByteArray) (w : World) (h : Bld B b l w) (hlen : l.length + s.size ≤ 1000000) (hBw : B ≤ w.heap.size) :
    Calls Tryd.prog 35 #[.pointer (some ⟨b, 0, none⟩), .string s] w fun e w' => e = .returned (.tuple #[.int .i64 s.size, .nilIface]) ∧ (Bld B b (l ++ bs s) w' ∧ Below B w w') := by
  obtain ⟨i0, hi, hz0, hz1, hz2⟩ := info_parts info_u8
  go_enter Tryd.func35, Tryd.ntmps35
  go_wp2_with fail
  refine (copyCheck_any B b l _ h).mono ?_
  rintro e w1 ⟨rfl, h1, hb1⟩
  obtain ⟨hB, v, hbk, hown, hne⟩ := h1
  have c0 : w1.cell? ⟨b, 0, none⟩ = some (.pointer (some ⟨b, 0, none⟩)) := by rw [Lib.cell_of_heap hbk]; rfl
  have c1 : w1.cell? ⟨b, 1, none⟩ = some v := by rw [Lib.cell_of_heap hbk]; rfl
  have hcl := cells8_length l
  go_wp2_with (at_builtin; refine Lib.wpList_append_own_string _ rfl _ _ 50 9 rfl B 5 i0 Tryd.underlying50 Tryd.underlying9 hi hz0 hz1 hz2 _ _ _ rfl hown s rfl ?c3 ?c4 ?c5 ?_)
  case c3 => unfold maxLen; omega
  case c4 => omega
  case c5 => have := hb1.size; omega
  intro v' w2 hown' hgrow _
  have hlt : b < w1.heap.size := by
    rcases Nat.lt_or_ge b w1.heap.size with h' | h'
    · exact h'
    · simp [Array.getElem?_eq_none h'] at hbk
  have hb2 : w2.heap[b]? = some (.cells #[.pointer (some ⟨b, 0, none⟩), v] 69 (0, 0)) := by
    rw [hgrow.block b hlt (fun e => hne e.symm)]
    exact hbk
  have d0 : w2.cell? ⟨b, 0, none⟩ = some (.pointer (some ⟨b, 0, none⟩)) := by rw [Lib.cell_of_heap hb2]; rfl
  have d1 : w2.cell? ⟨b, 1, none⟩ = some v := by rw [Lib.cell_of_heap hb2]; rfl
  have f1 : w2.frozen? ⟨b, 1, none⟩ = false := Lib.frozen_of_heap hb2 1
  obtain ⟨ao, n', cap, rfl⟩ : ∃ ao n' cap, v' = .slice ao n' cap := by
    rcases hown'.2 with ⟨hv, _⟩ | ⟨g, cap, cur, hv, _⟩
    · exact ⟨_, _, _, hv⟩
    · exact ⟨_, _, _, hv⟩
  have HO := Lib.hid hown'
  have HB3 := Lib.hid (hb1.grown hgrow (by have := hb1.size; omega) (fun k hk => (hown.lt k hk).1))
  clear hown' hgrow hown hbk c0 c1
  go_wp2
  go_ret2
  refine ⟨rfl, Or.inr ?_, HB3.out.setCell (p := ⟨b, 1, none⟩) hB _⟩
  have := Lib.BuilderAt.put (T := 69) (e := 5) hB hb2 (bs' := cells8 l ++ Lib.strCells s) (by simpa [Lib.strCells_length, cells8_length] using HO.out) (by decide)
  rwa [← cells8_text, cells8_append] at this

theorem toArray_txt (l : List Nat) (hl : Crc.Bytes l) : ∃ u : List UInt8, cells8 l = Lib.byteCells u ∧ (⟨u.toArray⟩ : ByteArray) = txt l := by
  refine ⟨(txt l).data.toList, ?_, ?_⟩
  · rw [← Lib.strCells_eq, ← cells8_text, bs_txt l hl]
  · apply ByteArray.ext; simp
theorem bldString_any (B b : Nat) (l : List Nat) (w : World) (h : Bld B b l w) (hl : Crc.Bytes l) (hBw : B ≤ w.heap.size) :
    Calls Tryd.prog 39 #[.pointer (some ⟨b, 0, none⟩)] w fun e w' => e = .returned (.string (txt l)) ∧ Below B w w' := by
  obtain ⟨u, hu, ht⟩ := toArray_txt l hl
  unfold Bld at h
  rw [hu] at h
  rw [← ht]
  exact Tryd.Builder_String_any B b u w h hBw
theorem bld_new (w : World) : Bld w.heap.size w.heap.size [] (w.alloc (.cells #[.pointer none, .slice none 0 0] 69)) := Lib.fresh_isBuilder _ _ w
theorem Bld.below {B b : Nat} {l : List Nat} {w w' : World} (h : Bld B b l w) (hb : Below w.heap.size w w') : Bld B b l w' := by
  have key : ∀ p, Lib.BuilderAt 69 5 B b p (cells8 l) w → Lib.BuilderAt 69 5 B b p (cells8 l) w' := by
    rintro p ⟨h1, v, h2, h3, h4⟩
    have hlt : b < w.heap.size := (Array.getElem?_eq_some_iff.1 h2).1
    refine ⟨h1, v, by rw [hb.block b hlt]; exact h2, ⟨h3.1, ?_⟩, h4⟩
    rcases h3.2 with h | ⟨g, cap, cur, g1, g2, g3, g4⟩
    · exact Or.inl h
    · exact Or.inr ⟨g, cap, cur, g1, g2, by rw [hb.block g (Array.getElem?_eq_some_iff.1 g3).1]; exact g3, g4⟩
  rcases h with h | h
  · exact Or.inl (key _ h)
  · exact Or.inr (key _ h)

end Go.Proofs.YtkeglkneobngnaaDoor

namespace Go.Proofs.YtkeglkneobngnaaDoor
open Go.RowKit

/-- Each block of other cells than bytes is as it was, but b. -/
def KeptX (b : Nat) (w w' : World) : Prop := ∀ x cs T, x ≠ b → T ≠ 5 → w.heap[x]? = some (.cells cs T (0, 0)) → w'.heap[x]? = some (.cells cs T (0, 0))
theorem KeptX.refl (b : Nat) (w : World) : KeptX b w w := fun _ _ _ _ _ h => h
theorem KeptX.trans {b : Nat} {w w' w2 : World} (h : KeptX b w w') (g : KeptX b w' w2) : KeptX b w w2 := fun x cs T h1 h2 h3 => g x cs T h1 h2 (h x cs T h1 h2 h3)
theorem KeptX.below {b : Nat} {w w' : World} (h : Below w.heap.size w w') : KeptX b w w' := fun x cs T _ _ h3 => by
  rw [h.block x (Array.getElem?_eq_some_iff.1 h3).1]; exact h3
theorem KeptX.cell {b x i : Nat} {w w' : World} {cs : Array Value} {T : TypeId} (h : KeptX b w w') (hx : x ≠ b) (hT : T ≠ 5) (hw : w.heap[x]? = some (.cells cs T (0, 0))) : w'.cell? ⟨x, i, none⟩ = w.cell? ⟨x, i, none⟩ := by
  rw [Lib.cell_of_heap hw, Lib.cell_of_heap (h x cs T hx hT hw)]
theorem copyCheckK_any (B b : Nat) (l : List Nat) (w : World) (h : Bld B b l w) :
    Calls Tryd.prog 63 #[.pointer (some ⟨b, 0, none⟩)] w fun e w' => e = .returned (.tuple #[]) ∧ (Lib.BuilderAt 69 5 B b (.pointer (some ⟨b, 0, none⟩)) (cells8 l) w' ∧ Below B w w' ∧ KeptX b w w') := by
  rcases h with h | h
  · refine (copyCheck_fresh b w h.cell0 h.shape h.frozen0).mono ?_
    rintro e w' ⟨rfl, rfl⟩
    exact ⟨rfl, h.used _, (Below.refl B w).setCell (p := ⟨b, 0, none⟩) h.1 _, fun x cs T hx _ hw => by rw [Below.heap_setCell _ _ _ _ hx]; exact hw⟩
  · refine (copyCheck_used b w h.cell0).mono ?_
    rintro e w' ⟨rfl, rfl⟩
    exact ⟨rfl, h, Below.refl B _, KeptX.refl _ _⟩

set_option maxRecDepth 100000 in
set_option maxHeartbeats 1000000 in
theorem writeStringK_any (B b : Nat) (l : List Nat) (s : ByteArray) (w : World) (h : Bld B b l w) (hlen : l.length + s.size ≤ 1000000) (hBw : B ≤ w.heap.size) :
    Calls Tryd.prog 35 #[.pointer (some ⟨b, 0, none⟩), .string s] w fun e w' => e = .returned (.tuple #[.int .i64 s.size, .nilIface]) ∧ (Bld B b (l ++ bs s) w' ∧ Below B w w' ∧ KeptX b w w') := by
  obtain ⟨i0, hi, hz0, hz1, hz2⟩ := info_parts info_u8
  go_enter Tryd.func35, Tryd.ntmps35
  go_wp2_with fail
  refine (copyCheckK_any B b l _ h).mono ?_
  rintro e w1 ⟨rfl, h1, hb1, hk1⟩
  obtain ⟨hB, v, hbk, hown, hne⟩ := h1
  have c0 : w1.cell? ⟨b, 0, none⟩ = some (.pointer (some ⟨b, 0, none⟩)) := by rw [Lib.cell_of_heap hbk]; rfl
  have c1 : w1.cell? ⟨b, 1, none⟩ = some v := by rw [Lib.cell_of_heap hbk]; rfl
  have hcl := cells8_length l
  have HKX := Lib.hid hk1
  clear hk1
  go_wp2_with (at_builtin; refine Lib.wpList_append_own_string _ rfl _ _ 50 9 rfl B 5 i0 Tryd.underlying50 Tryd.underlying9 hi hz0 hz1 hz2 _ _ _ rfl hown s rfl ?c3 ?c4 ?c5 ?_)
  case c3 => unfold maxLen; omega
  case c4 => omega
  case c5 => have := hb1.size; omega
  intro v' w2 hown' hgrow _
  have hlt : b < w1.heap.size := by
    rcases Nat.lt_or_ge b w1.heap.size with h' | h'
    · exact h'
    · simp [Array.getElem?_eq_none h'] at hbk
  have HK2 : Hid (KeptX b w1 w2) := Lib.hid fun x cs T hx hT hw => by
    have hxl : x < w1.heap.size := (Array.getElem?_eq_some_iff.1 hw).1
    rw [hgrow.block x hxl (fun e => by
      rcases hown.2 with ⟨hv, _⟩ | ⟨g, cap, cur, hv, _, hg, _⟩
      · rw [hv] at e; cases e
      · rw [hv] at e
        cases e
        rw [hg] at hw
        cases hw
        exact hT rfl)]
    exact hw
  have hb2 : w2.heap[b]? = some (.cells #[.pointer (some ⟨b, 0, none⟩), v] 69 (0, 0)) := by
    rw [hgrow.block b hlt (fun e => hne e.symm)]
    exact hbk
  have d0 : w2.cell? ⟨b, 0, none⟩ = some (.pointer (some ⟨b, 0, none⟩)) := by rw [Lib.cell_of_heap hb2]; rfl
  have d1 : w2.cell? ⟨b, 1, none⟩ = some v := by rw [Lib.cell_of_heap hb2]; rfl
  have f1 : w2.frozen? ⟨b, 1, none⟩ = false := Lib.frozen_of_heap hb2 1
  obtain ⟨ao, n', cap, rfl⟩ : ∃ ao n' cap, v' = .slice ao n' cap := by
    rcases hown'.2 with ⟨hv, _⟩ | ⟨g, cap, cur, hv, _⟩
    · exact ⟨_, _, _, hv⟩
    · exact ⟨_, _, _, hv⟩
  have HO := Lib.hid hown'
  have HB3 := Lib.hid (hb1.grown hgrow (by have := hb1.size; omega) (fun k hk => (hown.lt k hk).1))
  clear hown' hgrow hown hbk c0 c1
  go_wp2
  go_ret2
  refine ⟨rfl, Or.inr ?_, HB3.out.setCell (p := ⟨b, 1, none⟩) hB _, (HKX.out.trans HK2.out).trans fun x cs T hx _ hw => by rw [Below.heap_setCell _ _ _ _ hx]; exact hw⟩
  have := Lib.BuilderAt.put (T := 69) (e := 5) hB hb2 (bs' := cells8 l ++ Lib.strCells s) (by simpa [Lib.strCells_length, cells8_length] using HO.out) (by decide)
  rwa [← cells8_text, cells8_append] at this
end Go.Proofs.YtkeglkneobngnaaDoor
