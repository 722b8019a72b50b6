/-
  Texts of one proof, in build order: The plain mathematics of the sum (chapter 1): one bit's step on numbers, its linearity, what is left of a text. Nothing of the program is named here. | Texts and rows of bytes, in the walk's world: a text's bytes as numbers, the text of bytes, make, stores, []byte(s), string(b). Of no chapter. | The plain mathematics of chapter 2: numbers as bytes, seven bits a byte. Nothing of the program is named here. | What chapter 2 says of bytes and texts: definitions and plain lemmas (no walk). | The plain mathematics of chapter 3: texts of parts, whose sums stand beside them. No walk. | The plain mathematics of chapter 3, second part: what is opened was sealed, what is sealed is opened, and no text of parts begins another one. No walk. | The plain mathematics of chapter 14: programs of instructions, as bytes. No walk. | The plain mathematics of chapter 14: what is written is read, and just one text is. No walk. | Keeps S w w': of what lay in w all blocks but those of S lie as they lay. Of no chapter. | A slice of numbers that came in: what a walk is told of it. Of no chapter. | Slices of numbers: read (IntsAt), and of the call's own, appended to (OwnI). Of no chapter. | Programs of instructions as they lie in memory: to be read. | Errors by their numbers. | The walks of package code's small functions: span, HasN, isOp, mayBe, count, tag. | The walks of package code's rightFn and Right. | A package-level table of strings that a row lists: what its cells hold. Of no chapter. | A number handed back. Of no chapter. | The table of signs of package arith, as it is laid; Sign, written, Two, One.
-/
import Derived.Test.YtkeglkneobngnaaDoorRows
import Derived.WalkKit
import Derived.WalkSpells
import Derived.WalkLawsBesides
import Derived.Lib.Hide
import Derived.Laws.BytesString
import Derived.Laws.Rows
import Derived.Lib.ConvBytes
import Derived.Below
import Derived.Maps.Own
import Derived.Maps.OwnSet
import Derived.Maps.Range
import Derived.ProofKit
import Derived.Carry
import Derived.Deep.SlicePairs
import Derived.Maps.AppendAt
import Derived.Deep.QuietTactic
import Derived.BigQuiet
import Derived.Lib.LaidTab
namespace Go.Proofs.YtkeglkneobngnaaDoor
namespace Crc

def P : Nat := 0xedb88320
def step (x : Nat) : Nat := (x / 2) ^^^ (if x % 2 = 1 then P else 0)
def steps : Nat → Nat → Nat
  | 0, x => x
  | n + 1, x => steps n (step x)

theorem step_testBit (x i : Nat) : (step x).testBit i = (x.testBit (i + 1) ^^ (x.testBit 0 && P.testBit i)) := by
  unfold step
  rw [Nat.testBit_xor, Nat.testBit_succ]
  congr 1
  by_cases h : x % 2 = 1
  · rw [if_pos h]; simp [h]
  · rw [if_neg h]; simp [h]

theorem step_xor (x y : Nat) : step (x ^^^ y) = step x ^^^ step y := by
  apply Nat.eq_of_testBit_eq
  intro i
  simp only [step_testBit, Nat.testBit_xor]
  cases x.testBit (i + 1) <;> cases y.testBit (i + 1) <;> cases x.testBit 0 <;> cases y.testBit 0 <;> cases P.testBit i <;> rfl

theorem step_zero : step 0 = 0 := rfl
theorem step_double (y : Nat) : step (2 * y) = y := by
  unfold step
  rw [if_neg (by omega), Nat.xor_zero]; omega

theorem step_lt (x : Nat) (h : x < 2 ^ 32) : step x < 2 ^ 32 := by
  unfold step
  apply Nat.xor_lt_two_pow
  · omega
  · split <;> decide

theorem step_eq_zero (x : Nat) (h : x < 2 ^ 32) (h0 : step x = 0) : x = 0 := by
  have h31 : (step x).testBit 31 = false := by rw [h0]; rfl
  rw [step_testBit] at h31
  have hx : x.testBit (31 + 1) = false := Nat.testBit_lt_two_pow h
  rw [hx] at h31
  have hp : P.testBit 31 = true := by decide
  rw [hp] at h31
  have hb : x.testBit 0 = false := by simpa using h31
  have he : x % 2 = 0 := by simpa using hb
  unfold step at h0
  rw [if_neg (by omega), Nat.xor_zero] at h0
  omega

theorem steps_xor (n x y : Nat) : steps n (x ^^^ y) = steps n x ^^^ steps n y := by
  induction n generalizing x y with
  | zero => rfl
  | succ n ih => simp only [steps]; rw [step_xor, ih]
theorem steps_zero (n : Nat) : steps n 0 = 0 := by
  induction n with
  | zero => rfl
  | succ n ih => simp only [steps]; rw [step_zero, ih]
theorem steps_add (m n x : Nat) : steps (m + n) x = steps n (steps m x) := by
  induction m generalizing x with
  | zero => rw [Nat.zero_add]; rfl
  | succ m ih => rw [Nat.succ_add]; simp only [steps]; rw [ih]
theorem steps_lt (n x : Nat) (h : x < 2 ^ 32) : steps n x < 2 ^ 32 := by
  induction n generalizing x with
  | zero => exact h
  | succ n ih => exact ih _ (step_lt x h)
theorem steps_eq_zero (n x : Nat) (h : x < 2 ^ 32) (h0 : steps n x = 0) : x = 0 := by
  induction n generalizing x with
  | zero => exact h0
  | succ n ih => exact step_eq_zero x h (ih _ (step_lt x h) h0)
theorem steps_mul (n y : Nat) : steps n (2 ^ n * y) = y := by
  induction n generalizing y with
  | zero => simp [steps]
  | succ n ih =>
    simp only [steps]
    rw [show 2 ^ (n + 1) * y = 2 * (2 ^ n * y) by rw [Nat.pow_succ, Nat.mul_comm (2 ^ n) 2, Nat.mul_assoc], step_double, ih]
theorem steps_shift (n m y : Nat) (h : m ≤ n) : steps n (2 ^ m * y) = steps (n - m) y := by
  conv => lhs; rw [show n = m + (n - m) by omega]
  rw [steps_add, steps_mul]
theorem steps_inj (n x y : Nat) (hx : x < 2 ^ 32) (hy : y < 2 ^ 32) (h : steps n x = steps n y) : x = y := by
  have h0 : steps n (x ^^^ y) = 0 := by rw [steps_xor, h, Nat.xor_self]
  have hz := steps_eq_zero n _ (Nat.xor_lt_two_pow hx hy) h0
  have : (x ^^^ y) ^^^ y = 0 ^^^ y := by rw [hz]
  rwa [Nat.xor_assoc, Nat.xor_self, Nat.xor_zero, Nat.zero_xor] at this

theorem xor_cancel {a b c : Nat} (h : a ^^^ c = b ^^^ c) : a = b := by
  have : (a ^^^ c) ^^^ c = (b ^^^ c) ^^^ c := by rw [h]
  rwa [Nat.xor_assoc, Nat.xor_self, Nat.xor_zero, Nat.xor_assoc, Nat.xor_self, Nat.xor_zero] at this

/-! ### four bits at once -/
theorem split_xor (k b y : Nat) (h : b < 2 ^ k) : b + 2 ^ k * y = b ^^^ (2 ^ k * y) := by
  apply Nat.eq_of_testBit_eq
  intro i
  rw [Nat.testBit_xor, Nat.add_comm, Nat.testBit_two_pow_mul_add _ h, Nat.testBit_two_pow_mul]
  by_cases hi : i < k
  · rw [if_pos hi, decide_eq_false (by omega : ¬ i ≥ k)]; simp
  · rw [if_neg hi, Nat.testBit_lt_two_pow (Nat.lt_of_lt_of_le h (Nat.pow_le_pow_right (by omega) (by omega)))]
    rw [decide_eq_true (by omega : i ≥ k)]; simp
theorem steps_split (k x : Nat) : steps k x = steps k (x % 2 ^ k) ^^^ (x / 2 ^ k) := by
  conv => lhs; rw [← Nat.mod_add_div x (2 ^ k), split_xor k _ _ (Nat.mod_lt _ (Nat.two_pow_pos k)), steps_xor, steps_mul]

def leaves : List Nat := [0x00000000, 0x1db71064, 0x3b6e20c8, 0x26d930ac, 0x76dc4190, 0x6b6b51f4, 0x4db26158, 0x5005713c, 0xedb88320, 0xf00f9344, 0xd6d6a3e8, 0xcb61b38c, 0x9b64c2b0, 0x86d3d2d4, 0xa00ae278, 0xbdbdf21c]
def leaf (n : Nat) : Nat := leaves.getD n 0
theorem leaf_is : ∀ n, n < 16 → leaf n = steps 4 n := by decide
theorem leaf_lt : ∀ n, n < 16 → leaf n < 2 ^ 32 := by decide
theorem nibble (r : Nat) : leaf (r % 16) ^^^ (r / 16) = steps 4 r := by
  rw [leaf_is _ (by omega)]; exact (steps_split 4 r).symm
theorem nibbles (r : Nat) : steps 4 (steps 4 r) = steps 8 r := (steps_add 4 4 r).symm

theorem mod_bit1 (r k : Nat) (h : r / 2 ^ k % 2 = 1) : r % 2 ^ (k + 1) = r % 2 ^ k ^^^ 2 ^ k := by
  have e := split_xor k (r % 2 ^ k) 1 (Nat.mod_lt _ (Nat.two_pow_pos k))
  rw [Nat.mul_one] at e
  rw [← e, Nat.pow_succ, Nat.mod_mul, h, Nat.mul_one]
theorem mod_bit0 (r k : Nat) (h : r / 2 ^ k % 2 = 0) : r % 2 ^ (k + 1) = r % 2 ^ k := by
  rw [Nat.pow_succ, Nat.mod_mul, h, Nat.mul_zero, Nat.add_zero]

/-! ### texts -/
def le : List Nat → Nat
  | [] => 0
  | b :: l => b + 256 * le l
def fold (r : Nat) (l : List Nat) : Nat := l.foldl (fun r b => steps 8 (r ^^^ b)) r
def Bytes (l : List Nat) : Prop := ∀ b ∈ l, b < 256

theorem fold_is (l : List Nat) (hl : Bytes l) (r : Nat) : fold r l = steps (8 * l.length) (r ^^^ le l) := by
  induction l generalizing r with
  | nil => simp [fold, le, steps]
  | cons b l ih =>
    have hb : b < 256 := hl b (List.mem_cons_self ..)
    have := ih (fun x hx => hl x (List.mem_cons_of_mem _ hx)) (steps 8 (r ^^^ b))
    simp only [fold, List.foldl_cons] at this ⊢
    rw [this, List.length_cons, show 8 * (l.length + 1) = 8 + 8 * l.length by omega, steps_add]
    congr 1
    rw [show le (b :: l) = b + 2 ^ 8 * le l from rfl, split_xor 8 b (le l) hb, ← Nat.xor_assoc, steps_xor 8 (r ^^^ b), steps_mul]
theorem fold_append (r : Nat) (a b : List Nat) : fold r (a ++ b) = fold (fold r a) b := by simp [fold]
theorem le_lt (l : List Nat) (hl : Bytes l) : le l < 2 ^ (8 * l.length) := by
  induction l with
  | nil => simp [le]
  | cons b l ih =>
    have hb : b < 256 := hl b (List.mem_cons_self ..)
    have := ih (fun x hx => hl x (List.mem_cons_of_mem _ hx))
    simp only [le, List.length_cons]
    rw [show 8 * (l.length + 1) = 8 * l.length + 8 by omega, Nat.pow_add]
    omega
theorem le_inj (a b : List Nat) (ha : Bytes a) (hb : Bytes b) (hlen : a.length = b.length) (h : le a = le b) : a = b := by
  induction a generalizing b with
  | nil => cases b with
    | nil => rfl
    | cons _ _ => simp at hlen
  | cons x a ih => cases b with
    | nil => simp at hlen
    | cons y b =>
      have hx : x < 256 := ha x (List.mem_cons_self ..)
      have hy : y < 256 := hb y (List.mem_cons_self ..)
      simp only [le] at h
      have e1 : x = y := by omega
      have e2 : le a = le b := by omega
      subst e1
      rw [ih b (fun z hz => ha z (List.mem_cons_of_mem _ hz)) (fun z hz => hb z (List.mem_cons_of_mem _ hz)) (by simpa using hlen) e2]

def F : Nat := 0xffffffff
/-- The sum of a text whose sum is c, and l behind it. -/
def more (c : Nat) (l : List Nat) : Nat := fold (c ^^^ F) l ^^^ F
def join (a b n : Nat) : Nat := steps (8 * n) a ^^^ b

theorem fold_lt (l : List Nat) (hl : Bytes l) (r : Nat) (hr : r < 2 ^ 32) : fold r l < 2 ^ 32 := by
  induction l generalizing r with
  | nil => exact hr
  | cons b l ih =>
    have hb : b < 256 := hl b (List.mem_cons_self ..)
    exact ih (fun x hx => hl x (List.mem_cons_of_mem _ hx)) _ (steps_lt 8 _ (Nat.xor_lt_two_pow hr (by omega)))
theorem more_lt (l : List Nat) (hl : Bytes l) (c : Nat) (hc : c < 2 ^ 32) : more c l < 2 ^ 32 :=
  Nat.xor_lt_two_pow (fold_lt l hl _ (Nat.xor_lt_two_pow hc (by decide))) (by decide)
theorem join_lt (a b n : Nat) (ha : a < 2 ^ 32) (hb : b < 2 ^ 32) : join a b n < 2 ^ 32 := Nat.xor_lt_two_pow (steps_lt _ _ ha) hb

theorem more_inj (l : List Nat) (hl : Bytes l) (c d : Nat) (hc : c < 2 ^ 32) (hd : d < 2 ^ 32) : more c l = more d l ↔ c = d := by
  constructor
  · intro h
    have h1 := xor_cancel h
    rw [fold_is l hl, fold_is l hl, steps_xor _ (c ^^^ F), steps_xor _ (d ^^^ F)] at h1
    have h2 := steps_inj _ (c ^^^ F) (d ^^^ F) (Nat.xor_lt_two_pow hc (by decide)) (Nat.xor_lt_two_pow hd (by decide)) (xor_cancel h1)
    exact xor_cancel h2
  · rintro rfl; rfl

theorem xor_F_F (x : Nat) : (x ^^^ F) ^^^ F = x := by rw [Nat.xor_assoc, Nat.xor_self, Nat.xor_zero]

theorem more_append (c : Nat) (a b : List Nat) : more (more c a) b = more c (a ++ b) := by
  unfold more; rw [xor_F_F, fold_append]
theorem join_is (a b : List Nat) (hb : Bytes b) : join (more 0 a) (more 0 b) b.length = more 0 (a ++ b) := by
  rw [← more_append]
  unfold join
  rw [show more (more 0 a) b = fold (more 0 a ^^^ F) b ^^^ F from rfl, show more 0 b = fold (0 ^^^ F) b ^^^ F from rfl, fold_is b hb, fold_is b hb, ← Nat.xor_assoc, ← steps_xor, Nat.zero_xor, ← Nat.xor_assoc]
theorem join_three (a b c n m : Nat) : join (join a b n) c m = join a (join b c m) (n + m) := by
  unfold join
  rw [steps_xor, Nat.mul_add, steps_add, Nat.xor_assoc]

/-- Byte by byte: three texts together. -/
def zip2 (a b : List Nat) : List Nat := List.zipWith (· ^^^ ·) a b
theorem bytes_zip2 (a b : List Nat) (ha : Bytes a) (hb : Bytes b) : Bytes (zip2 a b) := by
  induction a generalizing b with
  | nil => intro x hx; simp [zip2] at hx
  | cons x a ih => cases b with
    | nil => intro x hx; simp [zip2] at hx
    | cons y b =>
      intro z hz
      simp only [zip2, List.zipWith_cons_cons, List.mem_cons] at hz
      rcases hz with rfl | hz
      · exact Nat.xor_lt_two_pow (n := 8) (ha x (List.mem_cons_self ..)) (hb y (List.mem_cons_self ..))
      · exact ih b (fun z hz => ha z (List.mem_cons_of_mem _ hz)) (fun z hz => hb z (List.mem_cons_of_mem _ hz)) z hz
theorem le_zip2 (a b : List Nat) (ha : Bytes a) (hb : Bytes b) (h : a.length = b.length) : le (zip2 a b) = le a ^^^ le b := by
  induction a generalizing b with
  | nil => cases b with
    | nil => rfl
    | cons _ _ => simp at h
  | cons x a ih => cases b with
    | nil => simp at h
    | cons y b =>
      have hx : x < 2 ^ 8 := ha x (List.mem_cons_self ..)
      have hy : y < 2 ^ 8 := hb y (List.mem_cons_self ..)
      have e := ih b (fun z hz => ha z (List.mem_cons_of_mem _ hz)) (fun z hz => hb z (List.mem_cons_of_mem _ hz)) (by simpa using h)
      show (x ^^^ y) + 2 ^ 8 * le (zip2 a b) = (x + 2 ^ 8 * le a) ^^^ (y + 2 ^ 8 * le b)
      rw [e, split_xor 8 _ _ (Nat.xor_lt_two_pow hx hy), split_xor 8 x _ hx, split_xor 8 y _ hy]
      apply Nat.eq_of_testBit_eq
      intro i
      simp only [Nat.testBit_xor, Nat.testBit_two_pow_mul]
      cases decide (i ≥ 8) <;> cases x.testBit i <;> cases y.testBit i <;> cases (le a).testBit (i - 8) <;> cases (le b).testBit (i - 8) <;> rfl
theorem linear (a b c : List Nat) (ha : Bytes a) (hb : Bytes b) (hc : Bytes c) (h1 : a.length = b.length) (h2 : b.length = c.length) :
    more 0 (zip2 (zip2 a b) c) = more 0 a ^^^ more 0 b ^^^ more 0 c := by
  have hl : (zip2 a b).length = a.length := by simp [zip2, h1]
  have hl2 : (zip2 (zip2 a b) c).length = a.length := by simp [zip2, h1, h2]
  unfold more
  rw [Nat.zero_xor, fold_is _ (bytes_zip2 _ _ (bytes_zip2 _ _ ha hb) hc), fold_is a ha, fold_is b hb, fold_is c hc, le_zip2 _ _ (bytes_zip2 _ _ ha hb) hc (by omega), le_zip2 _ _ ha hb h1, hl2, ← h1, ← h2, ← h1]
  simp only [steps_xor]
  apply Nat.eq_of_testBit_eq
  intro i
  simp only [Nat.testBit_xor]
  generalize (steps (8 * a.length) F).testBit i = u
  generalize (steps (8 * a.length) (le a)).testBit i = p
  generalize (steps (8 * a.length) (le b)).testBit i = q
  generalize (steps (8 * a.length) (le c)).testBit i = r
  generalize F.testBit i = v
  cases u <;> cases p <;> cases q <;> cases r <;> cases v <;> rfl

/-- A burst: what is turned is told. -/
theorem burst (s t : List Nat) (hs : Bytes s) (ht : Bytes t) (hl : t.length = s.length) (at_ i B : Nat) (hi : at_ + i ≤ 8 * s.length) (hB : B < 2 ^ i) (hi32 : i ≤ 32)
    (h : le t = le s ^^^ (2 ^ at_ * B)) : t = s ↔ more 0 t = more 0 s := by
  constructor
  · rintro rfl; rfl
  · intro h1
    have h2 := xor_cancel h1
    rw [fold_is t ht, fold_is s hs, hl, h, ← Nat.xor_assoc, steps_xor _ (0 ^^^ F ^^^ le s)] at h2
    have h3 : steps (8 * s.length) (2 ^ at_ * B) = 0 := by
      have : (steps (8 * s.length) (0 ^^^ F ^^^ le s) ^^^ steps (8 * s.length) (2 ^ at_ * B)) ^^^ steps (8 * s.length) (0 ^^^ F ^^^ le s) = 0 := by
        rw [h2, Nat.xor_self]
      rw [Nat.xor_comm, ← Nat.xor_assoc, Nat.xor_self, Nat.zero_xor] at this
      exact this
    rw [steps_shift _ _ _ (by omega)] at h3
    have hB32 : B < 2 ^ 32 := Nat.lt_of_lt_of_le hB (Nat.pow_le_pow_right (by omega) hi32)
    have hz := steps_eq_zero _ _ hB32 h3
    rw [hz, Nat.mul_zero, Nat.xor_zero] at h
    exact le_inj t s ht hs hl h

set_option maxRecDepth 10000 in
theorem known : more 0 [49, 50, 51, 52, 53, 54, 55, 56, 57] = 0xcbf43926 := by decide +kernel
theorem known_more : more (more 0 [49, 50, 51, 52]) [53, 54, 55, 56, 57] = 0xcbf43926 := by rw [more_append]; exact known
theorem known_join : join (more 0 [49, 50, 51, 52]) (more 0 [53, 54, 55, 56, 57]) 5 = 0xcbf43926 := by
  exact (join_is [49, 50, 51, 52] [53, 54, 55, 56, 57] (by unfold Bytes; decide)).trans known
end Crc
end Go.Proofs.YtkeglkneobngnaaDoor

namespace Go.Proofs.YtkeglkneobngnaaDoor
open Go.RowKit

/-- A text's bytes, as numbers. -/
def bs (s : ByteArray) : List Nat := s.data.toList.map UInt8.toNat
theorem bs_length (s : ByteArray) : (bs s).length = s.size := by simp [bs]
theorem bs_bytes (s : ByteArray) : Crc.Bytes (bs s) := by
  intro b hb
  obtain ⟨u, _, rfl⟩ := List.mem_map.1 hb
  exact u.toNat_lt
theorem bs_take_succ (s : ByteArray) (k : Nat) (h : k < s.size) : (bs s).take (k + 1) = (bs s).take k ++ [s[k].toNat] := by
  rw [List.take_succ_eq_append_getElem (by rw [bs_length]; exact h)]
  congr 2
  simp [bs]; rfl

theorem bs_append (a b : ByteArray) : bs (a ++ b) = bs a ++ bs b := by simp [bs]

theorem bs_getD (s : ByteArray) (k : Nat) (h : k < s.size) : (bs s).getD k 0 = s[k].toNat := by
  have hd : k < s.data.size := h
  unfold bs
  rw [List.getD_eq_getElem?_getD, List.getElem?_map, Array.getElem?_toList, Array.getElem?_eq_getElem hd]
  rfl
theorem bs_extract (s : ByteArray) (a b : Nat) : bs (s.extract a b) = ((bs s).take b).drop a := by
  unfold bs
  rw [ByteArray.data_extract, Array.toList_extract, List.extract_eq_take_drop, List.drop_take, List.map_take, List.map_drop]

def rowV (l : List Nat) : Array Value := (l.map fun b : Nat => Value.int .u8 (b : Int)).toArray
theorem rowV_size (l : List Nat) : (rowV l).size = l.length := by simp [rowV]
theorem rowV_get (l : List Nat) (i : Nat) (h : i < l.length) : (rowV l)[i]? = some (.int .u8 ((l.getD i 0 : Nat) : Int)) := by
  simp [rowV, h]
theorem rowV_set (l : List Nat) (i b : Nat) : (rowV l).setIfInBounds i (.int .u8 (b : Int)) = rowV (l.set i b) := by
  simp [rowV, List.map_set]
def zerosL (n : Nat) : List Nat := List.replicate n 0
theorem madeCells_bytes (n : Nat) : madeCells (Value.cells (.int .u8 0)) (n * 1) = rowV (zerosL n) := by
  apply Array.ext
  · rw [size_madeCells, rowV_size]; simp [zerosL]
  · intro i h1 h2
    simp [madeCells, Value.cells, rowV, zerosL, Nat.mod_one]

theorem info_u8 : (Tryd.prog.info? 5).map (fun i => (i.zero, i.size, i.bytes)) = some (some (.int .u8 0), 1, 1) := by kernel_rfl
theorem make_bytes (n : Nat) (h : n ≤ 140737488351232) (W : World) :
    (Instr.makeSlice 50 (.int .i64 n) (.int .i64 n)).run Tryd.prog W = .ok (.slice (some ⟨W.heap.size, 0, none⟩) n n) (W.alloc (.cells (rowV (zerosL n)) 5)) := by
  obtain ⟨i0, hi, hz0, hz1, hz2⟩ := info_parts info_u8
  have := run_make (P := Tryd.prog) W 50 5 i0 (.int .u8 0) Tryd.underlying50 hi hz0 .i64 .i64 n n (by omega) (by omega) (by rw [hz2]; omega) (by omega)
  rw [this]
  simp only [Int.toNat_natCast, hz1, madeCells_bytes]

theorem empty_list : ByteArray.empty.data.toList = [] := rfl
theorem push_data (l : List Nat) (r : ByteArray) : ((l.map Int.ofNat).foldl (fun r n => r.push (UInt8.ofNat n.toNat)) r).data.toList = r.data.toList ++ l.map UInt8.ofNat := by
  induction l generalizing r with
  | nil => simp
  | cons b l ih => simp only [List.map_cons, List.foldl_cons]; rw [ih]; simp [ByteArray.push]
/-- The text of a list of bytes. -/
def txt (l : List Nat) : ByteArray := (l.map Int.ofNat).foldl (fun r n => r.push (UInt8.ofNat n.toNat)) ByteArray.empty
theorem bs_txt (l : List Nat) (h : Crc.Bytes l) : bs (txt l) = l := by
  unfold bs txt
  rw [push_data, empty_list, List.nil_append, List.map_map]
  conv => rhs; rw [← List.map_id l]
  apply List.map_congr_left
  intro b hb
  have := h b hb
  simp [Nat.mod_eq_of_lt this]
theorem txt_bs (s : ByteArray) : txt (bs s) = s := by
  apply ByteArray.ext
  apply Array.toList_inj.1
  unfold txt
  rw [push_data, empty_list, List.nil_append]
  unfold bs
  rw [List.map_map]
  conv => rhs; rw [← List.map_id s.data.toList]
  apply List.map_congr_left
  intro u _
  simp
theorem bs_inj {a b : ByteArray} (h : bs a = bs b) : a = b := by rw [← txt_bs a, h, txt_bs]
theorem txt_size (l : List Nat) : (txt l).size = l.length := by
  have : (txt l).data.toList.length = l.length := by unfold txt; rw [push_data, empty_list]; simp
  simpa using this
theorem text_of_row {W : World} {b n : Nat} {l : List Nat} (h : W.heap[b]? = some (.cells (rowV l) 5 (0, 0))) (hn : l.length = n) :
    (convert 50 9 (.slice (some ⟨b, 0, none⟩) n n)).run Tryd.prog W = .ok (.string (txt l)) W := by
  rw [run_convert_bytes_string W _ _ _ _ _ _ Tryd.underlying50 Tryd.underlying5 Tryd.underlying9]
  have hl : (loadCells ⟨b, 0, none⟩ n).run Tryd.prog W = .ok ((l.map Int.ofNat).map (Value.int .u8)).toArray W := by
    have := run_loadCells_list (P := Tryd.prog) W ⟨b, 0, none⟩ ((l.map Int.ofNat).map (Value.int .u8)) (fun j v hv => by
      have hadd : (⟨b, 0, none⟩ : Addr).add j = ⟨b, j, none⟩ := by unfold Addr.add; split <;> simp_all
      rw [hadd, cell_of_row W b j _ _ _ h]
      simpa [rowV] using hv)
    simpa [hn] using this
  exact run_bytesToString W ⟨b, 0, none⟩ n n (l.map Int.ofNat) hl
/-- The bytes l stand at a block's head, and may be written. -/
def RowAt (w : World) (b : Nat) (l : List Nat) : Prop := ∀ j : Nat, j < l.length → w.cell? ⟨b, j, none⟩ = some (.int .u8 ((l.getD j 0 : Nat) : Int)) ∧ w.frozen? ⟨b, j, none⟩ = false
theorem RowAt.drew {w : World} {b : Nat} {l : List Nat} (h : RowAt w b l) : RowAt w.drew b l := h
theorem RowAt.set {w : World} {b : Nat} {l : List Nat} (h : RowAt w b l) (k v : Nat) : RowAt (w.setCell ⟨b, k, none⟩ (.int .u8 (v : Int))) b (l.set k v) := fun j hj => by
  rw [List.length_set] at hj
  obtain ⟨h1, h2⟩ := h j hj
  refine ⟨?_, by simpa using h2⟩
  by_cases e : k = j
  · subst e
    rw [World.cell?_setCell_same _ _ _ h1]
    simp [hj]
  · rw [World.cell?_setCell_other _ _ _ _ (by intro g; cases g; exact e rfl), h1]
    simp [List.getD_eq_getElem?_getD, List.getElem?_set_ne e]
theorem RowAt.text {w : World} {b n c : Nat} {l : List Nat} (h : RowAt w b l) (hn : l.length = n) :
    (convert 50 9 (.slice (some ⟨b, 0, none⟩) n c)).run Tryd.prog w = .ok (.string (txt l)) w := by
  rw [run_convert_bytes_string w _ _ _ _ _ _ Tryd.underlying50 Tryd.underlying5 Tryd.underlying9]
  have hl : (loadCells ⟨b, 0, none⟩ n).run Tryd.prog w = .ok ((l.map Int.ofNat).map (Value.int .u8)).toArray w := by
    have := run_loadCells_list (P := Tryd.prog) w ⟨b, 0, none⟩ ((l.map Int.ofNat).map (Value.int .u8)) (fun j v hv => by
      have hadd : (⟨b, 0, none⟩ : Addr).add j = ⟨b, j, none⟩ := by unfold Addr.add; split <;> simp_all
      have hj : j < l.length := by
        have := (List.getElem?_eq_some_iff.1 hv).1
        simpa using this
      rw [hadd, (h j hj).1]
      simpa [hj] using hv)
    simpa [hn] using this
  exact run_bytesToString w ⟨b, 0, none⟩ n c (l.map Int.ofNat) hl

theorem RowAt.ofText (w : World) (s : ByteArray) : RowAt (Lib.bytesWorld w 5 s) w.heap.size (bs s) := fun j hj => by
  rw [bs_length] at hj
  refine ⟨?_, ?_⟩
  · rw [Lib.bytesWorld_cell w _ s j hj]
    have hd : j < s.data.size := hj
    unfold bs
    rw [List.getD_eq_getElem?_getD, List.getD_eq_getElem?_getD, List.getElem?_map, Array.getElem?_toList, Array.getElem?_eq_getElem hd]
    rfl
  · have hn := Lib.bytesWorld_at_new w 5 s
    have hsz : s.size ≤ (Lib.bytesCells w 5 s).size := by simp [Lib.bytesCells]
    simp [World.frozen?, hn]
    omega
theorem below_ofText (w : World) (s : ByteArray) : Below w.heap.size w (Lib.bytesWorld w 5 s) :=
  ⟨rfl, rfl, rfl, by rw [Lib.bytesWorld_size]; omega, fun k hk => Lib.bytesWorld_at_old w _ s k hk⟩
end Go.Proofs.YtkeglkneobngnaaDoor

namespace Go.Proofs.YtkeglkneobngnaaDoor
namespace Vy

/-- A number's bytes. -/
def enc (n : Nat) : List Nat := if n < 128 then [n] else (n % 128 + 128) :: enc (n / 128)
termination_by n
decreasing_by omega

theorem enc_small {n : Nat} (h : n < 128) : enc n = [n] := by rw [enc, if_pos h]
theorem enc_big {n : Nat} (h : ¬ n < 128) : enc n = (n % 128 + 128) :: enc (n / 128) := by rw [enc, if_neg h]
theorem enc_ne (n : Nat) : enc n ≠ [] := by rw [enc]; split <;> simp
theorem enc_bytes (n : Nat) : ∀ b ∈ enc n, b < 256 := by
  induction n using Nat.strongRecOn with
  | ind n ih =>
    by_cases h : n < 128
    · rw [enc_small h]; intro b hb; rw [List.mem_singleton.1 hb]; omega
    · rw [enc_big h]; intro b hb
      rcases List.mem_cons.1 hb with rfl | hb
      · omega
      · exact ih (n / 128) (by omega) b hb
theorem enc_len (n : Nat) : ∀ k, n < 128 ^ (k + 1) → (enc n).length ≤ k + 1 := by
  intro k
  induction k generalizing n with
  | zero => intro h; rw [enc_small (by simpa using h)]; simp
  | succ k ih =>
    intro h
    by_cases h1 : n < 128
    · rw [enc_small h1]; simp
    · rw [enc_big h1, List.length_cons]
      have : n / 128 < 128 ^ (k + 1) := by
        rw [Nat.pow_succ] at h
        exact Nat.div_lt_of_lt_mul (by rw [Nat.mul_comm]; exact h)
      have := ih (n / 128) this
      omega
theorem enc_len10 (n : Nat) (h : n < 2 ^ 64) : (enc n).length ≤ 10 := enc_len n 9 (Nat.lt_of_lt_of_le h (by decide))
theorem enc_len_pos (n : Nat) : 0 < (enc n).length := List.length_pos_iff.2 (enc_ne n)

/-- What bytes stand for. -/
def val : List Nat → Nat
  | [] => 0
  | b :: l => b % 128 + 128 * val l
theorem val_enc (n : Nat) : val (enc n) = n := by
  induction n using Nat.strongRecOn with
  | ind n ih =>
    by_cases h : n < 128
    · rw [enc_small h]; simp [val]; omega
    · rw [enc_big h, val, ih (n / 128) (by omega)]; omega
theorem enc_inj {a b : Nat} (h : enc a = enc b) : a = b := by rw [← val_enc a, h, val_enc]

/-- The first byte below 128 is the last one. -/
theorem enc_get (n : Nat) : ∀ i, i < (enc n).length → ((enc n).getD i 0 < 128 ↔ i + 1 = (enc n).length) := by
  induction n using Nat.strongRecOn with
  | ind n ih =>
    intro i hi
    by_cases h : n < 128
    · rw [enc_small h] at hi ⊢
      have : i = 0 := by simpa using hi
      subst this; simp; exact h
    · rw [enc_big h] at hi ⊢
      cases i with
      | zero =>
        have := enc_len_pos (n / 128)
        show (n % 128 + 128 < 128 ↔ 0 + 1 = (enc (n / 128)).length + 1)
        omega
      | succ i =>
        have := ih (n / 128) (by omega) i (by simpa using hi)
        simpa using this
/-- None begins another one. -/
theorem enc_prefix {a b : Nat} {l : List Nat} (ha : enc a <+: l) (hb : enc b <+: l) : a = b := by
  obtain ⟨r, rfl⟩ := ha
  have key : ∀ (a b : Nat) (r : List Nat), enc b <+: enc a ++ r → a = b := by
    intro a
    induction a using Nat.strongRecOn with
    | ind a ih =>
      intro b r hp
      by_cases h : a < 128
      · rw [enc_small h] at hp
        by_cases h2 : b < 128
        · rw [enc_small h2] at hp
          have := List.cons_prefix_cons.1 hp
          omega
        · rw [enc_big h2] at hp
          have := (List.cons_prefix_cons.1 hp).1
          omega
      · rw [enc_big h] at hp
        by_cases h2 : b < 128
        · rw [enc_small h2] at hp
          have := (List.cons_prefix_cons.1 hp).1
          omega
        · rw [enc_big h2, List.cons_append] at hp
          have h3 := List.cons_prefix_cons.1 hp
          have := ih (a / 128) (by omega) (b / 128) r h3.2
          omega
  exact key a b r hb

/-- Bytes of which the last one alone is below 128, and that one 0 only if it is alone, are a number's. -/
theorem enc_val (l : List Nat) (h0 : l ≠ []) (hb : ∀ i, i + 1 < l.length → 128 ≤ l.getD i 0 ∧ l.getD i 0 < 256) (hl : l.getD (l.length - 1) 0 < 128) (hz : l.length = 1 ∨ l.getD (l.length - 1) 0 ≠ 0) : enc (val l) = l := by
  induction l with
  | nil => exact absurd rfl h0
  | cons b l ih =>
    cases l with
    | nil =>
      simp at hl
      simp only [val]
      rw [Nat.mul_zero, Nat.add_zero, Nat.mod_eq_of_lt hl, enc_small hl]
    | cons c l =>
      have e := ih (by simp) (fun i hi => by have := hb (i + 1) (by simpa using hi); simpa using this) (by simpa using hl) (by
        right
        rcases hz with hz | hz
        · simp at hz
        · simpa using hz)
      have h1 := hb 0 (by simp)
      simp at h1
      have hpos : 0 < val (c :: l) := by
        rcases Nat.eq_zero_or_pos (val (c :: l)) with hv | hv
        · rw [hv, enc_small (by omega)] at e
          have e1 : l = [] := by simpa using (List.cons.inj e).2.symm
          have e2 : c = 0 := (List.cons.inj e).1.symm
          subst e1; subst e2
          rcases hz with hz | hz
          · simp at hz
          · simp at hz
        · exact hv
      rw [val]
      rw [enc_big (by omega), show (b % 128 + 128 * val (c :: l)) / 128 = val (c :: l) by omega, e]
      congr 1
      omega
end Vy
end Go.Proofs.YtkeglkneobngnaaDoor

namespace Go.Proofs.YtkeglkneobngnaaDoor
open Go.RowKit

/-- A number's bytes begin a list. -/
def Reads (l : List Nat) (n : Nat) : Prop := n < 2 ^ 64 ∧ Vy.enc n <+: l
/-- What ReadNum says of the bytes l that stand from at on. -/
def RN (l : List Nat) (at_ rn rnext re : Nat) : Prop := (Reads l rn ∧ rnext = at_ + (Vy.enc rn).length ∧ re = 0) ∨ ((∀ n, ¬ Reads l n) ∧ rn = 0 ∧ rnext = 0 ∧ re = 3)

/-- The first k bytes are 128 or more. -/
def Big (l : List Nat) (k : Nat) : Prop := ∀ i, i < k → i < l.length → 128 ≤ l.getD i 0
theorem Big.zero (l : List Nat) : Big l 0 := fun i hi => by omega
theorem Big.succ {l : List Nat} {k : Nat} (h : Big l k) (hb : 128 ≤ l.getD k 0) : Big l (k + 1) := fun i hi hl => by
  by_cases e : i = k
  · subst e; exact hb
  · exact h i (by omega) hl
theorem prefix_getD {a l : List Nat} (h : a <+: l) (i : Nat) (hi : i < a.length) : l.getD i 0 = a.getD i 0 := by
  obtain ⟨r, rfl⟩ := h
  simp [List.getD_eq_getElem?_getD, List.getElem?_append_left hi]
theorem Reads.len {l : List Nat} {n : Nat} (h : Reads l n) : (Vy.enc n).length ≤ 10 ∧ (Vy.enc n).length ≤ l.length ∧ 0 < (Vy.enc n).length :=
  ⟨Vy.enc_len10 n h.1, h.2.length_le, Vy.enc_len_pos n⟩
theorem Reads.past {l : List Nat} {n k : Nat} (h : Reads l n) (hb : Big l k) : k < (Vy.enc n).length := by
  obtain ⟨h1, h2, h3⟩ := h.len
  rcases Nat.lt_or_ge k (Vy.enc n).length with hk | hk
  · exact hk
  · have hi : (Vy.enc n).length - 1 < (Vy.enc n).length := by omega
    have h4 := hb ((Vy.enc n).length - 1) (by omega) (by omega)
    rw [prefix_getD h.2 _ hi] at h4
    have := (Vy.enc_get n _ hi).2 (by omega)
    omega
theorem Reads.at {l : List Nat} {n k : Nat} (h : Reads l n) (hb : Big l k) (hs : l.getD k 0 < 128) : (Vy.enc n).length = k + 1 ∧ l.take (k + 1) = Vy.enc n := by
  have hk := h.past hb
  rw [prefix_getD h.2 _ hk] at hs
  have e := (Vy.enc_get n k hk).1 hs
  exact ⟨e.symm, by rw [e]; exact (List.prefix_iff_eq_take.1 h.2).symm⟩
theorem RN.none {l : List Nat} {at_ rn rnext re k : Nat} (h : RN l at_ rn rnext re) (hb : Big l k) (hk : 10 ≤ k ∨ l.length ≤ k) : rn = 0 ∧ rnext = 0 ∧ re = 3 := by
  rcases h with ⟨h, _⟩ | ⟨_, h⟩
  · have := h.past hb; have := h.len; omega
  · exact h

theorem RN.found {l : List Nat} {at_ rn rnext re k nn : Nat} (h : RN l at_ rn rnext re) (hb : Big l k) (hs : l.getD k 0 < 128) (hn : Vy.val (l.take (k + 1)) % 2 ^ 64 = nn) :
    (Vy.enc nn = l.take (k + 1) ∧ rn = nn ∧ rnext = at_ + (Vy.enc nn).length ∧ re = 0) ∨ (Vy.enc nn ≠ l.take (k + 1) ∧ rn = 0 ∧ rnext = 0 ∧ re = 3) := by
  have hlt : nn < 2 ^ 64 := by rw [← hn]; exact Nat.mod_lt _ (by decide)
  rcases h with ⟨h, h1, h2⟩ | ⟨h, h1⟩
  · left
    have e := (h.at hb hs).2
    rw [e, Vy.val_enc, Nat.mod_eq_of_lt h.1] at hn
    subst hn
    exact ⟨e.symm, rfl, h1, h2⟩
  · right
    exact ⟨fun e => h nn ⟨hlt, by rw [e]; exact List.take_prefix _ _⟩, h1⟩
theorem val_step (l : List Nat) (i v : Nat) (hv : Vy.val (l.drop (i + 1)) % 2 ^ 64 = v) (hi : i < l.length) :
    IntKind.u64.wrap (IntKind.u64.wrap ((v : Int) * 128) + ((l.getD i 0 : Nat) : Int) % 128) = ((Vy.val (l.drop i) % 2 ^ 64 : Nat) : Int) := by
  have e : Vy.val (l.drop i) = l.getD i 0 % 128 + 128 * Vy.val (l.drop (i + 1)) := by
    rw [List.drop_eq_getElem_cons hi, Vy.val, List.getD_eq_getElem?_getD, List.getElem?_eq_getElem hi]; rfl
  rw [e, IntKind.wrap_u64, IntKind.wrap_u64, ← hv]
  omega

/-- A number below 0, too, as one that isn't; and back. -/
def zz (n : Int) : Nat := if 0 ≤ n then (2 * n).toNat else (2 * (-(n + 1)) + 1).toNat
def uz (n : Nat) : Int := if n % 2 = 1 then -((n / 2 : Nat) : Int) - 1 else ((n / 2 : Nat) : Int)
theorem zz_lt (n : Int) (h1 : -9223372036854775808 ≤ n) (h2 : n ≤ 9223372036854775807) : zz n < 2 ^ 64 := by unfold zz; split <;> omega
theorem uz_zz (n : Int) : uz (zz n) = n := by unfold uz zz; split <;> split <;> omega

theorem uz_range (n : Nat) (h : n < 2 ^ 64) : -9223372036854775808 ≤ uz n ∧ uz n ≤ 9223372036854775807 := by unfold uz; split <;> omega

/-- What ReadText says of a text s at a. -/
def RT (s : ByteArray) (a : Nat) (t : ByteArray) (rnext re : Nat) : Prop :=
  (∃ n, Reads ((bs s).drop a) n ∧ n ≤ s.size - (a + (Vy.enc n).length) ∧ t = s.extract (a + (Vy.enc n).length) (a + (Vy.enc n).length + n) ∧ rnext = a + (Vy.enc n).length + n ∧ re = 0) ∨
  ((∀ n, Reads ((bs s).drop a) n → s.size - (a + (Vy.enc n).length) < n) ∧ t = txt [] ∧ rnext = 0 ∧ re = 3)

theorem RN.exists (l : List Nat) (a : Nat) : ∃ rn rnext re, RN l a rn rnext re ∧ rn < 2 ^ 64 := by
  by_cases h : ∃ n, Reads l n
  · obtain ⟨n, h⟩ := h
    exact ⟨n, _, 0, Or.inl ⟨h, rfl, rfl⟩, h.1⟩
  · exact ⟨0, 0, 3, Or.inr ⟨fun n hn => h ⟨n, hn⟩, rfl, rfl, rfl⟩, by decide⟩
theorem RT.exists (s : ByteArray) (a : Nat) : ∃ t rnext re, RT s a t rnext re := by
  by_cases h : ∃ n, Reads ((bs s).drop a) n ∧ n ≤ s.size - (a + (Vy.enc n).length)
  · obtain ⟨n, h, h2⟩ := h
    exact ⟨_, _, 0, Or.inl ⟨n, h, h2, rfl, rfl, rfl⟩⟩
  · exact ⟨_, 0, 3, Or.inr ⟨fun n hn => Nat.lt_of_not_le fun h2 => h ⟨n, hn, h2⟩, rfl, rfl, rfl⟩⟩
end Go.Proofs.YtkeglkneobngnaaDoor

namespace Go.Proofs.YtkeglkneobngnaaDoor
open Go.RowKit

abbrev WPart := Nat × ByteArray
/-- A sum's four bytes. -/
def four (c : Nat) : List Nat := [c % 256, c / 256 % 256, c / 65536 % 256, c / 16777216 % 256]
theorem four_length (c : Nat) : (four c).length = 4 := rfl
theorem four_bytes (c : Nat) : Crc.Bytes (four c) := by intro b hb; simp [four] at hb; omega
theorem four_inj {a b : Nat} (ha : a < 2 ^ 32) (hb : b < 2 ^ 32) (h : four a = four b) : a = b := by
  simp only [four, List.cons.injEq, and_true] at h; omega
/-- A list of bytes with its sum behind it. -/
def sealed (l : List Nat) : List Nat := l ++ four (Crc.more 0 l)
theorem sealed_length (l : List Nat) : (sealed l).length = l.length + 4 := by simp [sealed, four_length]
theorem sealed_bytes {l : List Nat} (h : Crc.Bytes l) : Crc.Bytes (sealed l) := fun b hb => by
  rcases List.mem_append.1 hb with hb | hb
  · exact h b hb
  · exact four_bytes _ b hb
def partL (p : WPart) : List Nat := p.1 :: (Vy.enc p.2.size ++ bs p.2)
theorem partL_length (p : WPart) : (partL p).length = 1 + (Vy.enc p.2.size).length + p.2.size := by simp [partL, bs_length]; omega
def partsL (ps : List WPart) : List Nat := ps.flatMap fun p => sealed (partL p)
theorem partsL_cons (p : WPart) (ps : List WPart) : partsL (p :: ps) = sealed (partL p) ++ partsL ps := rfl
theorem partsL_append (a b : List WPart) : partsL (a ++ b) = partsL a ++ partsL b := by simp [partsL]
def headL (k : Nat) (ps : List WPart) : List Nat := 83 :: 76 :: 87 :: k :: (Vy.enc ps.length ++ partsL ps)
def wholeL (k : Nat) (ps : List WPart) : List Nat := sealed (headL k ps)
/-- A tag that may come behind another one. -/
def Above (last : Option Nat) (t : Nat) : Prop := ∀ x, last = some x → x < t
/-- The tags are bytes that rise. -/
def Rises : Option Nat → List WPart → Prop
  | _, [] => True
  | last, p :: ps => Above last p.1 ∧ p.1 < 256 ∧ Rises (some p.1) ps
def Small (ps : List WPart) : Prop := ∀ p ∈ ps, p.2.size ≤ 60000
def Good (ps : List WPart) : Prop := ps.length ≤ 40 ∧ Small ps ∧ Rises none ps
theorem Rises.tag {last : Option Nat} {ps : List WPart} (h : Rises last ps) : ∀ p ∈ ps, p.1 < 256 := by
  induction ps generalizing last with
  | nil => intro p hp; cases hp
  | cons q ps ih =>
    intro p hp
    rcases List.mem_cons.1 hp with rfl | hp
    · exact h.2.1
    · exact ih h.2.2 p hp
theorem partL_bytes {p : WPart} (h : p.1 < 256) : Crc.Bytes (partL p) := fun b hb => by
  simp only [partL, List.mem_cons, List.mem_append] at hb
  rcases hb with rfl | hb | hb
  · exact h
  · exact Vy.enc_bytes _ b hb
  · exact bs_bytes _ b hb
theorem partsL_bytes {ps : List WPart} (h : ∀ p ∈ ps, p.1 < 256) : Crc.Bytes (partsL ps) := fun b hb => by
  obtain ⟨p, hp, hb⟩ := List.mem_flatMap.1 hb
  exact sealed_bytes (partL_bytes (h p hp)) b hb
theorem headL_bytes {k : Nat} {ps : List WPart} (hk : k < 256) (h : ∀ p ∈ ps, p.1 < 256) : Crc.Bytes (headL k ps) := fun b hb => by
  simp only [headL, List.mem_cons, List.mem_append] at hb
  rcases hb with rfl | rfl | rfl | rfl | hb | hb
  · decide
  · decide
  · decide
  · exact hk
  · exact Vy.enc_bytes _ b hb
  · exact partsL_bytes h b hb
theorem wholeL_bytes {k : Nat} {ps : List WPart} (hk : k < 256) (h : ∀ p ∈ ps, p.1 < 256) : Crc.Bytes (wholeL k ps) := sealed_bytes (headL_bytes hk h)

/-- The sum of the bytes from a to b stands at b. -/
def Fits (s : ByteArray) (a b : Nat) : Prop := bs (s.extract b (b + 4)) = four (Crc.more 0 (bs (s.extract a b)))

/-- What is read of the part that begins at a: its tag, its body, where the byte behind its sum stands, and the error. -/
def RP (s : ByteArray) (a t : Nat) (b : ByteArray) (nx re : Nat) : Prop :=
  (∃ e, a < s.size ∧ RT s (a + 1) b e 0 ∧ e + 4 ≤ s.size ∧ Fits s a e ∧ t = (bs s).getD a 0 ∧ nx = e + 4 ∧ re = 0) ∨
  (t = 0 ∧ b = txt [] ∧ nx = 0 ∧
    ((s.size ≤ a ∧ re = 3) ∨ (a < s.size ∧ RT s (a + 1) (txt []) 0 3 ∧ re = 3) ∨
     (∃ e b', a < s.size ∧ RT s (a + 1) b' e 0 ∧ s.size < e + 4 ∧ re = 3) ∨ (∃ e b', a < s.size ∧ RT s (a + 1) b' e 0 ∧ e + 4 ≤ s.size ∧ ¬ Fits s a e ∧ re = 15)))
theorem RT.le {s : ByteArray} {a e : Nat} {b : ByteArray} (h : RT s a b e 0) (ha : a ≤ s.size) : a < e ∧ e ≤ s.size ∧ b.size ≤ s.size := by
  rcases h with ⟨n, h1, h2, h3, h4, _⟩ | ⟨_, _, _, h⟩
  · have hl := h1.len
    rw [List.length_drop, bs_length] at hl
    refine ⟨by omega, by omega, ?_⟩
    rw [h3, ByteArray.size_extract]; omega
  · cases h
theorem RP.exists (s : ByteArray) (a : Nat) : ∃ t b nx re, RP s a t b nx re := by
  by_cases ha : a < s.size
  · obtain ⟨b, e, re, h⟩ := RT.exists s (a + 1)
    rcases h with h | h
    · have h0 : RT s (a + 1) b e 0 := by
        obtain ⟨n, h1, h2, h3, h4, _⟩ := h
        exact Or.inl ⟨n, h1, h2, h3, h4, rfl⟩
      by_cases h4 : e + 4 ≤ s.size
      · by_cases hf : Fits s a e
        · exact ⟨_, b, _, 0, Or.inl ⟨e, ha, h0, h4, hf, rfl, rfl, rfl⟩⟩
        · exact ⟨0, txt [], 0, 15, Or.inr ⟨rfl, rfl, rfl, Or.inr (Or.inr (Or.inr ⟨e, b, ha, h0, h4, hf, rfl⟩))⟩⟩
      · exact ⟨0, txt [], 0, 3, Or.inr ⟨rfl, rfl, rfl, Or.inr (Or.inr (Or.inl ⟨e, b, ha, h0, by omega, rfl⟩))⟩⟩
    · have h0 : RT s (a + 1) (txt []) 0 3 := Or.inr ⟨h.1, rfl, rfl, rfl⟩
      exact ⟨0, txt [], 0, 3, Or.inr ⟨rfl, rfl, rfl, Or.inr (Or.inl ⟨ha, h0, rfl⟩)⟩⟩
  · exact ⟨0, txt [], 0, 3, Or.inr ⟨rfl, rfl, rfl, Or.inl ⟨by omega, rfl⟩⟩⟩

/-- What is read of n parts from a on, behind a last tag. -/
def PS (s : ByteArray) : Nat → Nat → Option Nat → List WPart → Nat → Prop
  | 0, a, _, ps, re => ps = [] ∧ ((a = s.size ∧ re = 0) ∨ (a ≠ s.size ∧ re = 3))
  | n + 1, a, last, ps, re => ∃ t b nx e, RP s a t b nx e ∧
      ((e ≠ 0 ∧ ps = [] ∧ re = e) ∨ (e = 0 ∧ ¬ Above last t ∧ ps = [] ∧ re = 10) ∨ (e = 0 ∧ Above last t ∧ ∃ ps', PS s n nx (some t) ps' re ∧ ps = if re = 0 then (t, b) :: ps' else []))
theorem PS.exists (s : ByteArray) : ∀ n a last, ∃ ps re, PS s n a last ps re := by
  intro n
  induction n with
  | zero =>
    intro a last
    by_cases h : a = s.size
    · exact ⟨[], 0, rfl, Or.inl ⟨h, rfl⟩⟩
    · exact ⟨[], 3, rfl, Or.inr ⟨h, rfl⟩⟩
  | succ n ih =>
    intro a last
    obtain ⟨t, b, nx, e, h⟩ := RP.exists s a
    by_cases he : e = 0
    · by_cases ht : Above last t
      · obtain ⟨ps, re, hp⟩ := ih nx (some t)
        exact ⟨_, re, t, b, nx, e, h, Or.inr (Or.inr ⟨he, ht, ps, hp, rfl⟩)⟩
      · exact ⟨[], 10, t, b, nx, e, h, Or.inr (Or.inl ⟨he, ht, rfl, rfl⟩)⟩
    · exact ⟨[], e, t, b, nx, e, h, Or.inl ⟨he, rfl, rfl⟩⟩

/-- What Open says of a text. -/
def OP (s : ByteArray) (k : Nat) (ps : List WPart) (re : Nat) : Prop :=
  (k = 0 ∧ ps = [] ∧ re = 3 ∧ (s.size < 8 ∨ ¬ [83, 76, 87] <+: bs s)) ∨
  (8 ≤ s.size ∧ [83, 76, 87] <+: bs s ∧
    ((¬ Fits s 0 (s.size - 4) ∧ k = 0 ∧ ps = [] ∧ re = 15) ∨
     (Fits s 0 (s.size - 4) ∧ ∃ n a e, RN ((bs (s.extract 0 (s.size - 4))).drop 4) 4 n a e ∧
       ((e = 3 ∧ n = 0 ∧ a = 0 ∧ k = 0 ∧ ps = [] ∧ re = 3) ∨ (e = 0 ∧ 40 < n ∧ k = 0 ∧ ps = [] ∧ re = 4) ∨
        (e = 0 ∧ n ≤ 40 ∧ PS (s.extract 0 (s.size - 4)) n a none ps re ∧ k = if re = 0 then (bs s).getD 3 0 else 0)))))
theorem OP.exists (s : ByteArray) : ∃ k ps re, OP s k ps re := by
  by_cases h8 : s.size < 8 ∨ ¬ [83, 76, 87] <+: bs s
  · exact ⟨0, [], 3, Or.inl ⟨rfl, rfl, rfl, h8⟩⟩
  · have h8' : 8 ≤ s.size ∧ [83, 76, 87] <+: bs s := ⟨by omega, Classical.byContradiction fun h => h8 (Or.inr h)⟩
    by_cases hf : Fits s 0 (s.size - 4)
    · obtain ⟨n, a, e, hR, _⟩ := RN.exists ((bs (s.extract 0 (s.size - 4))).drop 4) 4
      have hR' := hR
      rcases hR with ⟨_, _, rfl⟩ | ⟨_, rfl, rfl, rfl⟩
      · by_cases hn : n ≤ 40
        · obtain ⟨ps, re, hp⟩ := PS.exists (s.extract 0 (s.size - 4)) n a none
          exact ⟨_, ps, re, Or.inr ⟨h8'.1, h8'.2, Or.inr ⟨hf, n, a, 0, hR', Or.inr (Or.inr ⟨rfl, hn, hp, rfl⟩)⟩⟩⟩
        · exact ⟨0, [], 4, Or.inr ⟨h8'.1, h8'.2, Or.inr ⟨hf, n, a, 0, hR', Or.inr (Or.inl ⟨rfl, by omega, rfl, rfl, rfl⟩)⟩⟩⟩
      · exact ⟨0, [], 3, Or.inr ⟨h8'.1, h8'.2, Or.inr ⟨hf, 0, 0, 3, hR', Or.inl ⟨rfl, rfl, rfl, rfl, rfl, rfl⟩⟩⟩⟩
    · exact ⟨0, [], 15, Or.inr ⟨h8'.1, h8'.2, Or.inl ⟨hf, rfl, rfl, rfl⟩⟩⟩
end Go.Proofs.YtkeglkneobngnaaDoor

namespace Go.Proofs.YtkeglkneobngnaaDoor
open Go.RowKit

theorem drop_split (l : List Nat) (a b : Nat) (h : a ≤ b) : l.drop a = (l.take b).drop a ++ l.drop b := by
  conv => lhs; rw [← List.take_append_drop b l]
  by_cases hb : b ≤ l.length
  · rw [List.drop_append_of_le_length (by rw [List.length_take]; omega)]
  · rw [List.take_of_length_le (by omega), List.drop_of_length_le (show l.length ≤ b by omega), List.append_nil, List.append_nil]
theorem bs_drop_split (s : ByteArray) (a b : Nat) (h : a ≤ b) : (bs s).drop a = bs (s.extract a b) ++ (bs s).drop b := by
  rw [bs_extract]; exact drop_split _ a b h

theorem Reads.det {l : List Nat} {n m : Nat} (h : Reads l n) (k : Reads l m) : n = m := Vy.enc_prefix h.2 k.2
theorem RT.ok {s : ByteArray} {a e : Nat} {b : ByteArray} (h : RT s a b e 0) (ha : a ≤ s.size) : (bs s).drop a = Vy.enc b.size ++ bs b ++ (bs s).drop e ∧ e = a + (Vy.enc b.size).length + b.size := by
  rcases h with ⟨n, h1, h2, h3, h4, _⟩ | ⟨_, _, _, h⟩
  · have hl := h1.len
    rw [List.length_drop, bs_length] at hl
    have hb : b.size = n := by rw [h3, ByteArray.size_extract]; omega
    subst hb
    refine ⟨?_, h4⟩
    rw [bs_drop_split s a (a + (Vy.enc b.size).length) (by omega), bs_drop_split s (a + (Vy.enc b.size).length) e (by omega), ← List.append_assoc]
    congr 2
    · rw [bs_extract, List.drop_take, show a + (Vy.enc b.size).length - a = (Vy.enc b.size).length by omega]
      exact (List.prefix_iff_eq_take.1 h1.2).symm
    · rw [h4, ← h3]
  · cases h
theorem RT.mk {s : ByteArray} {a : Nat} {b : ByteArray} {r : List Nat} (h : (bs s).drop a = Vy.enc b.size ++ bs b ++ r) (ha : a ≤ s.size) (hb : b.size < 2 ^ 64) : RT s a b (a + (Vy.enc b.size).length + b.size) 0 := by
  have hl := congrArg List.length h
  rw [List.length_drop, bs_length, List.length_append, List.length_append, bs_length] at hl
  refine Or.inl ⟨b.size, ⟨hb, by rw [h, List.append_assoc]; exact List.prefix_append _ _⟩, by omega, ?_, rfl, rfl⟩
  apply bs_inj
  rw [bs_extract, List.drop_take, ← List.drop_drop, h, List.append_assoc, List.drop_left' rfl, show a + (Vy.enc b.size).length + b.size - (a + (Vy.enc b.size).length) = b.size by omega, List.take_left' (bs_length b)]
theorem RT.det {s : ByteArray} {a e f x y : Nat} {b c : ByteArray} (h : RT s a b e x) (k : RT s a c f y) : b = c ∧ e = f ∧ x = y := by
  rcases h with ⟨n, h1, h2, h3, h4, h5⟩ | ⟨h1, h2, h3, h4⟩
  · rcases k with ⟨m, k1, k2, k3, k4, k5⟩ | ⟨k1, _⟩
    · obtain rfl := h1.det k1
      exact ⟨by rw [h3, k3], by rw [h4, k4], by rw [h5, k5]⟩
    · have := k1 n h1; omega
  · rcases k with ⟨m, k1, k2, _⟩ | ⟨_, k2, k3, k4⟩
    · have := h1 m k1; omega
    · exact ⟨by rw [h2, k2], by rw [h3, k3], by rw [h4, k4]⟩

theorem drop_getD (s : ByteArray) (a : Nat) (h : a < s.size) : (bs s).drop a = (bs s).getD a 0 :: (bs s).drop (a + 1) := by
  have hl : a < (bs s).length := by rw [bs_length]; exact h
  rw [List.drop_eq_getElem_cons hl, List.getD_eq_getElem?_getD, List.getElem?_eq_getElem hl]; rfl
theorem RP.ok {s : ByteArray} {a t nx : Nat} {b : ByteArray} (h : RP s a t b nx 0) : a < s.size ∧ nx ≤ s.size ∧ a < nx ∧ t < 256 ∧ b.size ≤ s.size ∧ (bs s).drop a = sealed (partL (t, b)) ++ (bs s).drop nx := by
  rcases h with ⟨e, h1, h2, h3, h4, h5, h6, _⟩ | ⟨_, _, _, h⟩
  · obtain ⟨g1, g2⟩ := h2.ok (by omega)
    have hle := h2.le (by omega)
    have ht : t < 256 := by rw [h5, bs_getD s a h1]; exact s[a].toNat_lt
    refine ⟨h1, by omega, by omega, ht, hle.2.2, ?_⟩
    have hp : (bs s).drop a = partL (t, b) ++ (bs s).drop e := by
      rw [drop_getD s a h1, g1, ← h5]; simp [partL]
    have hx : bs (s.extract a e) = partL (t, b) := by
      have := bs_drop_split s a e (by omega)
      rw [hp] at this
      exact (List.append_cancel_right this).symm
    have h4' : bs (s.extract e (e + 4)) = four (Crc.more 0 (bs (s.extract a e))) := h4
    rw [hp, bs_drop_split s e (e + 4) (by omega), h4', hx, h6]
    simp [sealed]
  · rcases h with ⟨_, h⟩ | ⟨_, _, h⟩ | ⟨_, _, _, _, _, h⟩ | ⟨_, _, _, _, _, _, h⟩ <;> cases h
theorem RP.full {s : ByteArray} {a t nx re t' : Nat} {b b' : ByteArray} {r : List Nat} (h : (bs s).drop a = sealed (partL (t, b)) ++ r) (ha : a ≤ s.size) (hb : b.size < 2 ^ 64) (k : RP s a t' b' nx re) :
    t' = t ∧ b' = b ∧ nx = a + (sealed (partL (t, b))).length ∧ re = 0 ∧ (bs s).drop nx = r := by
  have hl := congrArg List.length h
  rw [List.length_drop, bs_length, List.length_append, sealed_length, partL_length] at hl
  have hl : s.size - a = 1 + (Vy.enc b.size).length + b.size + 4 + r.length := hl
  have h1 : a < s.size := by omega
  have hd := drop_getD s a h1
  rw [h] at hd
  have hd' : t :: (Vy.enc b.size ++ bs b ++ (four (Crc.more 0 (partL (t, b))) ++ r)) = (bs s).getD a 0 :: (bs s).drop (a + 1) := by
    rw [← hd]; simp [sealed, partL]
  obtain ⟨e1, e2⟩ := List.cons.inj hd'
  have hT := RT.mk (s := s) (a := a + 1) (b := b) e2.symm (by omega) hb
  generalize he : a + 1 + (Vy.enc b.size).length + b.size = e at hT
  have h3 : e + 4 ≤ s.size := by omega
  have hp : (bs s).drop a = partL (t, b) ++ (four (Crc.more 0 (partL (t, b))) ++ r) := by rw [h]; simp [sealed]
  have hx : bs (s.extract a e) = partL (t, b) ∧ (bs s).drop e = four (Crc.more 0 (partL (t, b))) ++ r := by
    have h5 := bs_drop_split s a e (by omega)
    rw [hp] at h5
    have hlen : (bs (s.extract a e)).length = (partL (t, b)).length := by
      rw [bs_length, ByteArray.size_extract, partL_length]
      show min e s.size - a = 1 + (Vy.enc b.size).length + b.size
      omega
    have := List.append_inj h5 hlen.symm
    exact ⟨this.1.symm, this.2.symm⟩
  have hF : Fits s a e ∧ (bs s).drop (e + 4) = r := by
    have h5 := bs_drop_split s e (e + 4) (by omega)
    rw [hx.2] at h5
    have hlen : (bs (s.extract e (e + 4))).length = (four (Crc.more 0 (partL (t, b)))).length := by
      rw [bs_length, ByteArray.size_extract, four_length]; omega
    have := List.append_inj h5 hlen.symm
    exact ⟨by unfold Fits; rw [hx.1]; exact this.1.symm, this.2.symm⟩
  have hsl : (sealed (partL (t, b))).length = 1 + (Vy.enc b.size).length + b.size + 4 := by rw [sealed_length, partL_length]
  rcases k with ⟨e', k1, k2, k3, k4, k5, k6, k7⟩ | ⟨_, _, _, k⟩
  · obtain ⟨g1, g2, _⟩ := k2.det hT
    subst g1; subst g2
    exact ⟨by rw [k5]; exact e1.symm, rfl, by rw [k6, hsl]; omega, k7, by rw [k6]; exact hF.2⟩
  · exfalso
    rcases k with ⟨k, _⟩ | ⟨_, k, _⟩ | ⟨e', b', _, k, k2, _⟩ | ⟨e', b', _, k, _, k2, _⟩
    · omega
    · have := (k.det hT).2.2; cases this
    · obtain ⟨_, g2, _⟩ := k.det hT; omega
    · obtain ⟨_, g2, _⟩ := k.det hT
      subst g2; exact k2 hF.1

theorem PS.ok {s : ByteArray} : ∀ {n a : Nat} {last : Option Nat} {ps : List WPart} {re : Nat}, PS s n a last ps re → re = 0 → a ≤ s.size → ps.length = n ∧ Rises last ps ∧ (∀ p ∈ ps, p.2.size ≤ s.size) ∧ (bs s).drop a = partsL ps := by
  intro n
  induction n with
  | zero =>
    intro a last ps re h hre ha
    obtain ⟨rfl, h⟩ := h
    rcases h with ⟨rfl, _⟩ | ⟨_, rfl⟩
    · exact ⟨rfl, trivial, (fun p hp => by cases hp), by rw [List.drop_of_length_le (by rw [bs_length]; exact Nat.le_refl _)]; rfl⟩
    · cases hre
  | succ n ih =>
    intro a last ps re h hre ha
    obtain ⟨t, b, nx, e, hp, h⟩ := h
    rcases h with ⟨h1, _, h2⟩ | ⟨_, _, _, h2⟩ | ⟨rfl, h1, ps', h2, h3⟩
    · exact absurd (h2.symm.trans hre) h1
    · rw [h2] at hre; cases hre
    · subst hre
      obtain ⟨g1, g2, g3, g4, g5, g6⟩ := hp.ok
      obtain ⟨i1, i2, i3, i4⟩ := ih h2 rfl g2
      rw [if_pos rfl] at h3
      subst h3
      refine ⟨by simp [i1], ⟨h1, g4, i2⟩, fun p hp => ?_, by rw [g6, i4, partsL_cons]⟩
      rcases List.mem_cons.1 hp with rfl | hp
      · exact g5
      · exact i3 p hp
theorem PS.full {s : ByteArray} : ∀ {ps : List WPart} {n a : Nat} {last : Option Nat} {ps' : List WPart} {re : Nat}, (bs s).drop a = partsL ps → a ≤ s.size → ps.length = n → Rises last ps → (∀ p ∈ ps, p.2.size < 2 ^ 64) → PS s n a last ps' re → ps' = ps ∧ re = 0 := by
  intro ps
  induction ps with
  | nil =>
    intro n a last ps' re hd ha hn hr hsz h
    subst hn
    obtain ⟨rfl, h⟩ := h
    rcases h with ⟨_, h⟩ | ⟨h, _⟩
    · exact ⟨rfl, h⟩
    · exfalso
      have := congrArg List.length hd
      rw [List.length_drop, bs_length] at this
      have h0 : (partsL []).length = 0 := rfl
      omega
  | cons p ps ih =>
    intro n a last ps' re hd ha hn hr hsz h
    subst hn
    obtain ⟨t, b, nx, e, hp, h⟩ := h
    rw [partsL_cons] at hd
    obtain ⟨g1, g2, g3, g4, g5⟩ := RP.full (t := p.1) (b := p.2) hd ha (hsz p (List.mem_cons_self ..)) hp
    subst g1; subst g2; subst g4
    have hnx : nx ≤ s.size := by
      have := congrArg List.length hd
      rw [List.length_drop, bs_length, List.length_append] at this
      have h0 : (sealed (partL (p.1, p.2))).length = (sealed (partL p)).length := rfl
      have h1 := sealed_length (partL p)
      omega
    rcases h with ⟨h1, _, _⟩ | ⟨_, h1, _⟩ | ⟨_, h1, ps'', h2, h3⟩
    · exact absurd rfl h1
    · exact absurd hr.1 h1
    · obtain ⟨i1, i2⟩ := ih g5 hnx rfl hr.2.2 (fun q hq => hsz q (List.mem_cons_of_mem _ hq)) h2
      subst i2
      rw [if_pos rfl, i1] at h3
      exact ⟨h3, rfl⟩

theorem size_extract0 (s : ByteArray) (h : 4 ≤ s.size) : (s.extract 0 (s.size - 4)).size = s.size - 4 := by rw [ByteArray.size_extract]; omega
theorem OP.good {s : ByteArray} {k : Nat} {ps : List WPart} {re : Nat} (h : OP s k ps re) (hre : re = 0) (hs : s.size ≤ 60000) : Good ps ∧ k < 256 ∧ bs s = wholeL k ps := by
  rcases h with ⟨_, _, h, _⟩ | ⟨h8, hpre, h⟩
  · rw [h] at hre; cases hre
  rcases h with ⟨_, _, _, h⟩ | ⟨hF, n, a, e, hR, h⟩
  · rw [h] at hre; cases hre
  rcases h with ⟨_, _, _, _, _, h⟩ | ⟨_, _, _, _, h⟩ | ⟨he, hn, hp, hk⟩
  · rw [h] at hre; cases hre
  · rw [h] at hre; cases hre
  subst he
  generalize hr : s.extract 0 (s.size - 4) = r at *
  have hrs : r.size = s.size - 4 := by rw [← hr]; exact size_extract0 s (by omega)
  rw [if_pos hre] at hk
  rcases hR with ⟨hR, ha, _⟩ | ⟨_, _, _, h⟩
  · have hlen := hR.len
    rw [List.length_drop, bs_length] at hlen
    obtain ⟨g1, g2, g3, g4⟩ := hp.ok hre (by omega)
    have hk256 : k < 256 := by rw [hk, bs_getD s 3 (by omega)]; exact s[3].toNat_lt
    refine ⟨⟨by omega, fun p hp => by have := g3 p hp; omega, g2⟩, hk256, ?_⟩
    have hbr : bs r = (bs s).take (s.size - 4) := by rw [← hr, bs_extract, List.drop_zero]
    have hhead : bs r = headL k ps := by
      have e1 := (List.take_append_drop 4 (bs r)).symm
      have e2 : (bs r).drop 4 = Vy.enc n ++ partsL ps := by
        rw [← g4, ha, ← List.drop_drop]
        conv => lhs; rw [← List.take_append_drop (Vy.enc n).length ((bs r).drop 4)]
        rw [← List.prefix_iff_eq_take.1 hR.2]
      have e3 : (bs r).take 4 = [83, 76, 87, k] := by
        rw [hbr, List.take_take, Nat.min_eq_left (by omega), show (4 : Nat) = 3 + 1 from rfl, List.take_succ_eq_append_getElem (by rw [bs_length]; omega)]
        have e4 : (bs s).take 3 = [83, 76, 87] := (List.prefix_iff_eq_take.1 hpre).symm
        rw [e4, hk, List.getD_eq_getElem?_getD, List.getElem?_eq_getElem (by rw [bs_length]; omega)]; rfl
      rw [e1, e2, e3, ← g1]; rfl
    have hF' : bs (s.extract (s.size - 4) (s.size - 4 + 4)) = four (Crc.more 0 (bs r)) := by unfold Fits at hF; rw [hr] at hF; exact hF
    have h5 := bs_drop_split s 0 (s.size - 4) (by omega)
    have h6 := bs_drop_split s (s.size - 4) (s.size - 4 + 4) (by omega)
    rw [List.drop_zero, hr] at h5
    rw [h5, h6, hF', hhead, List.drop_of_length_le (by rw [bs_length]; omega), List.append_nil]
    rfl
  · cases h

theorem Good.small64 {ps : List WPart} (h : Good ps) : ∀ p ∈ ps, p.2.size < 2 ^ 64 := fun p hp => by have := h.2.1 p hp; omega
theorem headL_split (k : Nat) (ps : List WPart) : headL k ps = [83, 76, 87, k] ++ (Vy.enc ps.length ++ partsL ps) := rfl
theorem OP.full {s : ByteArray} {k k' : Nat} {ps ps' : List WPart} {re : Nat} (hs : bs s = wholeL k ps) (hg : Good ps) (h : OP s k' ps' re) : k' = k ∧ ps' = ps ∧ re = 0 := by
  have hlen : s.size = 4 + (Vy.enc ps.length).length + (partsL ps).length + 4 := by
    rw [← bs_length, hs, wholeL, sealed_length, headL_split]; simp; omega
  have hel := Vy.enc_len_pos ps.length
  have hpre : [83, 76, 87] <+: bs s := by rw [hs]; exact ⟨k :: (Vy.enc ps.length ++ partsL ps) ++ four (Crc.more 0 (headL k ps)), rfl⟩
  have hx : bs (s.extract 0 (s.size - 4)) = headL k ps ∧ (bs s).drop (s.size - 4) = four (Crc.more 0 (headL k ps)) := by
    have h5 := bs_drop_split s 0 (s.size - 4) (by omega)
    rw [List.drop_zero] at h5
    have h5' : headL k ps ++ four (Crc.more 0 (headL k ps)) = _ := hs.symm.trans h5
    have := List.append_inj h5' (by rw [bs_length, size_extract0 s (by omega), headL_split]; simp; omega)
    exact ⟨this.1.symm, this.2.symm⟩
  have hF : Fits s 0 (s.size - 4) := by
    unfold Fits
    have h6 := bs_drop_split s (s.size - 4) (s.size - 4 + 4) (by omega)
    rw [List.drop_of_length_le (show (bs s).length ≤ s.size - 4 + 4 by rw [bs_length]; omega), List.append_nil] at h6
    rw [← h6, hx.1, hx.2]
  rcases h with ⟨_, _, _, h⟩ | ⟨_, _, h⟩
  · rcases h with h | h
    · omega
    · exact absurd hpre h
  rcases h with ⟨h, _⟩ | ⟨_, n, a, e, hR, h⟩
  · exact absurd hF h
  have hrs := size_extract0 s (by omega)
  generalize s.extract 0 (s.size - 4) = r at *
  have hd4 : (bs r).drop 4 = Vy.enc ps.length ++ partsL ps := by rw [hx.1]; rfl
  have hRd : Reads ((bs r).drop 4) ps.length := ⟨by have := hg.1; omega, by rw [hd4]; exact List.prefix_append _ _⟩
  rcases hR with ⟨hR, ha, he⟩ | ⟨hR, _⟩
  · obtain rfl := hRd.det hR
    subst he
    rcases h with ⟨h, _⟩ | ⟨_, h, _⟩ | ⟨_, _, hp, hk⟩
    · cases h
    · have := hg.1; omega
    · have hd : (bs r).drop a = partsL ps := by rw [ha, ← List.drop_drop, hd4, List.drop_left' rfl]
      obtain ⟨g1, g2⟩ := PS.full hd (by omega) rfl hg.2.2 hg.small64 hp
      refine ⟨?_, g1, g2⟩
      rw [hk, if_pos g2, hs]
      rfl
  · exact absurd hRd (hR _)

/-- No text of parts begins another one. -/
theorem prefix_len {a b l : List Nat} (ha : a <+: l) (hb : b <+: l) (h : a.length = b.length) : a = b := by
  rw [List.prefix_iff_eq_take.1 ha, List.prefix_iff_eq_take.1 hb, h]
theorem prefix_drop {a b l : List Nat} (h : a ++ b <+: l) : b <+: l.drop a.length := by
  obtain ⟨r, rfl⟩ := h
  rw [List.append_assoc, List.drop_left' rfl]
  exact List.prefix_append _ _
theorem parts_prefix : ∀ (ps qs : List WPart) (l : List Nat), partsL ps <+: l → partsL qs <+: l → ps.length = qs.length → (∀ p ∈ ps, p.2.size < 2 ^ 64) → (∀ p ∈ qs, p.2.size < 2 ^ 64) → (partsL ps).length = (partsL qs).length := by
  intro ps
  induction ps with
  | nil =>
    intro qs l _ _ hn _ _
    cases qs with
    | nil => rfl
    | cons q qs => cases hn
  | cons p ps ih =>
    intro qs l hp hq hn h1 h2
    cases qs with
    | nil => cases hn
    | cons q qs =>
      rw [partsL_cons] at hp hq
      have hsp := List.IsPrefix.trans (List.prefix_append _ _) hp
      have hsq := List.IsPrefix.trans (List.prefix_append _ _) hq
      have key : (sealed (partL p)).length = (sealed (partL q)).length := by
        obtain ⟨r, hr⟩ := hsp
        obtain ⟨r', hr'⟩ := hsq
        rw [← hr] at hr'
        have e1 : q.1 :: (Vy.enc q.2.size ++ (bs q.2 ++ four (Crc.more 0 (partL q)) ++ r')) = p.1 :: (Vy.enc p.2.size ++ (bs p.2 ++ four (Crc.more 0 (partL p)) ++ r)) := by
          simpa [sealed, partL] using hr'
        have e2 := (List.cons.inj e1).2
        have e3 : p.2.size = q.2.size := Vy.enc_prefix (List.prefix_append _ _) (e2 ▸ List.prefix_append _ _)
        rw [sealed_length, sealed_length, partL_length, partL_length, e3]
      rw [partsL_cons, partsL_cons, List.length_append, List.length_append, key, ih qs (l.drop (sealed (partL p)).length) (prefix_drop hp) (by rw [key]; exact prefix_drop hq) (by simpa using hn)
        (fun x hx => h1 x (List.mem_cons_of_mem _ hx)) (fun x hx => h2 x (List.mem_cons_of_mem _ hx))]
theorem whole_prefix {k k' : Nat} {ps qs : List WPart} {l : List Nat} (h1 : Good ps) (h2 : Good qs) (hp : wholeL k ps <+: l) (hq : wholeL k' qs <+: l) : (wholeL k ps).length = (wholeL k' qs).length := by
  have e1 : wholeL k ps = [83, 76, 87, k] ++ (Vy.enc ps.length ++ (partsL ps ++ four (Crc.more 0 (headL k ps)))) := by simp [wholeL, sealed, headL]
  have e2 : wholeL k' qs = [83, 76, 87, k'] ++ (Vy.enc qs.length ++ (partsL qs ++ four (Crc.more 0 (headL k' qs)))) := by simp [wholeL, sealed, headL]
  rw [e1] at hp ⊢
  rw [e2] at hq ⊢
  have p1 := prefix_drop hp
  have q1 := prefix_drop hq
  have p2 : Vy.enc ps.length <+: l.drop 4 := List.IsPrefix.trans (List.prefix_append _ _) p1
  have q2 : Vy.enc qs.length <+: l.drop 4 := List.IsPrefix.trans (List.prefix_append _ _) q1
  have hn : ps.length = qs.length := Vy.enc_prefix p2 q2
  rw [hn] at p1
  have p3 := List.IsPrefix.trans (List.prefix_append _ _) (prefix_drop p1)
  have q3 := List.IsPrefix.trans (List.prefix_append _ _) (prefix_drop q1)
  have := parts_prefix ps qs _ p3 q3 hn h1.small64 h2.small64
  simp only [List.length_append, four_length, hn, this, List.length_cons, List.length_nil]
end Go.Proofs.YtkeglkneobngnaaDoor

namespace Go.Proofs.YtkeglkneobngnaaDoor
namespace Cd

/-- An instruction: its op, its number. -/
abbrev In := Int × Int
structure FnV where
  params : Int
  locals : List Int
  kind : Int
  code : List In
structure Pg where
  globals : Int
  fns : List FnV
instance : Inhabited FnV := ⟨⟨0, [], 0, []⟩⟩
instance : Inhabited Pg := ⟨⟨0, []⟩⟩

/-- Those whose number is 0 or more. -/
def manyB (op : Int) : Bool := decide (op = 4) || decide (op = 5) || decide (op = 6) || decide (op = 7) || decide (op = 11) || decide (op = 12) || decide (op = 13) || decide (op = 15) || decide (op = 23) || decide (op = 24) || decide (op = 25) || decide (op = 26)
/-- From where to where an instruction's number may be. -/
def leastI (op : Int) : Int := if op = 1 then -9223372036854775808 else if op = 8 then 1 else if op = 9 then 17 else 0
def mostI (op : Int) : Int := if op = 1 then 9223372036854775807 else if op = 2 then 1 else if op = 8 then 16 else if op = 9 then 19 else if manyB op then 9223372036854775807 else 0
def hasN (op : Int) : Bool := decide (leastI op < 0) || decide (0 < mostI op)
def mayB (i : In) : Bool := decide (1 ≤ i.1) && decide (i.1 ≤ 26) && decide (leastI i.1 ≤ i.2) && decide (i.2 ≤ mostI i.1)
def kindB (k : Int) : Bool := decide (1 ≤ k) && decide (k ≤ 3)
/-- What is wrong with a function. -/
def fnE (f : FnV) : Nat :=
  if 12 < f.locals.length ∨ 9000 < f.code.length then 4
  else if f.params < 0 ∨ (f.locals.length : Int) < f.params ∨ f.kind < 0 ∨ 3 < f.kind then 2
  else if f.locals.all kindB then (if f.code.all mayB then 0 else 1) else 2
def fnsE : List FnV → Nat
  | [] => 0
  | f :: r => if fnE f = 0 then fnsE r else fnE f
def progE (p : Pg) : Nat := if p.globals < 0 ∨ 8 < p.globals then 2 else if 12 < p.fns.length then 4 else fnsE p.fns
/-- What a right function is. -/
structure FnR (f : FnV) : Prop where
  locals : f.locals.length ≤ 12
  code : f.code.length ≤ 9000
  params0 : 0 ≤ f.params
  params : f.params ≤ (f.locals.length : Int)
  kind0 : 0 ≤ f.kind
  kind : f.kind ≤ 3
  kinds : ∀ k ∈ f.locals, 1 ≤ k ∧ k ≤ 3
  ins : ∀ i ∈ f.code, mayB i = true
theorem fnE_iff (f : FnV) : fnE f = 0 ↔ FnR f := by
  constructor
  · intro h
    unfold fnE at h
    split at h
    · cases h
    · rename_i h1
      split at h
      · cases h
      · rename_i h2
        split at h
        · rename_i h3
          split at h
          · rename_i h4
            exact ⟨by omega, by omega, by omega, by omega, by omega, by omega, fun k hk => by simpa [kindB] using List.all_eq_true.1 h3 k hk, List.all_eq_true.1 h4⟩
          · cases h
        · cases h
  · intro h
    have a := h.locals
    have b := h.code
    have c := h.params0
    have d := h.params
    have e := h.kind0
    have g := h.kind
    unfold fnE
    rw [if_neg (by omega), if_neg (by omega), if_pos (List.all_eq_true.2 fun k hk => by simpa [kindB] using h.kinds k hk), if_pos (List.all_eq_true.2 h.ins)]
theorem fnsE_iff : ∀ (l : List FnV), fnsE l = 0 ↔ ∀ f ∈ l, FnR f
  | [] => ⟨fun _ f h => (by cases h), fun _ => rfl⟩
  | f :: r => by
    unfold fnsE
    constructor
    · intro h
      split at h
      · rename_i h0
        intro g hg
        rcases List.mem_cons.1 hg with rfl | hg
        · exact (fnE_iff _).1 h0
        · exact (fnsE_iff r).1 h g hg
      · rename_i h0
        exact absurd h h0
    · intro h
      rw [if_pos ((fnE_iff f).2 (h f List.mem_cons_self)), fnsE_iff r]
      exact fun g hg => h g (List.mem_cons_of_mem _ hg)
structure PgR (p : Pg) : Prop where
  globals0 : 0 ≤ p.globals
  globals : p.globals ≤ 8
  fns : p.fns.length ≤ 12
  each : ∀ f ∈ p.fns, FnR f
theorem progE_iff (p : Pg) : progE p = 0 ↔ PgR p := by
  unfold progE
  constructor
  · intro h
    split at h
    · cases h
    · split at h
      · cases h
      · exact ⟨by omega, by omega, by omega, (fnsE_iff _).1 h⟩
  · intro h
    have a := h.globals0
    have b := h.globals
    have c := h.fns
    rw [if_neg (by omega), if_neg (by omega)]
    exact (fnsE_iff _).2 h.each
theorem mayB_op {i : In} (h : mayB i = true) : 1 ≤ i.1 ∧ i.1 ≤ 26 := by
  simp [mayB] at h; omega
theorem mayB_n {i : In} (h : mayB i = true) : -9223372036854775808 ≤ i.2 ∧ i.2 ≤ 9223372036854775807 := by
  simp [mayB] at h
  have h1 : -9223372036854775808 ≤ leastI i.1 := by unfold leastI; split; omega; split; omega; split <;> omega
  have h2 : mostI i.1 ≤ 9223372036854775807 := by unfold mostI; split; omega; split; omega; split; omega; split; omega; split <;> omega
  omega
theorem mayB_zero {i : In} (h : mayB i = true) (hn : hasN i.1 = false) : i.2 = 0 := by
  simp [mayB] at h
  simp [hasN] at hn
  omega

/-! The bytes. -/
def insL (i : In) : List Nat := i.1.toNat :: (if hasN i.1 then Vy.enc (zz i.2) else [])
def kindsL (l : List Int) : List Nat := l.map Int.toNat
def fnL (f : FnV) : List Nat := Vy.enc f.params.toNat ++ Vy.enc f.locals.length ++ kindsL f.locals ++ [f.kind.toNat] ++ Vy.enc f.code.length ++ f.code.flatMap insL
def fnParts : Nat → List FnV → List WPart
  | _, [] => []
  | k, f :: r => (98 + k, txt (fnL f)) :: fnParts (k + 1) r
def partsC (p : Pg) : List WPart := (97, txt (Vy.enc p.globals.toNat)) :: fnParts 0 p.fns

/-! The reader. -/
/-- The number that a list of bytes begins with. -/
def rd (l : List Nat) : Option Nat := (List.range 10).findSome? fun k => if Vy.val (l.take (k + 1)) < 2 ^ 64 ∧ (Vy.enc (Vy.val (l.take (k + 1)))).isPrefixOf l then some (Vy.val (l.take (k + 1))) else none
theorem rd_some {l : List Nat} {n : Nat} (h : rd l = some n) : Reads l n := by
  obtain ⟨k, _, hk⟩ := List.exists_of_findSome?_eq_some h
  split at hk
  · rename_i hc
    cases hk
    exact ⟨hc.1, List.isPrefixOf_iff_prefix.1 hc.2⟩
  · cases hk
theorem rd_of {l : List Nat} {n : Nat} (h : Reads l n) : rd l = some n := by
  cases hr : rd l with
  | some m => rw [Reads.det (rd_some hr) h]
  | none =>
    exfalso
    have hn := List.findSome?_eq_none_iff.1 hr ((Vy.enc n).length - 1) (by
      have := h.len
      rw [List.mem_range]; omega)
    have hl := h.len
    have hp : l.take ((Vy.enc n).length - 1 + 1) = Vy.enc n := by
      rw [show (Vy.enc n).length - 1 + 1 = (Vy.enc n).length by omega]
      exact (List.prefix_iff_eq_take.1 h.2).symm
    rw [hp, Vy.val_enc, if_pos ⟨h.1, List.isPrefixOf_iff_prefix.2 h.2⟩] at hn
    cases hn
theorem rd_none {l : List Nat} (h : rd l = none) : ∀ n, ¬ Reads l n := fun n hn => by rw [rd_of hn] at h; cases h
theorem RN.rd_some {l : List Nat} {n : Nat} (h : rd l = some n) (a : Nat) : RN l a n (a + (Vy.enc n).length) 0 := Or.inl ⟨Cd.rd_some h, rfl, rfl⟩
theorem RN.rd_none {l : List Nat} (h : rd l = none) (a : Nat) : RN l a 0 0 3 := Or.inr ⟨Cd.rd_none h, rfl, rfl, rfl⟩
theorem rd_enc {n : Nat} (hn : n < 2 ^ 64) (r : List Nat) : rd (Vy.enc n ++ r) = some n := rd_of ⟨hn, List.prefix_append _ _⟩

/-- Where a reader stands, and what was wrong first. -/
structure Rd where
  at_ : Nat
  err : Nat
deriving DecidableEq
def Rd.wrong (r : Rd) (e : Nat) : Rd := ⟨r.at_, if r.err = 0 then e else r.err⟩
/-- A number, and where the reader stands behind it. -/
def rdCount (s : List Nat) (most : Nat) (r : Rd) : Nat × Rd :=
  match rd (s.drop r.at_) with
  | none => (0, r.wrong 3)
  | some n => if most < n then (0, r.wrong 4) else if r.err = 0 then (n, ⟨r.at_ + (Vy.enc n).length, 0⟩) else (0, r)
def rdNumber (s : List Nat) (r : Rd) : Int × Rd :=
  match rd (s.drop r.at_) with
  | none => (0, r.wrong 3)
  | some n => if r.err = 0 then (uz n, ⟨r.at_ + (Vy.enc n).length, 0⟩) else (0, r)
def rdByte (s : List Nat) (r : Rd) : Nat × Rd :=
  if r.at_ = s.length then (0, r.wrong 3) else if r.err = 0 then (s.getD r.at_ 0, ⟨r.at_ + 1, 0⟩) else (0, r)
def rdIns (s : List Nat) (r : Rd) : In × Rd :=
  if hasN ((rdByte s r).1 : Int) then ((((rdByte s r).1 : Int), (rdNumber s (rdByte s r).2).1), (rdNumber s (rdByte s r).2).2) else ((((rdByte s r).1 : Int), 0), (rdByte s r).2)
def rdBytes (s : List Nat) : Nat → Rd → List Int × Rd
  | 0, r => ([], r)
  | n + 1, r => (((rdByte s r).1 : Int) :: (rdBytes s n (rdByte s r).2).1, (rdBytes s n (rdByte s r).2).2)
def rdInss (s : List Nat) : Nat → Rd → List In × Rd
  | 0, r => ([], r)
  | n + 1, r => ((rdIns s r).1 :: (rdInss s n (rdIns s r).2).1, (rdInss s n (rdIns s r).2).2)
def rdEnd (s : List Nat) (r : Rd) : Nat := (if r.at_ = s.length then r else r.wrong 3).err
/-- A function, step by step. -/
def rdFn1 (s : List Nat) : Nat × Rd := rdCount s 12 ⟨0, 0⟩
def rdFn2 (s : List Nat) : Nat × Rd := rdCount s 12 (rdFn1 s).2
def rdFn3 (s : List Nat) : List Int × Rd := rdBytes s (rdFn2 s).1 (rdFn2 s).2
def rdFn4 (s : List Nat) : Nat × Rd := rdByte s (rdFn3 s).2
def rdFn5 (s : List Nat) : Nat × Rd := rdCount s 9000 (rdFn4 s).2
def rdFn6 (s : List Nat) : List In × Rd := rdInss s (rdFn5 s).1 (rdFn5 s).2
def rdFnV (s : List Nat) : FnV := ⟨((rdFn1 s).1 : Int), (rdFn3 s).1, ((rdFn4 s).1 : Int), (rdFn6 s).1⟩
def rdFnE (s : List Nat) : Nat := rdEnd s (rdFn6 s).2
def rdFns : Nat → List WPart → List FnV × Nat
  | _, [] => ([], 0)
  | k, p :: r => if p.1 = (98 + k) % 256 then (if rdFnE (bs p.2) = 0 then (rdFnV (bs p.2) :: (rdFns (k + 1) r).1, (rdFns (k + 1) r).2) else ([rdFnV (bs p.2)], rdFnE (bs p.2))) else ([], 3)
def rdHead (s : List Nat) : Nat × Nat := ((rdCount s 8 ⟨0, 0⟩).1, rdEnd s (rdCount s 8 ⟨0, 0⟩).2)
def rdParts (first : WPart) (rest : List WPart) : Pg × Nat :=
  if (rdHead (bs first.2)).2 = 0 then (⟨((rdHead (bs first.2)).1 : Int), (rdFns 0 rest).1⟩, (rdFns 0 rest).2) else (⟨((rdHead (bs first.2)).1 : Int), []⟩, (rdHead (bs first.2)).2)
/-- What is told of a text whose kind, parts and error are these. -/
def decE (re k : Nat) (ps : List WPart) : Nat :=
  if re = 0 then
    match ps with
    | [] => 3
    | first :: rest => if k = 80 ∧ first.1 = 97 then (if 12 < rest.length then 4 else if (rdParts first rest).2 = 0 then progE (rdParts first rest).1 else (rdParts first rest).2) else 3
  else re
def decV (re k : Nat) (ps : List WPart) : Pg :=
  if decE re k ps = 0 then
    match ps with
    | [] => ⟨0, []⟩
    | first :: rest => (rdParts first rest).1
  else ⟨0, []⟩
end Cd
end Go.Proofs.YtkeglkneobngnaaDoor

namespace Go.Proofs.YtkeglkneobngnaaDoor
namespace Cd
variable {s : List Nat} {r : Rd}

/-! Where a reader stands. -/
theorem wrong_at (e : Nat) : (r.wrong e).at_ = r.at_ := rfl
theorem wrong_err {e : Nat} (he : e ≠ 0) : (r.wrong e).err ≠ 0 := by unfold Rd.wrong; dsimp only; split <;> omega
theorem rdCount_le {most : Nat} (h : r.at_ ≤ s.length) : (rdCount s most r).2.at_ ≤ s.length := by
  unfold rdCount
  split
  · exact h
  · rename_i n hn
    split
    · exact h
    · split
      · have := (rd_some hn).len.2.1
        rw [List.length_drop] at this
        show r.at_ + _ ≤ _
        omega
      · exact h
theorem rdNumber_le (h : r.at_ ≤ s.length) : (rdNumber s r).2.at_ ≤ s.length := by
  unfold rdNumber
  split
  · exact h
  · rename_i n hn
    split
    · have := (rd_some hn).len.2.1
      rw [List.length_drop] at this
      show r.at_ + _ ≤ _
      omega
    · exact h
theorem rdByte_le (h : r.at_ ≤ s.length) : (rdByte s r).2.at_ ≤ s.length := by
  unfold rdByte
  split
  · exact h
  · split
    · show r.at_ + 1 ≤ _
      omega
    · exact h
theorem rdIns_le (h : r.at_ ≤ s.length) : (rdIns s r).2.at_ ≤ s.length := by
  unfold rdIns
  split
  · exact rdNumber_le (rdByte_le h)
  · exact rdByte_le h
theorem rdBytes_le : ∀ (n : Nat) (r : Rd), r.at_ ≤ s.length → (rdBytes s n r).2.at_ ≤ s.length
  | 0, _, h => h
  | n + 1, _, h => rdBytes_le n _ (rdByte_le h)
theorem rdInss_le : ∀ (n : Nat) (r : Rd), r.at_ ≤ s.length → (rdInss s n r).2.at_ ≤ s.length
  | 0, _, h => h
  | n + 1, _, h => rdInss_le n _ (rdIns_le h)
theorem rdByte_lt (hs : Crc.Bytes s) : (rdByte s r).1 < 256 := by
  unfold rdByte
  split
  · show (0 : Nat) < 256
    decide
  · split
    · show s.getD _ _ < 256
      rw [List.getD_eq_getElem?_getD]
      cases h : s[r.at_]? with
      | none => show (0 : Nat) < 256; decide
      | some b => exact hs b (List.mem_of_getElem? h)
    · show (0 : Nat) < 256
      decide
theorem rdCount_most {most : Nat} : (rdCount s most r).1 ≤ most := by
  unfold rdCount
  split
  · exact Nat.zero_le _
  · split
    · exact Nat.zero_le _
    · split
      · show _ ≤ _
        omega
      · exact Nat.zero_le _
theorem rdBytes_snoc : ∀ (n : Nat) (r : Rd), rdBytes s (n + 1) r = ((rdBytes s n r).1 ++ [((rdByte s (rdBytes s n r).2).1 : Int)], (rdByte s (rdBytes s n r).2).2)
  | 0, _ => rfl
  | n + 1, r => by
    rw [rdBytes, rdBytes_snoc n]
    rfl
theorem rdInss_snoc : ∀ (n : Nat) (r : Rd), rdInss s (n + 1) r = ((rdInss s n r).1 ++ [(rdIns s (rdInss s n r).2).1], (rdIns s (rdInss s n r).2).2)
  | 0, _ => rfl
  | n + 1, r => by
    rw [rdInss, rdInss_snoc n]
    rfl
theorem rdBytes_len : ∀ (n : Nat) (r : Rd), (rdBytes s n r).1.length = n
  | 0, _ => rfl
  | n + 1, r => by rw [rdBytes, List.length_cons, rdBytes_len n]
theorem rdInss_len : ∀ (n : Nat) (r : Rd), (rdInss s n r).1.length = n
  | 0, _ => rfl
  | n + 1, r => by rw [rdInss, List.length_cons, rdInss_len n]

/-! The way there: what was written is read. -/
/-- From where these bytes stand the reader goes behind them. -/
def St (s : List Nat) (r : Rd) (t : List Nat) : Prop := r.err = 0 ∧ r.at_ ≤ s.length ∧ s.drop r.at_ = t
theorem st_drop {s : List Nat} {a : Nat} {x t : List Nat} (h : s.drop a = x ++ t) : s.drop (a + x.length) = t := by
  rw [← List.drop_drop, h, List.drop_left]
theorem st_le {s : List Nat} {a : Nat} {x t : List Nat} (h : s.drop a = x ++ t) (ha : a ≤ s.length) : a + x.length ≤ s.length := by
  have := congrArg List.length h
  rw [List.length_drop, List.length_append] at this
  omega
theorem rdCount_st {n most : Nat} {t : List Nat} (hn : n < 2 ^ 64) (hm : n ≤ most) (h : St s r (Vy.enc n ++ t)) : (rdCount s most r).1 = n ∧ St s (rdCount s most r).2 t := by
  unfold rdCount
  rw [h.2.2, rd_enc hn]
  dsimp only
  rw [if_neg (by omega), if_pos h.1]
  exact ⟨rfl, rfl, st_le h.2.2 h.2.1, st_drop h.2.2⟩
theorem rdNumber_st {n : Int} {t : List Nat} (h1 : -9223372036854775808 ≤ n) (h2 : n ≤ 9223372036854775807) (h : St s r (Vy.enc (zz n) ++ t)) : (rdNumber s r).1 = n ∧ St s (rdNumber s r).2 t := by
  unfold rdNumber
  rw [h.2.2, rd_enc (zz_lt n h1 h2)]
  dsimp only
  rw [if_pos h.1]
  exact ⟨uz_zz n, rfl, st_le h.2.2 h.2.1, st_drop h.2.2⟩
theorem rdByte_st {b : Nat} {t : List Nat} (h : St s r (b :: t)) : (rdByte s r).1 = b ∧ St s (rdByte s r).2 t := by
  have hl : r.at_ < s.length := by
    have := congrArg List.length h.2.2
    rw [List.length_drop, List.length_cons] at this
    omega
  unfold rdByte
  rw [if_neg (by omega), if_pos h.1]
  have hd := h.2.2
  rw [List.drop_eq_getElem_cons hl] at hd
  refine ⟨?_, rfl, hl, (List.cons.inj hd).2⟩
  show s.getD _ _ = _
  rw [List.getD_eq_getElem?_getD, List.getElem?_eq_getElem hl, ← (List.cons.inj hd).1]
  rfl
theorem rdIns_st {i : In} {t : List Nat} (hi : mayB i = true) (h : St s r (insL i ++ t)) : (rdIns s r).1 = i ∧ St s (rdIns s r).2 t := by
  obtain ⟨o1, o2⟩ := mayB_op hi
  obtain ⟨n1, n2⟩ := mayB_n hi
  have hc : St s r (i.1.toNat :: ((if hasN i.1 then Vy.enc (zz i.2) else []) ++ t)) := h
  obtain ⟨e1, h1⟩ := rdByte_st hc
  have e2 : (((rdByte s r).1 : Nat) : Int) = i.1 := by rw [e1]; omega
  unfold rdIns
  rw [e2]
  cases hn : hasN i.1 with
  | true =>
    rw [hn, if_pos rfl] at h1
    rw [if_pos rfl]
    obtain ⟨e3, h3⟩ := rdNumber_st n1 n2 h1
    exact ⟨by show (_, _) = i; rw [e3], h3⟩
  | false =>
    rw [hn, if_neg (by decide)] at h1
    rw [if_neg (by decide)]
    exact ⟨by show (_, _) = i; rw [← mayB_zero hi hn], h1⟩
theorem rdBytes_st : ∀ (l : List Int) (r : Rd) (t : List Nat), (∀ k ∈ l, 0 ≤ k) → St s r (kindsL l ++ t) → (rdBytes s l.length r).1 = l ∧ St s (rdBytes s l.length r).2 t
  | [], _, _, _, h => ⟨rfl, h⟩
  | k :: l, r, t, hk, h => by
    obtain ⟨e1, h1⟩ := rdByte_st (b := k.toNat) (t := kindsL l ++ t) h
    obtain ⟨e2, h2⟩ := rdBytes_st l _ t (fun x hx => hk x (List.mem_cons_of_mem _ hx)) h1
    refine ⟨?_, h2⟩
    show (_ :: _) = _
    rw [e2, e1]
    have := hk k List.mem_cons_self
    rw [Int.toNat_of_nonneg this]
theorem rdInss_st : ∀ (l : List In) (r : Rd) (t : List Nat), (∀ i ∈ l, mayB i = true) → St s r (l.flatMap insL ++ t) → (rdInss s l.length r).1 = l ∧ St s (rdInss s l.length r).2 t
  | [], _, _, _, h => ⟨rfl, h⟩
  | i :: l, r, t, hk, h => by
    rw [List.flatMap_cons, List.append_assoc] at h
    obtain ⟨e1, h1⟩ := rdIns_st (hk i List.mem_cons_self) h
    obtain ⟨e2, h2⟩ := rdInss_st l _ t (fun x hx => hk x (List.mem_cons_of_mem _ hx)) h1
    refine ⟨?_, h2⟩
    show (_ :: _) = _
    rw [e2, e1]
theorem rdEnd_st (h : St s r []) : rdEnd s r = 0 := by
  unfold rdEnd
  have := congrArg List.length h.2.2
  rw [List.length_drop] at this
  have h2 := h.2.1
  rw [if_pos (by simp at this; omega)]
  exact h.1
theorem fnR_nat {f : FnV} (h : FnR f) : f.params.toNat ≤ 12 ∧ (f.params.toNat : Int) = f.params ∧ (f.kind.toNat : Int) = f.kind := by
  have h1 := h.params0
  have h2 := h.params
  have h3 := h.locals
  have h4 := h.kind0
  exact ⟨by omega, by omega, by omega⟩
theorem fn_back {f : FnV} (h : FnR f) (hs : s = fnL f) : rdFnV s = f ∧ rdFnE s = 0 := by
  obtain ⟨p1, p2, p3⟩ := fnR_nat h
  have hl := h.locals
  have hc := h.code
  have g0 : St s ⟨0, 0⟩ (Vy.enc f.params.toNat ++ (Vy.enc f.locals.length ++ (kindsL f.locals ++ (f.kind.toNat :: (Vy.enc f.code.length ++ (f.code.flatMap insL ++ [])))))) :=
    ⟨rfl, Nat.zero_le _, by rw [hs]; unfold fnL; simp⟩
  obtain ⟨a1, b1⟩ := rdCount_st (most := 12) (by omega) p1 g0
  obtain ⟨a2, b2⟩ := rdCount_st (most := 12) (by omega) hl b1
  have b2' : St s (rdFn2 s).2 _ := b2
  obtain ⟨a3, b3⟩ := rdBytes_st f.locals (rdFn2 s).2 _ (fun k hk => by have := h.kinds k hk; omega) b2'
  have e2 : (rdFn2 s).1 = f.locals.length := a2
  have e3 : rdFn3 s = rdBytes s f.locals.length (rdFn2 s).2 := by unfold rdFn3; rw [e2]
  rw [← e3] at a3 b3
  obtain ⟨a4, b4⟩ := rdByte_st b3
  obtain ⟨a5, b5⟩ := rdCount_st (most := 9000) (by omega) hc b4
  have b5' : St s (rdFn5 s).2 _ := b5
  obtain ⟨a6, b6⟩ := rdInss_st f.code (rdFn5 s).2 _ h.ins b5'
  have e5 : (rdFn5 s).1 = f.code.length := a5
  have e6 : rdFn6 s = rdInss s f.code.length (rdFn5 s).2 := by unfold rdFn6; rw [e5]
  rw [← e6] at a6 b6
  refine ⟨?_, rdEnd_st b6⟩
  have f1 : (rdFn1 s).1 = f.params.toNat := a1
  have f4 : (rdFn4 s).1 = f.kind.toNat := a4
  unfold rdFnV
  rw [f1, f4, a3, a6, p2, p3]
theorem enc_params_bytes (n : Nat) : Crc.Bytes (Vy.enc n) := fun b hb => Vy.enc_bytes n b hb
theorem insL_bytes {i : In} (h : mayB i = true) : Crc.Bytes (insL i) := fun b hb => by
  obtain ⟨o1, o2⟩ := mayB_op h
  unfold insL at hb
  rcases List.mem_cons.1 hb with rfl | hb
  · omega
  · split at hb
    · exact Vy.enc_bytes _ b hb
    · cases hb
theorem fnL_bytes {f : FnV} (h : FnR f) : Crc.Bytes (fnL f) := fun b hb => by
  have h1 := h.kind
  have h2 := h.kind0
  unfold fnL at hb
  rcases List.mem_append.1 hb with hb | hb
  · rcases List.mem_append.1 hb with hb | hb
    · rcases List.mem_append.1 hb with hb | hb
      · rcases List.mem_append.1 hb with hb | hb
        · rcases List.mem_append.1 hb with hb | hb
          · exact Vy.enc_bytes _ b hb
          · exact Vy.enc_bytes _ b hb
        · obtain ⟨k, hk, rfl⟩ := List.mem_map.1 hb
          have := h.kinds k hk
          omega
      · rw [List.mem_singleton.1 hb]; omega
    · exact Vy.enc_bytes _ b hb
  · obtain ⟨i, hi, hb⟩ := List.mem_flatMap.1 hb
    exact insL_bytes (h.ins i hi) b hb
theorem fns_back : ∀ (l : List FnV) (k : Nat), (∀ f ∈ l, FnR f) → k + l.length ≤ 150 → rdFns k (fnParts k l) = (l, 0)
  | [], _, _, _ => rfl
  | f :: l, k, h, hk => by
    rw [List.length_cons] at hk
    obtain ⟨e1, e2⟩ := fn_back (s := bs (txt (fnL f))) (h f List.mem_cons_self) (bs_txt _ (fnL_bytes (h f List.mem_cons_self)))
    have ih := fns_back l (k + 1) (fun x hx => h x (List.mem_cons_of_mem _ hx)) (by omega)
    unfold fnParts rdFns
    dsimp only
    rw [if_pos (by omega), e1, e2, if_pos rfl, ih]
theorem head_back {n : Nat} (h : n ≤ 8) : rdHead (bs (txt (Vy.enc n))) = (n, 0) := by
  have g0 : St (bs (txt (Vy.enc n))) ⟨0, 0⟩ (Vy.enc n ++ []) := ⟨rfl, Nat.zero_le _, by rw [bs_txt _ (enc_params_bytes n)]; simp⟩
  obtain ⟨a1, b1⟩ := rdCount_st (most := 8) (by omega) h g0
  unfold rdHead
  rw [rdEnd_st b1, a1]
theorem parts_len : ∀ (l : List FnV) (k : Nat), (fnParts k l).length = l.length
  | [], _ => rfl
  | _ :: l, k => by unfold fnParts; rw [List.length_cons, List.length_cons, parts_len l]
theorem dec_back {p : Pg} (h : PgR p) : decE 0 80 (partsC p) = 0 ∧ decV 0 80 (partsC p) = p := by
  have h1 := h.globals0
  have h2 := h.globals
  have h3 := h.fns
  have e1 : rdHead (bs (97, txt (Vy.enc p.globals.toNat)).2) = (p.globals.toNat, 0) := head_back (by omega)
  have e2 : rdParts (97, txt (Vy.enc p.globals.toNat)) (fnParts 0 p.fns) = (p, 0) := by
    unfold rdParts
    rw [e1, if_pos rfl, fns_back p.fns 0 h.each (by omega)]
    dsimp only
    rw [Int.toNat_of_nonneg h1]
  have e3 : decE 0 80 (partsC p) = 0 := by
    unfold decE partsC
    rw [if_pos rfl]
    dsimp only
    rw [if_pos ⟨rfl, rfl⟩, parts_len, if_neg (by omega), e2, if_pos rfl]
    exact (progE_iff p).2 h
  refine ⟨e3, ?_⟩
  unfold decV
  rw [if_pos e3]
  unfold partsC
  dsimp only
  rw [e2]
theorem insL_len (i : In) (h : mayB i = true) : (insL i).length ≤ 11 := by
  obtain ⟨n1, n2⟩ := mayB_n h
  have := Vy.enc_len10 (zz i.2) (zz_lt _ n1 n2)
  unfold insL
  rw [List.length_cons]
  split
  · omega
  · simp
theorem flat_len : ∀ (l : List In), (∀ i ∈ l, mayB i = true) → (l.flatMap insL).length ≤ 11 * l.length
  | [], _ => Nat.le_refl _
  | i :: l, h => by
    have h1 := insL_len i (h i List.mem_cons_self)
    have h2 := flat_len l fun x hx => h x (List.mem_cons_of_mem _ hx)
    rw [List.flatMap_cons, List.length_append, List.length_cons]
    omega
theorem fnL_len {f : FnV} (h : FnR f) : (fnL f).length ≤ 43 + 11 * f.code.length := by
  have h1 := h.locals
  have h2 := flat_len f.code h.ins
  obtain ⟨p1, _, _⟩ := fnR_nat h
  have h3 := Vy.enc_len10 f.params.toNat (by omega)
  have h4 := Vy.enc_len10 f.locals.length (by omega)
  have h5 := Vy.enc_len10 f.code.length (by have := h.code; omega)
  unfold fnL kindsL
  simp only [List.length_append, List.length_map, List.length_singleton]
  omega
theorem fnParts_rises : ∀ (l : List FnV) (k t : Nat), t < 98 + k → k + l.length ≤ 150 → Rises (some t) (fnParts k l)
  | [], _, _, _, _ => trivial
  | f :: l, k, t, ht, hk => by
    rw [List.length_cons] at hk
    refine ⟨fun x hx => (by cases hx; exact ht), by show 98 + k < 256; omega, ?_⟩
    exact fnParts_rises l (k + 1) (98 + k) (by omega) (by omega)
theorem parts_small : ∀ (l : List FnV) (k : Nat), (∀ f ∈ l, FnR f ∧ f.code.length ≤ 5000) → Small (fnParts k l)
  | [], _, _ => fun p hp => by cases hp
  | f :: l, k, h => fun p hp => by
    rcases List.mem_cons.1 hp with rfl | hp
    · obtain ⟨h1, h2⟩ := h f List.mem_cons_self
      have := fnL_len h1
      show (txt (fnL f)).size ≤ _
      rw [txt_size]; omega
    · exact parts_small l (k + 1) (fun x hx => h x (List.mem_cons_of_mem _ hx)) p hp
theorem good_parts {p : Pg} (h : PgR p) (hs : ∀ f ∈ p.fns, f.code.length ≤ 5000) : Good (partsC p) := by
  have h1 := h.fns
  have h2 := Vy.enc_len10 p.globals.toNat (by have := h.globals; omega)
  refine ⟨by unfold partsC; rw [List.length_cons, parts_len]; omega, fun q hq => ?_, fun x hx => (by cases hx), by show (97 : Nat) < 256; omega, ?_⟩
  · rcases List.mem_cons.1 hq with rfl | hq
    · show (txt _).size ≤ _
      rw [txt_size]; omega
    · exact parts_small p.fns 0 (fun f hf => ⟨h.each f hf, hs f hf⟩) q hq
  · exact fnParts_rises p.fns 0 97 (by omega) (by omega)
theorem partsL_len : ∀ (ps : List WPart) (m : Nat), (∀ q ∈ ps, q.2.size ≤ m) → m ≤ 60000 → (partsL ps).length ≤ ps.length * (m + 15)
  | [], _, _, _ => by simp [partsL]
  | q :: ps, m, h, hm => by
    have h1 := h q List.mem_cons_self
    have ih := partsL_len ps m (fun x hx => h x (List.mem_cons_of_mem _ hx)) hm
    have h2 := Vy.enc_len10 q.2.size (by omega)
    rw [partsL_cons, List.length_append, sealed_length, partL_length, List.length_cons, Nat.add_mul]
    omega
theorem parts_each : ∀ (l : List FnV) (k m : Nat), (∀ f ∈ l, (fnL f).length ≤ m) → ∀ q ∈ fnParts k l, q.2.size ≤ m
  | [], _, _, _, _, hq => by cases hq
  | f :: l, k, m, h, q, hq => by
    rcases List.mem_cons.1 hq with rfl | hq
    · show (txt (fnL f)).size ≤ _
      rw [txt_size]; exact h f List.mem_cons_self
    · exact parts_each l (k + 1) m (fun x hx => h x (List.mem_cons_of_mem _ hx)) q hq
theorem parts_total {p : Pg} (h : PgR p) (hs : ∀ f ∈ p.fns, f.code.length ≤ 120) : (partsL (partsC p)).length ≤ 20000 := by
  have h1 := h.fns
  have h2 := Vy.enc_len10 p.globals.toNat (by have := h.globals; omega)
  have := partsL_len (partsC p) 1370 (fun q hq => by
    rcases List.mem_cons.1 hq with rfl | hq
    · show (txt _).size ≤ _
      rw [txt_size]; omega
    · refine parts_each p.fns 0 1370 (fun f hf => ?_) q hq
      have a := fnL_len (h.each f hf)
      have b := hs f hf
      omega) (by decide)
  have hl : (partsC p).length ≤ 13 := by unfold partsC; rw [List.length_cons, parts_len]; omega
  have : (partsC p).length * (1370 + 15) ≤ 13 * (1370 + 15) := Nat.mul_le_mul_right _ hl
  omega

/-! The way back: what is read was written so. -/
/-- The reader went over these bytes, and nothing was wrong. -/
def Over (s : List Nat) (r : Rd) (x : List Nat) (r' : Rd) : Prop := r.err = 0 ∧ r'.err = 0 ∧ s.drop r.at_ = x ++ s.drop r'.at_
theorem over_nil (h : r.err = 0) : Over s r [] r := ⟨h, h, rfl⟩
theorem Over.then {r1 r2 r3 : Rd} {x y : List Nat} (h1 : Over s r1 x r2) (h2 : Over s r2 y r3) : Over s r1 (x ++ y) r3 :=
  ⟨h1.1, h2.2.1, by rw [h1.2.2, h2.2.2, List.append_assoc]⟩
theorem reads_drop {l : List Nat} {n : Nat} (h : Reads l n) : l = Vy.enc n ++ l.drop (Vy.enc n).length := by
  obtain ⟨t, ht⟩ := h.2
  rw [← ht, List.drop_left]
theorem rdCount_over {most : Nat} (h : (rdCount s most r).2.err = 0) : Over s r (Vy.enc (rdCount s most r).1) (rdCount s most r).2 ∧ (rdCount s most r).1 < 2 ^ 64 := by
  unfold rdCount at h ⊢
  split at h
  · exact absurd h (wrong_err (by decide))
  · rename_i n hn
    split at h
    · exact absurd h (wrong_err (by decide))
    · rename_i hm
      rw [if_neg hm]
      split at h
      · rename_i h0
        rw [if_pos h0]
        refine ⟨⟨h0, rfl, ?_⟩, (rd_some hn).1⟩
        rw [← List.drop_drop]
        exact reads_drop (rd_some hn)
      · rename_i h0
        exact absurd h h0
theorem zz_uz {n : Nat} : zz (uz n) = n := by
  unfold zz uz
  by_cases h : n % 2 = 1
  · rw [if_pos h, if_neg (by omega)]; omega
  · rw [if_neg h, if_pos (by omega)]; omega
theorem rdNumber_over (h : (rdNumber s r).2.err = 0) : Over s r (Vy.enc (zz (rdNumber s r).1)) (rdNumber s r).2 := by
  unfold rdNumber at h ⊢
  split at h
  · exact absurd h (wrong_err (by decide))
  · rename_i n hn
    split at h
    · rename_i h0
      rw [if_pos h0]
      refine ⟨h0, rfl, ?_⟩
      rw [zz_uz, ← List.drop_drop]
      exact reads_drop (rd_some hn)
    · rename_i h0
      exact absurd h h0
theorem rdByte_over (hr : r.at_ ≤ s.length) (h : (rdByte s r).2.err = 0) : Over s r [(rdByte s r).1] (rdByte s r).2 := by
  unfold rdByte at h ⊢
  split at h
  · exact absurd h (wrong_err (by decide))
  · rename_i hl
    rw [if_neg hl]
    split at h
    · rename_i h0
      rw [if_pos h0]
      refine ⟨h0, rfl, ?_⟩
      have hlt : r.at_ < s.length := by omega
      show _ = [s.getD r.at_ 0] ++ _
      rw [List.drop_eq_getElem_cons hlt, List.getD_eq_getElem?_getD, List.getElem?_eq_getElem hlt]
      rfl
    · rename_i h0
      exact absurd h h0
theorem rdIns_over (hr : r.at_ ≤ s.length) (h : (rdIns s r).2.err = 0) : Over s r (insL (rdIns s r).1) (rdIns s r).2 := by
  unfold rdIns at h ⊢
  unfold insL
  by_cases hn : hasN ((rdByte s r).1 : Int) = true
  · rw [if_pos hn] at h ⊢
    dsimp only at h ⊢
    rw [if_pos hn]
    have h2 := rdNumber_over h
    have h1 := rdByte_over hr h2.1
    exact h1.then h2
  · rw [if_neg hn] at h ⊢
    dsimp only at h ⊢
    rw [if_neg hn]
    exact rdByte_over hr h
theorem rdBytes_over : ∀ (n : Nat) (r : Rd), r.at_ ≤ s.length → (rdBytes s n r).2.err = 0 → Over s r (kindsL (rdBytes s n r).1) (rdBytes s n r).2
  | 0, _, _, h => over_nil h
  | n + 1, r, hr, h => by
    have h2 := rdBytes_over n _ (rdByte_le hr) h
    exact (rdByte_over hr h2.1).then h2
theorem rdInss_over : ∀ (n : Nat) (r : Rd), r.at_ ≤ s.length → (rdInss s n r).2.err = 0 → Over s r ((rdInss s n r).1.flatMap insL) (rdInss s n r).2
  | 0, _, _, h => over_nil h
  | n + 1, r, hr, h => by
    have h2 := rdInss_over n _ (rdIns_le hr) h
    have := (rdIns_over hr h2.1).then h2
    unfold rdInss
    rw [List.flatMap_cons]
    exact this
theorem rdEnd_over (h : rdEnd s r = 0) : r.err = 0 ∧ s.drop r.at_ = [] := by
  unfold rdEnd at h
  split at h
  · rename_i h0
    exact ⟨h, by rw [h0, List.drop_length]⟩
  · exact absurd h (wrong_err (by decide))
theorem fn_one' {c1 c2 c4 c5 : Nat × Rd} {c3 : List Int × Rd} {c6 : List In × Rd} (h1 : rdCount s 12 ⟨0, 0⟩ = c1) (h2 : rdCount s 12 c1.2 = c2) (h3 : rdBytes s c2.1 c2.2 = c3) (h4 : rdByte s c3.2 = c4) (h5 : rdCount s 9000 c4.2 = c5) (h6 : rdInss s c5.1 c5.2 = c6) (h : rdEnd s c6.2 = 0) :
    Vy.enc c1.1 ++ Vy.enc c3.1.length ++ kindsL c3.1 ++ [c4.1] ++ Vy.enc c6.1.length ++ c6.1.flatMap insL = s := by
  obtain ⟨h0, hd⟩ := rdEnd_over h
  have l1 : c1.2.at_ ≤ s.length := by rw [← h1]; exact rdCount_le (Nat.zero_le _)
  have l2 : c2.2.at_ ≤ s.length := by rw [← h2]; exact rdCount_le l1
  have l3 : c3.2.at_ ≤ s.length := by rw [← h3]; exact rdBytes_le _ _ l2
  have l4 : c4.2.at_ ≤ s.length := by rw [← h4]; exact rdByte_le l3
  have l5 : c5.2.at_ ≤ s.length := by rw [← h5]; exact rdCount_le l4
  have o6 : Over s c5.2 (c6.1.flatMap insL) c6.2 := by rw [← h6] at h0 ⊢; exact rdInss_over _ _ l5 h0
  have o5 : Over s c4.2 (Vy.enc c5.1) c5.2 := by have := o6.1; rw [← h5] at this ⊢; exact (rdCount_over this).1
  have o4 : Over s c3.2 [c4.1] c4.2 := by have := o5.1; rw [← h4] at this ⊢; exact rdByte_over l3 this
  have o3 : Over s c2.2 (kindsL c3.1) c3.2 := by have := o4.1; rw [← h3] at this ⊢; exact rdBytes_over _ _ l2 this
  have o2 : Over s c1.2 (Vy.enc c2.1) c2.2 := by have := o3.1; rw [← h2] at this ⊢; exact (rdCount_over this).1
  have o1 : Over s ⟨0, 0⟩ (Vy.enc c1.1) c1.2 := by have := o2.1; rw [← h1] at this ⊢; exact (rdCount_over this).1
  have this := (((((o1.then o2).then o3).then o4).then o5).then o6).2.2
  rw [hd, List.append_nil, show s.drop (Rd.at_ ⟨0, 0⟩) = s from rfl] at this
  have e3 : c3.1.length = c2.1 := by rw [← h3]; exact rdBytes_len _ _
  have e6 : c6.1.length = c5.1 := by rw [← h6]; exact rdInss_len _ _
  rw [e3, e6]
  exact this.symm
theorem fnL_of (a : Nat) (l : List Int) (b : Nat) (c : List In) : fnL ⟨(a : Int), l, (b : Int), c⟩ = Vy.enc a ++ Vy.enc l.length ++ kindsL l ++ [b] ++ Vy.enc c.length ++ c.flatMap insL := rfl
theorem fn_one (h : rdFnE s = 0) : fnL (rdFnV s) = s := by
  unfold rdFnV
  rw [fnL_of]
  exact fn_one' (c1 := rdFn1 s) (c2 := rdFn2 s) (c3 := rdFn3 s) (c4 := rdFn4 s) (c5 := rdFn5 s) (c6 := rdFn6 s) (by unfold rdFn1; rfl) (by unfold rdFn2; rfl) (by unfold rdFn3; rfl) (by unfold rdFn4; rfl) (by unfold rdFn5; rfl) (by unfold rdFn6; rfl) (by unfold rdFnE at h; exact h)
theorem rdFns_cons (k : Nat) (p : WPart) (r : List WPart) : rdFns k (p :: r) = if p.1 = (98 + k) % 256 then (if rdFnE (bs p.2) = 0 then (rdFnV (bs p.2) :: (rdFns (k + 1) r).1, (rdFns (k + 1) r).2) else ([rdFnV (bs p.2)], rdFnE (bs p.2))) else ([], 3) := rfl
theorem fns_one : ∀ (ps : List WPart) (k : Nat), k + ps.length ≤ 150 → (rdFns k ps).2 = 0 → fnParts k (rdFns k ps).1 = ps
  | [], _, _, _ => rfl
  | p :: ps, k, hk, h => by
    rw [List.length_cons] at hk
    rw [rdFns_cons] at h ⊢
    by_cases h1 : p.1 = (98 + k) % 256
    · rw [if_pos h1] at h ⊢
      by_cases h2 : rdFnE (bs p.2) = 0
      · rw [if_pos h2] at h ⊢
        dsimp only at h ⊢
        have ih := fns_one ps (k + 1) (by omega) h
        unfold fnParts
        rw [ih, fn_one h2, txt_bs]
        have : p.1 = 98 + k := by omega
        rw [← this]
      · rw [if_neg h2] at h
        dsimp only at h
        exact absurd h h2
    · rw [if_neg h1] at h
      cases h
theorem rdFns_len : ∀ (ps : List WPart) (k : Nat), (rdFns k ps).1.length ≤ ps.length
  | [], _ => Nat.le_refl _
  | p :: ps, k => by
    have ih := rdFns_len ps (k + 1)
    unfold rdFns
    split
    · split
      · simp; omega
      · simp
    · simp
theorem dec_one {re k : Nat} {ps : List WPart} (h : decE re k ps = 0) : re = 0 ∧ k = 80 ∧ PgR (decV re k ps) ∧ partsC (decV re k ps) = ps := by
  have h' := h
  unfold decE at h'
  by_cases hr : re = 0
  · rw [if_pos hr] at h'
    unfold decV
    rw [if_pos h]
    cases ps with
    | nil => cases h'
    | cons first rest =>
      dsimp only at h' ⊢
      by_cases hc : k = 80 ∧ first.1 = 97
      · rw [if_pos hc] at h'
        by_cases hl : 12 < rest.length
        · rw [if_pos hl] at h'; cases h'
        · rw [if_neg hl] at h'
          by_cases hp : (rdParts first rest).2 = 0
          · rw [if_pos hp] at h'
            refine ⟨hr, hc.1, (progE_iff _).1 h', ?_⟩
            unfold rdParts at hp ⊢
            by_cases hh : (rdHead (bs first.2)).2 = 0
            · rw [if_pos hh] at hp ⊢
              unfold partsC
              dsimp only at hp ⊢
              rw [fns_one rest 0 (by omega) hp]
              have hd : rdEnd (bs first.2) (rdCount (bs first.2) 8 ⟨0, 0⟩).2 = 0 := hh
              obtain ⟨he, hdr⟩ := rdEnd_over hd
              obtain ⟨ho, _⟩ := rdCount_over he
              have := ho.2.2
              rw [hdr, List.append_nil] at this
              have e0 : (bs first.2).drop (Rd.at_ ⟨0, 0⟩) = bs first.2 := rfl
              rw [e0] at this
              have e1 : (((rdHead (bs first.2)).1 : Nat) : Int).toNat = (rdCount (bs first.2) 8 ⟨0, 0⟩).1 := rfl
              rw [e1, ← this, txt_bs, ← hc.2]
            · rw [if_neg hh] at hp
              exact absurd hp hh
          · rw [if_neg hp] at h'
            exact absurd h' hp
      · rw [if_neg hc] at h'; cases h'
  · rw [if_neg hr] at h'
    exact absurd h' hr
end Cd
end Go.Proofs.YtkeglkneobngnaaDoor

namespace Go.Proofs.YtkeglkneobngnaaDoor
open Go.RowKit

structure Keeps (S : Nat → Prop) (w w' : World) : Prop where
  os : w'.os = w.os
  tape : w'.tape = w.tape
  output : w'.output = w.output
  size : w.heap.size ≤ w'.heap.size
  block : ∀ k, k < w.heap.size → ¬ S k → w'.heap[k]? = w.heap[k]?

namespace Keeps
variable {S : Nat → Prop} {a w w' : World}
theorem refl (S : Nat → Prop) (w : World) : Keeps S w w := ⟨rfl, rfl, rfl, Nat.le_refl _, fun _ _ _ => rfl⟩
theorem trans (h : Keeps S a w) (k : Keeps S w w') : Keeps S a w' :=
  ⟨k.os.trans h.os, k.tape.trans h.tape, k.output.trans h.output, Nat.le_trans h.size k.size, fun i hi hs => (k.block i (Nat.lt_of_lt_of_le hi h.size) hs).trans (h.block i hi hs)⟩
/-- The second one may also write what is new. -/
theorem trans' {S' : Nat → Prop} (h : Keeps S a w) (k : Keeps S' w w') (hs : ∀ i, i < a.heap.size → S' i → S i) : Keeps S a w' :=
  ⟨k.os.trans h.os, k.tape.trans h.tape, k.output.trans h.output, Nat.le_trans h.size k.size, fun i hi hn => (k.block i (Nat.lt_of_lt_of_le hi h.size) (fun e => hn (hs i hi e))).trans (h.block i hi hn)⟩
theorem mono {S' : Nat → Prop} (h : Keeps S w w') (hs : ∀ i, i < w.heap.size → S i → S' i) : Keeps S' w w' :=
  ⟨h.os, h.tape, h.output, h.size, fun i hi hn => h.block i hi (fun e => hn (hs i hi e))⟩
theorem alloc (h : Keeps S a w) (o : Obj) : Keeps S a (w.alloc o) :=
  h.trans ⟨rfl, rfl, rfl, by simp, fun k hk _ => Below.heap_alloc _ _ _ hk⟩
theorem drew (h : Keeps S a w) : Keeps S a w.drew := ⟨h.os, h.tape, h.output, h.size, h.block⟩
theorem setCell (h : Keeps S a w) {p : Addr} (hp : S p.block ∨ a.heap.size ≤ p.block) (u : Value) : Keeps S a (w.setCell p u) :=
  ⟨h.os, h.tape, h.output, by simpa [World.setCell] using h.size, fun k hk hn => (Below.heap_setCell _ _ _ _ (by rintro rfl; rcases hp with hp | hp; exact hn hp; omega)).trans (h.block k hk hn)⟩
theorem of_below {B : Nat} (h : Below B w w') (hs : ∀ k, k < w.heap.size → B ≤ k → S k) : Keeps S w w' :=
  ⟨h.os, h.tape, h.output, h.size, fun k hk hn => h.block k (Nat.lt_of_not_le fun e => hn (hs k hk e))⟩
theorem of_new (h : Below w.heap.size w w') : Keeps S w w' := of_below h fun k hk e => by omega
theorem of_grownBy {row : Option Nat} (h : w.grownBy w' row) (hs : ∀ k, k < w.heap.size → row = some k → S k) : Keeps S w w' :=
  ⟨h.os, h.tape, h.output, h.size, fun k hk hn => h.block k hk (fun e => hn (hs k hk e.symm))⟩
theorem below {B : Nat} (h : Keeps S w w') (hB : B ≤ w.heap.size) (hs : ∀ k, k < w.heap.size → S k → B ≤ k) : Below B w w' :=
  ⟨h.os, h.tape, h.output, h.size, fun k hk => h.block k (Nat.lt_of_lt_of_le hk hB) (fun e => by have := hs k (by omega) e; omega)⟩
theorem cell (h : Keeps S w w') {p : Addr} (hp : p.block < w.heap.size) (hn : ¬ S p.block) : w'.cell? p = w.cell? p := World.cell?_of_block (w := w) (h.block p.block hp hn)
theorem cell_of (h : Keeps S w w') {p : Addr} {v : Value} (hv : w.cell? p = some v) (hn : ¬ S p.block) : w'.cell? p = some v := by
  rw [h.cell (block_lt_of_cell hv) hn]; exact hv
theorem frozen (h : Keeps S w w') {p : Addr} (hp : p.block < w.heap.size) (hn : ¬ S p.block) : w'.frozen? p = w.frozen? p := World.frozen?_of_block (w := w) (h.block p.block hp hn)
theorem row (h : Keeps S w w') {base : Nat} {e : TypeId} {size : Nat} {v : Value} {n : Nat} {xs : List Value} (ho : w.ownsRow base e size v n xs) (hn : ∀ k, v.ownBlock = some k → ¬ S k) : w'.ownsRow base e size v n xs := by
  obtain ⟨h1, h2⟩ := ho
  refine ⟨h1, ?_⟩
  rcases h2 with ⟨rfl, h3⟩ | ⟨g, cap, cur, rfl, h3, h4, h5⟩
  · exact Or.inl ⟨rfl, h3⟩
  · exact Or.inr ⟨g, cap, cur, rfl, h3, by
      rw [h.block g (Array.getElem?_eq_some_iff.1 h4).1 (hn g rfl)]; exact h4, h5⟩
theorem map {H : Type} {P : Program} {k : TypeId} {R : Value → Option (DataW H × List MemPlace)} {b n : Nat} {D : DataW H} (h : Keeps S w w') (ho : w.ownsMap P k R b n D) (hn : ¬ S b) : w'.ownsMap P k R b n D := by
  obtain ⟨es, clock, h1, h2⟩ := ho
  exact ⟨es, clock, by rw [h.block b (Array.getElem?_eq_some_iff.1 h1).1 hn]; exact h1, h2⟩
end Keeps
end Go.Proofs.YtkeglkneobngnaaDoor

namespace Go.Proofs.YtkeglkneobngnaaDoor
open Go.RowKit Go.ChangeShapes Go.WideShapes Go.ChangeAt

/-- A slice of numbers of kind k: as many as l has; if there is any, they stand side by side. -/
def NumsAt (k : IntKind) (w : World) (v : Value) (l : List Int) : Prop :=
  ∃ ao n cap, v = .slice ao n cap ∧ n = l.length ∧ n ≤ cap ∧ cap ≤ maxLen ∧ (0 < n → ∃ b o, ao = some ⟨b, o, none⟩ ∧ b < w.heap.size ∧ ∀ i, i < n → w.cell? ⟨b, o + i, none⟩ = some (.int k (l.getD i 0))) ∧ ∀ x ∈ l, (Lit.int k x).wf = true

theorem NumsAt.below {k : IntKind} {w w' : World} {v : Value} {l : List Int} (h : NumsAt k w v l) (hb : Below w.heap.size w w') : NumsAt k w' v l := by
  obtain ⟨ao, n, cap, hv, hn, hc, hm, hx, hw⟩ := h
  refine ⟨ao, n, cap, hv, hn, hc, hm, fun h0 => ?_, hw⟩
  obtain ⟨b, o, h1, h2, h3⟩ := hx h0
  refine ⟨b, o, h1, Nat.lt_of_lt_of_le h2 hb.size, fun i hi => ?_⟩
  rw [hb.cell (p := ⟨b, o + i, none⟩) h2]; exact h3 i hi

theorem numsAt_open {H : Type} {enc : TypeId × Value → H} {P : Program} {W : World} {base : Nat} {spare : Nat → Bool} {held : Bool} {t e : TypeId} {k : IntKind} {ao : Option Addr} {len cap : Nat} {d : DataW H} {p : List MemPlace}
    (ht : P.underlying t = some (.slice e)) (he : P.underlying e = some (.int k)) (hc : P.cellsOf e = 1) (h : DataW.Trod enc P W base spare held t (.slice ao len cap) d p) : ∃ l, NumsAt k W (.slice ao len cap) l := by
  obtain ⟨fuel, hf⟩ := h
  rcases open_ints ht he hc hf with ⟨hcs, _⟩ | ⟨x, l, c, zs, hcs, _, hl, hm, hz, _, hcell, hwz⟩
  · simp [Value.cells] at hcs
    obtain ⟨rfl, rfl, rfl⟩ := hcs
    exact ⟨[], _, _, _, rfl, rfl, Nat.le_refl _, Nat.zero_le _, fun h => absurd h (Nat.lt_irrefl _), fun x hx => by cases hx⟩
  · simp [Value.cells] at hcs
    obtain ⟨rfl, rfl, rfl⟩ := hcs
    have hlz : len ≤ zs.length := by rw [hz]; split <;> omega
    refine ⟨zs.take len, _, _, _, rfl, by rw [List.length_take]; omega, hl, hm, fun h0 => ?_, fun x hx => hwz x (List.mem_of_mem_take hx)⟩
    obtain ⟨b, o, sp⟩ := x
    have h1 := hcell 0 (by omega)
    have hspot : sp = none := by simpa [Addr.add] using World.cell?_spot h1
    subst hspot
    refine ⟨b, o, rfl, World.block_lt_of_cell? _ _ (hcell 0 (by omega)), fun i hi => ?_⟩
    have := hcell i (by omega)
    rw [add_plain] at this
    rw [this]
    simp [List.getD_eq_getElem?_getD, hi]
end Go.Proofs.YtkeglkneobngnaaDoor

namespace Go.Proofs.YtkeglkneobngnaaDoor
open Go.RowKit

/-- A slice that reads as these numbers. -/
def IntsAt (w : World) (v : Value) (xs : List Int) : Prop :=
  ∃ ao n cap, v = .slice ao n cap ∧ n = xs.length ∧ n ≤ cap ∧ cap ≤ maxLen ∧ (0 < n → ∃ b o, ao = some ⟨b, o, none⟩ ∧ b < w.heap.size ∧ ∀ i, i < n → w.cell? ⟨b, o + i, none⟩ = some (.int .i64 (xs.getD i 0)))
theorem NumsAt.ints {w : World} {v : Value} {l : List Int} (h : NumsAt .i64 w v l) : IntsAt w v l := by
  obtain ⟨ao, n, cap, h1, h2, h3, h4, h5, _⟩ := h
  exact ⟨ao, n, cap, h1, h2, h3, h4, h5⟩
theorem intsAt_nil (w : World) : IntsAt w (.slice none 0 0) [] := ⟨none, 0, 0, rfl, rfl, Nat.le_refl _, Nat.zero_le _, fun h => absurd h (Nat.lt_irrefl _)⟩
theorem IntsAt.below {w w' : World} {v : Value} {l : List Int} (h : IntsAt w v l) (hb : Below w.heap.size w w') : IntsAt w' v l := by
  obtain ⟨ao, n, cap, hv, hn, hc, hm, hx⟩ := h
  refine ⟨ao, n, cap, hv, hn, hc, hm, fun h0 => ?_⟩
  obtain ⟨b, o, h1, h2, h3⟩ := hx h0
  refine ⟨b, o, h1, Nat.lt_of_lt_of_le h2 hb.size, fun i hi => ?_⟩
  rw [hb.cell (p := ⟨b, o + i, none⟩) h2]; exact h3 i hi
/-- Where it lies. -/
def Off (v : Value) (S : Nat → Prop) : Prop := ∀ k, v.ownBlock = some k → ¬ S k
theorem IntsAt.keeps {S : Nat → Prop} {w w' : World} {v : Value} {l : List Int} (h : IntsAt w v l) (hk : Keeps S w w') (ho : Off v S) : IntsAt w' v l := by
  obtain ⟨ao, n, cap, hv, hn, hc, hm, hx⟩ := h
  refine ⟨ao, n, cap, hv, hn, hc, hm, fun h0 => ?_⟩
  obtain ⟨b, o, h1, h2, h3⟩ := hx h0
  refine ⟨b, o, h1, Nat.lt_of_lt_of_le h2 hk.size, fun i hi => ?_⟩
  exact hk.cell_of (h3 i hi) (ho b (by rw [hv, h1]; rfl))

/-- A slice of the call's own, with its array's head, in a block from B on. -/
def OwnI (w : World) (B : Nat) (v : Value) (xs : List Int) : Prop := w.ownsRow B 3 1 v xs.length (xs.map (Value.int .i64))
theorem ownI_nil (w : World) (B : Nat) : OwnI w B (.slice none 0 0) [] := World.ownsRow_nil _ _ _ _
theorem OwnI.off {w : World} {B : Nat} {v : Value} {xs : List Int} (h : OwnI w B v xs) {S : Nat → Prop} (hs : ∀ k, S k → k < B) : Off v S := fun k hk e => by
  have := (World.ownsRow.lt h k hk).1
  have := hs k e
  omega
theorem OwnI.keeps {w w' : World} {B : Nat} {v : Value} {xs : List Int} {S : Nat → Prop} (h : OwnI w B v xs) (hk : Keeps S w w') (hs : Off v S) : OwnI w' B v xs := hk.row h hs
theorem OwnI.ints {w : World} {B : Nat} {v : Value} {xs : List Int} (h : OwnI w B v xs) : IntsAt w v xs := by
  have hc := h
  rcases h.2 with ⟨rfl, h0⟩ | ⟨g, cap, cur, rfl, hb, hg, h3, h4, h5, h6⟩
  · obtain rfl : xs = [] := List.eq_nil_of_length_eq_zero h0
    exact intsAt_nil w
  · refine ⟨_, _, _, rfl, rfl, h3, h4, fun _ => ⟨g, 0, rfl, (Array.getElem?_eq_some_iff.1 hg).1, fun i hi => ?_⟩⟩
    have := World.ownsRow.cells hc (g := g) rfl i (.int .i64 (xs.getD i 0)) (by simp [List.getD_eq_getElem?_getD, hi])
    have ha : (⟨g, 0, none⟩ : Addr).add i = ⟨g, 0 + i, none⟩ := by unfold Addr.add; split <;> simp_all
    rw [ha] at this
    exact this
theorem OwnI.mk {w : World} {B : Nat} {v : Value} {xs : List Int} (n : Nat) (x : Int) (hn : n = xs.length) (h : w.ownsRow B 3 1 v (n + 1) (xs.map (Value.int .i64) ++ [Value.int .i64 x])) : OwnI w B v (xs ++ [x]) := by
  subst hn
  unfold OwnI
  rw [List.map_append, List.length_append]
  exact h
theorem OwnI.le {w : World} {B : Nat} {v : Value} {xs : List Int} (h : OwnI w B v xs) : ∀ k, v.ownBlock = some k → B ≤ k := fun k hk => (World.ownsRow.lt h k hk).1
theorem OwnI.slice {w : World} {B : Nat} {v : Value} {xs : List Int} (h : OwnI w B v xs) : ∃ ao cap, v = .slice ao xs.length cap := by
  rcases h.2 with ⟨rfl, h0⟩ | ⟨g, cap, cur, rfl, _⟩
  · exact ⟨none, 0, by rw [h0]⟩
  · exact ⟨_, _, rfl⟩
/-- What an append has turned: the one-cell block, and the slice's own row. -/
theorem keeps_append {w w' : World} {o : Obj} {v : Value} {S : Nat → Prop} (hg : (w.alloc o).grownBy w' v.ownBlock) (hs : ∀ k, v.ownBlock = some k → S k) : Keeps S w w' :=
  ((Keeps.refl S w).alloc o).trans' (Keeps.of_grownBy hg fun k _ e => hs k e) fun _ _ e => e

theorem info_int : (Tryd.prog.info? 3).map (fun i => (i.zero, i.size, i.bytes)) = some (some (.int .i64 0), 1, 8) := by kernel_rfl

/-- 'xs = append(xs, y)' on a slice of the call's own: what has turned is its own row; the new one lies there, or in a new block. -/
theorem wpList_appendI {ops : Array Oper} {rest : List Oper} {o : Oper} {a : Act} {Q : Exit → Act → World → Prop} (hgd : o.guard = none) (s x : Operand)
    (ho : o.op = .call { callee := .builtin .append, args := #[s, x], argTypes := #[41, 41] }) (w : World) (B : Nat) (v : Value) (xs : List Int) (y : Int) (hown : OwnI w B v xs) (hs : a.eval s = v)
    (hx : a.eval x = .slice (some ⟨w.heap.size, 0, none⟩) 1 1) (hl : xs.length ≤ 1000000) (hB : B ≤ w.heap.size)
    (h : ∀ ao' cap' w', OwnI w' B (.slice ao' (xs.length + 1) cap') (xs ++ [y]) → Keeps (fun b => v.ownBlock = some b) w w' → (∀ k, (Value.slice ao' (xs.length + 1) cap').ownBlock = some k → v.ownBlock = some k ∨ w.heap.size ≤ k) →
      wpList Tryd.prog ops Q rest (a.put o.dst (.slice ao' (xs.length + 1) cap')) w') : wpList Tryd.prog ops Q (o :: rest) a (w.alloc (.cells #[.int .i64 y] 3)) := by
  obtain ⟨i0, hi, hz0, hz1, hz2⟩ := info_parts info_int
  refine wpList_append_own_at _ hgd s x 41 ho B 3 i0 (.int .i64 0) 1 8 Tryd.underlying41 hi hz0 hz1 hz2 rfl (by decide) v xs.length (xs.map (Value.int .i64)) hs (World.ownsRow.alloc hown _) ⟨w.heap.size, 0, none⟩ 1 1 [.int .i64 y] hx rfl
    (cell_one_new _ _ _) (fun u hu => by simp at hu; subst hu; rfl) (by unfold maxLen; omega) (by omega) (by simp; omega) ?_
  intro v' w' h1 h2 _ h4
  have hO : OwnI w' B v' (xs ++ [y]) := OwnI.mk _ y rfl h1
  obtain ⟨ao', cap', e⟩ := hO.slice
  rw [List.length_append] at e
  have e' : v' = .slice ao' (xs.length + 1) cap' := e
  subst e'
  refine h _ _ _ hO (keeps_append h2 fun k e => e) fun k hk => ?_
  rcases h4 with h4 | h4
  · exact Or.inl (h4 ▸ hk)
  · rw [h4] at hk
    cases hk
    exact Or.inr (by simp)

/-- How many a slice has. -/
def lenI : Value → Nat | .slice _ n _ => n | _ => 0
/-- Two slices that lie in no block together. -/
def ApartI (v u : Value) : Prop := ∀ k, v.ownBlock = some k → u.ownBlock ≠ some k
theorem ApartI.symm {v u : Value} (h : ApartI v u) : ApartI u v := fun k hk e => h k e hk
theorem apartI_nil (u : Value) : ApartI (.slice none 0 0) u := fun k hk => by cases hk
theorem ApartI.append {w : World} {v u v' : Value} (h : ApartI v u) {B : Nat} {ys : List Int} (hu : OwnI w B u ys) (hn : ∀ k, v'.ownBlock = some k → v.ownBlock = some k ∨ w.heap.size ≤ k) : ApartI v' u := fun k hk e => by
  have hlt := (World.ownsRow.lt hu k e).2
  rcases hn k hk with h1 | h1
  · exact h k h1 e
  · omega
theorem ApartI.off {v u : Value} (h : ApartI v u) : Off u (fun b => v.ownBlock = some b) := fun k hk e => h k e hk
end Go.Proofs.YtkeglkneobngnaaDoor

namespace Go.Proofs.YtkeglkneobngnaaDoor
open Go.RowKit Cd

/-- A slice that reads as these instructions. -/
def InsAt (w : World) (v : Value) (l : List In) : Prop :=
  ∃ ao n cap, v = .slice ao n cap ∧ n = l.length ∧ n ≤ cap ∧ cap ≤ maxLen ∧ (0 < n → ∃ b o, ao = some ⟨b, o, none⟩ ∧ b < w.heap.size ∧ ∀ i x, l[i]? = some x → w.cell? ⟨b, o + i * 2, none⟩ = some (.int .i64 x.1) ∧ w.cell? ⟨b, o + i * 2 + 1, none⟩ = some (.int .i64 x.2))
theorem insAt_nil (w : World) : InsAt w (.slice none 0 0) [] := ⟨none, 0, 0, rfl, rfl, Nat.le_refl _, Nat.zero_le _, fun h => absurd h (Nat.lt_irrefl _)⟩
theorem InsAt.keeps {S : Nat → Prop} {w w' : World} {v : Value} {l : List In} (h : InsAt w v l) (hk : Keeps S w w') (ho : Off v S) : InsAt w' v l := by
  obtain ⟨ao, n, cap, hv, hn, hc, hm, hx⟩ := h
  refine ⟨ao, n, cap, hv, hn, hc, hm, fun h0 => ?_⟩
  obtain ⟨b, o, h1, h2, h3⟩ := hx h0
  have hs : ¬ S b := ho b (by rw [hv, h1]; rfl)
  exact ⟨b, o, h1, Nat.lt_of_lt_of_le h2 hk.size, fun i x hi => ⟨hk.cell_of (h3 i x hi).1 hs, hk.cell_of (h3 i x hi).2 hs⟩⟩
theorem off_none (v : Value) : Off v fun _ => False := fun _ _ => id
theorem keeps_none {w w' : World} (h : Below w.heap.size w w') : Keeps (fun _ => False) w w' := Keeps.of_new h
theorem InsAt.below {w w' : World} {v : Value} {l : List In} (h : InsAt w v l) (hb : Below w.heap.size w w') : InsAt w' v l := h.keeps (keeps_none hb) (off_none _)
/-- A function, in four cells. -/
def FnAt (w : World) (b o : Nat) (f : FnV) : Prop :=
  w.cell? ⟨b, o, none⟩ = some (.int .i64 f.params) ∧ (∃ v, w.cell? ⟨b, o + 1, none⟩ = some v ∧ IntsAt w v f.locals) ∧ w.cell? ⟨b, o + 2, none⟩ = some (.int .i64 f.kind) ∧ ∃ v, w.cell? ⟨b, o + 3, none⟩ = some v ∧ InsAt w v f.code
theorem FnAt.below {w w' : World} {b o : Nat} {f : FnV} (h : FnAt w b o f) (hb : Below w.heap.size w w') : FnAt w' b o f := by
  obtain ⟨h1, ⟨v, h2, h3⟩, h4, u, h5, h6⟩ := h
  have k := keeps_none hb
  exact ⟨k.cell_of h1 id, ⟨v, k.cell_of h2 id, h3.below hb⟩, k.cell_of h4 id, u, k.cell_of h5 id, h6.below hb⟩
/-- A slice that reads as these functions. -/
def FnsAt (w : World) (v : Value) (l : List FnV) : Prop :=
  ∃ ao n cap, v = .slice ao n cap ∧ n = l.length ∧ n ≤ cap ∧ cap ≤ maxLen ∧ (0 < n → ∃ b o, ao = some ⟨b, o, none⟩ ∧ b < w.heap.size ∧ ∀ i f, l[i]? = some f → FnAt w b (o + i * 4) f)
theorem fnsAt_nil (w : World) : FnsAt w (.slice none 0 0) [] := ⟨none, 0, 0, rfl, rfl, Nat.le_refl _, Nat.zero_le _, fun h => absurd h (Nat.lt_irrefl _)⟩
theorem FnsAt.below {w w' : World} {v : Value} {l : List FnV} (h : FnsAt w v l) (hb : Below w.heap.size w w') : FnsAt w' v l := by
  obtain ⟨ao, n, cap, hv, hn, hc, hm, hx⟩ := h
  refine ⟨ao, n, cap, hv, hn, hc, hm, fun h0 => ?_⟩
  obtain ⟨b, o, h1, h2, h3⟩ := hx h0
  exact ⟨b, o, h1, Nat.lt_of_lt_of_le h2 hb.size, fun i x hi => (h3 i x hi).below hb⟩
/-- A program, as a value. -/
def ProgAt (w : World) (v : Value) (p : Pg) : Prop := ∃ vf, v = .agg #[.int .i64 p.globals, vf] ∧ FnsAt w vf p.fns
theorem ProgAt.below {w w' : World} {v : Value} {p : Pg} (h : ProgAt w v p) (hb : Below w.heap.size w w') : ProgAt w' v p := by
  obtain ⟨vf, h1, h2⟩ := h
  exact ⟨vf, h1, h2.below hb⟩
theorem progAt_zero (w : World) : ProgAt w (.agg #[.int .i64 0, .slice none 0 0]) ⟨0, []⟩ := ⟨_, rfl, fnsAt_nil w⟩
end Go.Proofs.YtkeglkneobngnaaDoor

namespace Go.Proofs.YtkeglkneobngnaaDoor
open Go.RowKit

/-- An error by its number: nil for 0. -/
def errV (re : Nat) : Value := if re = 0 then .nilIface else .iface 26 (.int .i64 re)
theorem errV_0 : errV 0 = .nilIface := rfl
theorem errV_2 : errV 2 = .iface 26 (.int .i64 2) := rfl
theorem errV_3 : errV 3 = .iface 26 (.int .i64 3) := rfl
end Go.Proofs.YtkeglkneobngnaaDoor

namespace Go.Proofs.YtkeglkneobngnaaDoor
open Go.RowKit Cd

set_option maxRecDepth 100000 in
set_option maxHeartbeats 800000 in
theorem span_1 (w : World) : Calls Tryd.prog 79 #[.int .i64 1] w fun e w' => e = .returned (.tuple #[.int .i64 (-9223372036854775808), .int .i64 9223372036854775807]) ∧ w' = w := by
  go_enter Tryd.func79, Tryd.ntmps79
  go_wp2_with fail
  go_ret2
  exact ⟨rfl, rfl⟩
set_option maxRecDepth 100000 in
set_option maxHeartbeats 800000 in
theorem span_2 (w : World) : Calls Tryd.prog 79 #[.int .i64 2] w fun e w' => e = .returned (.tuple #[.int .i64 (0), .int .i64 1]) ∧ w' = w := by
  go_enter Tryd.func79, Tryd.ntmps79
  go_wp2_with fail
  go_ret2
  exact ⟨rfl, rfl⟩
set_option maxRecDepth 100000 in
set_option maxHeartbeats 800000 in
theorem span_8 (w : World) : Calls Tryd.prog 79 #[.int .i64 8] w fun e w' => e = .returned (.tuple #[.int .i64 (1), .int .i64 16]) ∧ w' = w := by
  go_enter Tryd.func79, Tryd.ntmps79
  go_wp2_with fail
  go_ret2
  exact ⟨rfl, rfl⟩
set_option maxRecDepth 100000 in
set_option maxHeartbeats 800000 in
theorem span_9 (w : World) : Calls Tryd.prog 79 #[.int .i64 9] w fun e w' => e = .returned (.tuple #[.int .i64 (17), .int .i64 19]) ∧ w' = w := by
  go_enter Tryd.func79, Tryd.ntmps79
  go_wp2_with fail
  go_ret2
  exact ⟨rfl, rfl⟩
set_option maxRecDepth 100000 in
set_option maxHeartbeats 800000 in
theorem span_4 (w : World) : Calls Tryd.prog 79 #[.int .i64 4] w fun e w' => e = .returned (.tuple #[.int .i64 (0), .int .i64 9223372036854775807]) ∧ w' = w := by
  go_enter Tryd.func79, Tryd.ntmps79
  go_wp2_with fail
  go_ret2
  exact ⟨rfl, rfl⟩
set_option maxRecDepth 100000 in
set_option maxHeartbeats 800000 in
theorem span_5 (w : World) : Calls Tryd.prog 79 #[.int .i64 5] w fun e w' => e = .returned (.tuple #[.int .i64 (0), .int .i64 9223372036854775807]) ∧ w' = w := by
  go_enter Tryd.func79, Tryd.ntmps79
  go_wp2_with fail
  go_ret2
  exact ⟨rfl, rfl⟩
set_option maxRecDepth 100000 in
set_option maxHeartbeats 800000 in
theorem span_6 (w : World) : Calls Tryd.prog 79 #[.int .i64 6] w fun e w' => e = .returned (.tuple #[.int .i64 (0), .int .i64 9223372036854775807]) ∧ w' = w := by
  go_enter Tryd.func79, Tryd.ntmps79
  go_wp2_with fail
  go_ret2
  exact ⟨rfl, rfl⟩
set_option maxRecDepth 100000 in
set_option maxHeartbeats 800000 in
theorem span_7 (w : World) : Calls Tryd.prog 79 #[.int .i64 7] w fun e w' => e = .returned (.tuple #[.int .i64 (0), .int .i64 9223372036854775807]) ∧ w' = w := by
  go_enter Tryd.func79, Tryd.ntmps79
  go_wp2_with fail
  go_ret2
  exact ⟨rfl, rfl⟩
set_option maxRecDepth 100000 in
set_option maxHeartbeats 800000 in
theorem span_11 (w : World) : Calls Tryd.prog 79 #[.int .i64 11] w fun e w' => e = .returned (.tuple #[.int .i64 (0), .int .i64 9223372036854775807]) ∧ w' = w := by
  go_enter Tryd.func79, Tryd.ntmps79
  go_wp2_with fail
  go_ret2
  exact ⟨rfl, rfl⟩
set_option maxRecDepth 100000 in
set_option maxHeartbeats 800000 in
theorem span_12 (w : World) : Calls Tryd.prog 79 #[.int .i64 12] w fun e w' => e = .returned (.tuple #[.int .i64 (0), .int .i64 9223372036854775807]) ∧ w' = w := by
  go_enter Tryd.func79, Tryd.ntmps79
  go_wp2_with fail
  go_ret2
  exact ⟨rfl, rfl⟩
set_option maxRecDepth 100000 in
set_option maxHeartbeats 800000 in
theorem span_13 (w : World) : Calls Tryd.prog 79 #[.int .i64 13] w fun e w' => e = .returned (.tuple #[.int .i64 (0), .int .i64 9223372036854775807]) ∧ w' = w := by
  go_enter Tryd.func79, Tryd.ntmps79
  go_wp2_with fail
  go_ret2
  exact ⟨rfl, rfl⟩
set_option maxRecDepth 100000 in
set_option maxHeartbeats 800000 in
theorem span_15 (w : World) : Calls Tryd.prog 79 #[.int .i64 15] w fun e w' => e = .returned (.tuple #[.int .i64 (0), .int .i64 9223372036854775807]) ∧ w' = w := by
  go_enter Tryd.func79, Tryd.ntmps79
  go_wp2_with fail
  go_ret2
  exact ⟨rfl, rfl⟩
set_option maxRecDepth 100000 in
set_option maxHeartbeats 800000 in
theorem span_23 (w : World) : Calls Tryd.prog 79 #[.int .i64 23] w fun e w' => e = .returned (.tuple #[.int .i64 (0), .int .i64 9223372036854775807]) ∧ w' = w := by
  go_enter Tryd.func79, Tryd.ntmps79
  go_wp2_with fail
  go_ret2
  exact ⟨rfl, rfl⟩
set_option maxRecDepth 100000 in
set_option maxHeartbeats 800000 in
theorem span_24 (w : World) : Calls Tryd.prog 79 #[.int .i64 24] w fun e w' => e = .returned (.tuple #[.int .i64 (0), .int .i64 9223372036854775807]) ∧ w' = w := by
  go_enter Tryd.func79, Tryd.ntmps79
  go_wp2_with fail
  go_ret2
  exact ⟨rfl, rfl⟩
set_option maxRecDepth 100000 in
set_option maxHeartbeats 800000 in
theorem span_25 (w : World) : Calls Tryd.prog 79 #[.int .i64 25] w fun e w' => e = .returned (.tuple #[.int .i64 (0), .int .i64 9223372036854775807]) ∧ w' = w := by
  go_enter Tryd.func79, Tryd.ntmps79
  go_wp2_with fail
  go_ret2
  exact ⟨rfl, rfl⟩
set_option maxRecDepth 100000 in
set_option maxHeartbeats 800000 in
theorem span_26 (w : World) : Calls Tryd.prog 79 #[.int .i64 26] w fun e w' => e = .returned (.tuple #[.int .i64 (0), .int .i64 9223372036854775807]) ∧ w' = w := by
  go_enter Tryd.func79, Tryd.ntmps79
  go_wp2_with fail
  go_ret2
  exact ⟨rfl, rfl⟩
set_option maxRecDepth 100000 in
set_option maxHeartbeats 1600000 in
theorem span_else (op : Int) (w : World) (h1 : op ≠ 1) (h2 : op ≠ 2) (h8 : op ≠ 8) (h9 : op ≠ 9) (h4 : op ≠ 4) (h5 : op ≠ 5) (h6 : op ≠ 6) (h7 : op ≠ 7) (h11 : op ≠ 11) (h12 : op ≠ 12) (h13 : op ≠ 13) (h15 : op ≠ 15) (h23 : op ≠ 23) (h24 : op ≠ 24) (h25 : op ≠ 25) (h26 : op ≠ 26) : Calls Tryd.prog 79 #[.int .i64 op] w fun e w' => e = .returned (.tuple #[.int .i64 0, .int .i64 0]) ∧ w' = w := by
  go_enter Tryd.func79, Tryd.ntmps79
  go_wp2_with fail
  go_ret2
  exact ⟨rfl, rfl⟩
theorem span_any (op : Int) (w : World) : Calls Tryd.prog 79 #[.int .i64 op] w fun e w' => e = .returned (.tuple #[.int .i64 (leastI op), .int .i64 (mostI op)]) ∧ w' = w := by
  by_cases h1 : op = 1
  · subst h1; exact span_1 w
  by_cases h2 : op = 2
  · subst h2; exact span_2 w
  by_cases h8 : op = 8
  · subst h8; exact span_8 w
  by_cases h9 : op = 9
  · subst h9; exact span_9 w
  by_cases h4 : op = 4
  · subst h4; exact span_4 w
  by_cases h5 : op = 5
  · subst h5; exact span_5 w
  by_cases h6 : op = 6
  · subst h6; exact span_6 w
  by_cases h7 : op = 7
  · subst h7; exact span_7 w
  by_cases h11 : op = 11
  · subst h11; exact span_11 w
  by_cases h12 : op = 12
  · subst h12; exact span_12 w
  by_cases h13 : op = 13
  · subst h13; exact span_13 w
  by_cases h15 : op = 15
  · subst h15; exact span_15 w
  by_cases h23 : op = 23
  · subst h23; exact span_23 w
  by_cases h24 : op = 24
  · subst h24; exact span_24 w
  by_cases h25 : op = 25
  · subst h25; exact span_25 w
  by_cases h26 : op = 26
  · subst h26; exact span_26 w
  have e1 : leastI op = 0 := by unfold leastI; rw [if_neg h1, if_neg h8, if_neg h9]
  have e3 : manyB op = false := by unfold manyB; simp [*]
  have e2 : mostI op = 0 := by unfold mostI; rw [if_neg h1, if_neg h2, if_neg h8, if_neg h9, e3]; rfl
  rw [e1, e2]
  exact span_else op w h1 h2 h8 h9 h4 h5 h6 h7 h11 h12 h13 h15 h23 h24 h25 h26

set_option maxRecDepth 100000 in
set_option maxHeartbeats 800000 in
theorem hasN_any (op : Int) (w : World) : Calls Tryd.prog 53 #[.int .i64 op] w fun e w' => e = .returned (.bool (hasN op)) ∧ w' = w := by
  have hh : hasN op = (decide (leastI op < 0) || decide (0 < mostI op)) := rfl
  rw [hh]
  clear hh
  go_enter Tryd.func53, Tryd.ntmps53
  go_wp2_with fail
  refine (span_any op _).mono ?_
  rintro e w1 ⟨rfl, rfl⟩
  by_cases h1 : leastI op < 0
  · go_wp2_with fail
    go_ret
    exact ⟨congrArg (fun b => Ending.returned (Value.bool b)) (Bool.eq_iff_iff.2 (by simp <;> omega)), rfl⟩
  · by_cases h2 : 0 < mostI op
    · go_wp2_with fail
      go_ret
      exact ⟨congrArg (fun b => Ending.returned (Value.bool b)) (Bool.eq_iff_iff.2 (by simp <;> omega)), rfl⟩
    · go_wp2_with fail
      go_ret
      exact ⟨congrArg (fun b => Ending.returned (Value.bool b)) (Bool.eq_iff_iff.2 (by simp <;> omega)), rfl⟩

set_option maxRecDepth 100000 in
set_option maxHeartbeats 800000 in
theorem isOp_any (op : Int) (w : World) : Calls Tryd.prog 83 #[.int .i64 op] w fun e w' => e = .returned (.bool (decide (1 ≤ op) && decide (op ≤ 26))) ∧ w' = w := by
  by_cases h1 : 1 ≤ op
  · by_cases h2 : op ≤ 26
    · go_enter Tryd.func83, Tryd.ntmps83
      go_wp2_with fail
      go_ret
      exact ⟨congrArg (fun b => Ending.returned (Value.bool b)) (Bool.eq_iff_iff.2 (by simp <;> omega)), rfl⟩
    · go_enter Tryd.func83, Tryd.ntmps83
      go_wp2_with fail
      go_ret
      exact ⟨congrArg (fun b => Ending.returned (Value.bool b)) (Bool.eq_iff_iff.2 (by simp <;> omega)), rfl⟩
  · go_enter Tryd.func83, Tryd.ntmps83
    go_wp2_with fail
    go_ret
    exact ⟨congrArg (fun b => Ending.returned (Value.bool b)) (Bool.eq_iff_iff.2 (by simp <;> omega)), rfl⟩

set_option maxRecDepth 100000 in
set_option maxHeartbeats 1600000 in
theorem mayBe_ins (op n : Int) (w : World) : Calls Tryd.prog 60 #[.agg #[.int .i64 op, .int .i64 n]] w fun e w' => e = .returned (.bool (mayB (op, n))) ∧ Below w.heap.size w w' := by
  have hh : mayB (op, n) = (decide (1 ≤ op) && decide (op ≤ 26) && decide (leastI op ≤ n) && decide (n ≤ mostI op)) := rfl
  rw [hh]
  clear hh
  have hb := (Below.refl w.heap.size w).alloc (Nat.le_refl _) (.cells #[.int .i64 op, .int .i64 n] 52)
  go_enter Tryd.func60, Tryd.ntmps60
  go_wp2_with fail
  refine (isOp_any op _).mono ?_
  rintro e w1 ⟨rfl, rfl⟩
  cases h0 : (decide (1 ≤ op) && decide (op ≤ 26)) with
  | false =>
    have H0 : Hid (¬ (1 ≤ op ∧ op ≤ 26)) := Lib.hid (by simpa using h0)
    clear h0
    go_wp2_with fail
    go_ret
    exact ⟨congrArg (fun b => Ending.returned (Value.bool b)) (Bool.eq_iff_iff.2 (by have := H0.out; simp <;> omega)), hb⟩
  | true =>
    have H0 : Hid (1 ≤ op ∧ op ≤ 26) := Lib.hid (by simpa using h0)
    clear h0
    go_wp2_with fail
    refine (span_any op _).mono ?_
    rintro e w1 ⟨rfl, rfl⟩
    by_cases h1 : leastI op ≤ n
    · by_cases h2 : n ≤ mostI op
      · go_wp2_with fail
        go_ret
        exact ⟨congrArg (fun b => Ending.returned (Value.bool b)) (Bool.eq_iff_iff.2 (by have := H0.out; simp <;> omega)), hb⟩
      · go_wp2_with fail
        go_ret
        exact ⟨congrArg (fun b => Ending.returned (Value.bool b)) (Bool.eq_iff_iff.2 (by have := H0.out; simp <;> omega)), hb⟩
    · go_wp2_with fail
      go_ret
      exact ⟨congrArg (fun b => Ending.returned (Value.bool b)) (Bool.eq_iff_iff.2 (by have := H0.out; simp <;> omega)), hb⟩

end Go.Proofs.YtkeglkneobngnaaDoor

namespace Go.Proofs.YtkeglkneobngnaaDoor
open Go.RowKit Cd

theorem errV_nz {n : Nat} (h : n ≠ 0) : errV n = .iface 26 (.int .i64 n) := by unfold errV; rw [if_neg h]
theorem all_kinds {l : List Int} (h : ∀ j, j < l.length → kindB (l.getD j 0) = true) : l.all kindB = true := by
  rw [List.all_eq_true]
  intro x hx
  obtain ⟨j, hj, rfl⟩ := List.mem_iff_getElem.1 hx
  have := h j hj
  rwa [List.getD_eq_getElem?_getD, List.getElem?_eq_getElem hj] at this
theorem not_kinds {l : List Int} {j : Nat} (hj : j < l.length) (h : kindB (l.getD j 0) = false) : l.all kindB = false := by
  rw [← Bool.not_eq_true, List.all_eq_true]
  intro ha
  have := ha (l.getD j 0) (by rw [List.getD_eq_getElem?_getD, List.getElem?_eq_getElem hj]; exact List.getElem_mem hj)
  rw [h] at this
  cases this
theorem all_ins {l : List In} (h : ∀ j, j < l.length → mayB (l.getD j (0, 0)) = true) : l.all mayB = true := by
  rw [List.all_eq_true]
  intro x hx
  obtain ⟨j, hj, rfl⟩ := List.mem_iff_getElem.1 hx
  have := h j hj
  rwa [List.getD_eq_getElem?_getD, List.getElem?_eq_getElem hj] at this
theorem not_ins {l : List In} {j : Nat} (hj : j < l.length) (h : mayB (l.getD j (0, 0)) = false) : l.all mayB = false := by
  rw [← Bool.not_eq_true, List.all_eq_true]
  intro ha
  have := ha (l.getD j (0, 0)) (by rw [List.getD_eq_getElem?_getD, List.getElem?_eq_getElem hj]; exact List.getElem_mem hj)
  rw [h] at this
  cases this

set_option maxRecDepth 100000 in
set_option maxHeartbeats 3200000 in
theorem rightFn_any (f : FnV) (vl vc : Value) (w : World) (hl : IntsAt w vl f.locals) (hc : InsAt w vc f.code) :
    Calls Tryd.prog 29 #[.agg #[.int .i64 f.params, vl, .int .i64 f.kind, vc]] w fun e w' => e = .returned (errV (fnE f)) ∧ Below w.heap.size w w' := by
  obtain ⟨pa, ls, ki, cs⟩ := f
  obtain ⟨ao, n, cap, rfl, hn, hnc, hcm, hx⟩ := hl
  obtain ⟨ao2, m, cap2, rfl, hm, hmc, hcm2, hx2⟩ := hc
  dsimp only at hn hm hx hx2 ⊢
  unfold maxLen at hcm hcm2
  have hb0 := (Below.refl w.heap.size w).alloc (Nat.le_refl _) (.cells #[.int .i64 pa, .slice ao n cap, .int .i64 ki, .slice ao2 m cap2] 44)
  have HB0 := Lib.hid hb0
  have HN := Lib.hid hn
  have HM := Lib.hid hm
  have HX : Hid (∀ W, Below w.heap.size w W → 0 < n → ∃ b o, ao = some ⟨b, o, none⟩ ∧ ∀ i, i < n → W.cell? ⟨b, o + i, none⟩ = some (.int .i64 (ls.getD i 0))) := Lib.hid fun W hW h0 => by
    obtain ⟨b, o, h1, h2, h3⟩ := hx h0
    exact ⟨b, o, h1, fun i hi => by rw [hW.cell (p := ⟨b, o + i, none⟩) h2]; exact h3 i hi⟩
  have HX2 : Hid (∀ W, Below w.heap.size w W → 0 < m → ∃ b o, ao2 = some ⟨b, o, none⟩ ∧ ∀ i, i < m → W.cell? ⟨b, o + i * 2, none⟩ = some (.int .i64 (cs.getD i (0, 0)).1) ∧ W.cell? ⟨b, o + i * 2 + 1, none⟩ = some (.int .i64 (cs.getD i (0, 0)).2)) := Lib.hid fun W hW h0 => by
    obtain ⟨b, o, h1, h2, h3⟩ := hx2 h0
    refine ⟨b, o, h1, fun i hi => ?_⟩
    have hi2 : i < cs.length := by omega
    have := h3 i _ (List.getElem?_eq_getElem hi2)
    rw [List.getD_eq_getElem?_getD, List.getElem?_eq_getElem hi2]
    rw [hW.cell (p := ⟨b, o + i * 2, none⟩) h2, hW.cell (p := ⟨b, o + i * 2 + 1, none⟩) h2]
    exact this
  have HF : Hid (∀ x, fnE ⟨pa, ls, ki, cs⟩ = x → errV (fnE ⟨pa, ls, ki, cs⟩) = errV x) := Lib.hid fun x h => by rw [h]
  have HE : Hid (fnE ⟨pa, ls, ki, cs⟩ = if 12 < n ∨ 9000 < m then 4 else if pa < 0 ∨ (n : Int) < pa ∨ ki < 0 ∨ 3 < ki then 2 else if ls.all kindB then (if cs.all mayB then 0 else 1) else 2) := Lib.hid (by
    rw [hn, hm]; rfl)
  clear hb0 hx hx2 hn hm
  go_enter Tryd.func29, Tryd.ntmps29
  by_cases h1 : 12 < n
  · have h1i : (12 : Int) < (n : Int) := by omega
    go_wp2_with fail
    go_ret
    exact ⟨by rw [HE.out, if_pos (Or.inl h1)]; rfl, HB0.out⟩
  have h1i : ¬ (12 : Int) < (n : Int) := by omega
  by_cases h2 : 9000 < m
  · have h2i : (9000 : Int) < (m : Int) := by omega
    go_wp2_with fail
    go_ret
    exact ⟨by rw [HE.out, if_pos (Or.inr h2)]; rfl, HB0.out⟩
  have h2i : ¬ (9000 : Int) < (m : Int) := by omega
  have H12 : Hid (¬ (12 < n ∨ 9000 < m)) := Lib.hid (by omega)
  by_cases h3 : pa < 0
  · go_wp2_with fail
    go_ret
    exact ⟨by rw [HE.out, if_neg H12.out, if_pos (Or.inl h3)]; rfl, HB0.out⟩
  by_cases h4 : (n : Int) < pa
  · go_wp2_with fail
    go_ret
    exact ⟨by rw [HE.out, if_neg H12.out, if_pos (Or.inr (Or.inl h4))]; rfl, HB0.out⟩
  by_cases h5 : ki < 0
  · go_wp2_with fail
    go_ret
    exact ⟨by rw [HE.out, if_neg H12.out, if_pos (Or.inr (Or.inr (Or.inl h5)))]; rfl, HB0.out⟩
  by_cases h6 : 3 < ki
  · go_wp2_with fail
    go_ret
    exact ⟨by rw [HE.out, if_neg H12.out, if_pos (Or.inr (Or.inr (Or.inr h6)))]; rfl, HB0.out⟩
  have HQ : Hid (fnE ⟨pa, ls, ki, cs⟩ = if ls.all kindB then (if cs.all mayB then 0 else 1) else 2) := Lib.hid (by
    rw [HE.out, if_neg H12.out, if_neg (by omega)])
  clear HE
  go_wp2_with fail
  clear h3 h4 h5 h6
  go_loopw [43] (fun iv wr => ∃ k : Nat, k ≤ n ∧ iv = .int .i64 k ∧ Hid (∀ j, j < k → kindB (ls.getD j 0) = true) ∧ wr = w.alloc (.cells #[.int .i64 pa, .slice ao n cap, .int .i64 ki, .slice ao2 m cap2] 44)) (fun iv _ => n - (intOf iv).toNat)
  case atStart => exact ⟨0, Nat.zero_le _, rfl, Lib.hid (fun j hj => absurd hj (Nat.not_lt_zero _)), rfl⟩
  case round =>
    obtain ⟨k, hk, rfl, hall, rfl⟩ := hrel
    by_cases hkn : k < n
    · obtain ⟨b, o, rfl, hcell⟩ := HX.out _ HB0.out (by omega)
      have hc1 := hcell k hkn
      have hi1 : (k : Int) < (n : Int) := by omega
      clear hcell HX
      obtain ⟨x, hxx⟩ : ∃ x, x = ls.getD k 0 := ⟨_, rfl⟩
      have HXX := Lib.hid hxx
      rw [← hxx] at hc1
      clear hxx
      by_cases g1 : x < 1
      · go_wp2_with fail
        go_ret
        exact ⟨by rw [HQ.out, not_kinds (j := k) (by rw [← HN.out]; exact hkn) (by rw [← HXX.out]; simp [kindB]; omega)]; rfl, HB0.out⟩
      · by_cases g2 : 3 < x
        · go_wp2_with fail
          go_ret
          exact ⟨by rw [HQ.out, not_kinds (j := k) (by rw [← HN.out]; exact hkn) (by rw [← HXX.out]; simp [kindB]; omega)]; rfl, HB0.out⟩
        · have HK : Hid (∀ j, j < k + 1 → kindB (ls.getD j 0) = true) := Lib.hid fun j hj => by
            by_cases e : j = k
            · subst e
              rw [← HXX.out]
              simp [kindB]
              omega
            · exact hall.out j (by omega)
          clear hall
          go_wp2_with fail
          go_roundw
          case rel => exact ⟨k + 1, by omega, by go_num, HK, trivial⟩
          case measure => simp [intOf]; omega
    · obtain rfl : k = n := by omega
      have HA : Hid (ls.all kindB = true) := Lib.hid (all_kinds fun j hj => hall.out j (by rw [HN.out]; exact hj))
      clear hall HX
      go_wp2_with fail
      go_loopw [58] (fun iv wr => ∃ q : Nat, q ≤ m ∧ iv = .int .i64 q ∧ Hid (∀ j, j < q → mayB (cs.getD j (0, 0)) = true) ∧ Below w.heap.size w wr) (fun iv _ => m - (intOf iv).toNat)
      case atStart => exact ⟨0, Nat.zero_le _, rfl, Lib.hid (fun j hj => absurd hj (Nat.not_lt_zero _)), HB0.out⟩
      case round =>
        obtain ⟨q, hq, rfl, hall, hbel⟩ := hrel
        rename World => wr
        by_cases hqm : q < m
        · obtain ⟨b, o, rfl, hcell⟩ := HX2.out _ hbel (by omega)
          obtain ⟨hc1, hc2⟩ := hcell q hqm
          have hi1 : (q : Int) < (m : Int) := by omega
          clear hcell HX2
          obtain ⟨x, y, hxx⟩ : ∃ x y, (x, y) = cs.getD q (0, 0) := ⟨_, _, rfl⟩
          have HXX := Lib.hid hxx
          rw [← hxx] at hc1 hc2
          clear hxx
          dsimp only at hc1 hc2
          have hba := hbel.alloc hbel.size (.cells #[.int .i64 x, .int .i64 y] 52)
          go_wp2_with fail
          refine (mayBe_ins x y _).mono ?_
          rintro e w2 ⟨rfl, hb2⟩
          have hb3 : Below w.heap.size w w2 := hba.trans (hb2.mono hba.size)
          cases hmb : mayB (x, y) with
          | false =>
            have HMB := Lib.hid hmb
            clear hmb
            go_wp2_with fail
            go_ret
            exact ⟨by rw [HQ.out, HA.out, not_ins (j := q) (by rw [← HM.out]; exact hqm) (by rw [← HXX.out]; exact HMB.out)]; rfl, hb3⟩
          | true =>
            have HK : Hid (∀ j, j < q + 1 → mayB (cs.getD j (0, 0)) = true) := Lib.hid fun j hj => by
              by_cases e : j = q
              · subst e
                rw [← HXX.out]
                exact hmb
              · exact hall.out j (by omega)
            clear hall hmb
            go_wp2_with fail
            go_roundw
            case rel => exact ⟨q + 1, by omega, by go_num, HK, hb3⟩
            case measure => simp [intOf]; omega
        · obtain rfl : q = m := by omega
          have HI : Hid (cs.all mayB = true) := Lib.hid (all_ins fun j hj => hall.out j (by rw [HM.out]; exact hj))
          clear hall HX2
          go_wp2_with fail
          go_ret
          exact ⟨by rw [HQ.out, HA.out, HI.out]; rfl, hbel⟩

theorem fnsE_at : ∀ {l : List FnV} {k : Nat} {f : FnV}, (∀ j g, j < k → l[j]? = some g → fnE g = 0) → l[k]? = some f → fnE f ≠ 0 → fnsE l = fnE f
  | [], _, _, _, h, _ => by cases h
  | g :: r, 0, f, _, h, h2 => by
    cases h
    unfold fnsE
    rw [if_neg h2]
  | g :: r, k + 1, f, h1, h, h2 => by
    unfold fnsE
    rw [if_pos (h1 0 g (Nat.succ_pos _) rfl)]
    exact fnsE_at (k := k) (fun j x hj hx => h1 (j + 1) x (by omega) (by simpa using hx)) (by simpa using h) h2
theorem fnsE_all {l : List FnV} (h : ∀ j g, j < l.length → l[j]? = some g → fnE g = 0) : fnsE l = 0 := by
  rw [fnsE_iff]
  intro f hf
  obtain ⟨j, hj, rfl⟩ := List.mem_iff_getElem.1 hf
  exact (fnE_iff _).1 (h j _ hj (List.getElem?_eq_getElem hj))

set_option maxRecDepth 100000 in
set_option maxHeartbeats 3200000 in
theorem right_any (p : Pg) (v : Value) (w : World) (hp : ProgAt w v p) :
    Calls Tryd.prog 11 #[v] w fun e w' => e = .returned (errV (progE p)) ∧ Below w.heap.size w w' := by
  obtain ⟨vf, rfl, ao, n, cap, rfl, hn, hnc, hcm, hx⟩ := hp
  unfold maxLen at hcm
  obtain ⟨gl, fs⟩ := p
  dsimp only at hn hx ⊢
  have hb0 := (Below.refl w.heap.size w).alloc (Nat.le_refl _) (.cells #[.int .i64 gl, .slice ao n cap] 24)
  have HB0 := Lib.hid hb0
  have HN := Lib.hid hn
  have HX : Hid (∀ W, Below w.heap.size w W → 0 < n → ∃ b o, ao = some ⟨b, o, none⟩ ∧ ∀ i f, fs[i]? = some f → FnAt W b (o + i * 4) f) := Lib.hid fun W hW h0 => by
    obtain ⟨b, o, h1, h2, h3⟩ := hx h0
    exact ⟨b, o, h1, fun i f hi => (h3 i f hi).below hW⟩
  have HE : Hid (progE ⟨gl, fs⟩ = if gl < 0 ∨ 8 < gl then 2 else if 12 < n then 4 else fnsE fs) := Lib.hid (by rw [hn]; rfl)
  clear hb0 hx hn
  go_enter Tryd.func11, Tryd.ntmps11
  by_cases h1 : gl < 0
  · go_wp2_with fail
    go_ret
    exact ⟨by rw [HE.out, if_pos (Or.inl h1)]; rfl, HB0.out⟩
  by_cases h2 : 8 < gl
  · go_wp2_with fail
    go_ret
    exact ⟨by rw [HE.out, if_pos (Or.inr h2)]; rfl, HB0.out⟩
  by_cases h3 : 12 < n
  · have h3i : (12 : Int) < (n : Int) := by omega
    go_wp2_with fail
    go_ret
    exact ⟨by rw [HE.out, if_neg (by omega), if_pos h3]; rfl, HB0.out⟩
  have h3i : ¬ (12 : Int) < (n : Int) := by omega
  have HQ : Hid (progE ⟨gl, fs⟩ = fnsE fs) := Lib.hid (by rw [HE.out, if_neg (by omega), if_neg h3])
  clear HE
  go_wp2_with fail
  clear h1 h2 h3 h3i
  go_loopw [23] (fun iv wr => ∃ k : Nat, k ≤ n ∧ iv = .int .i64 k ∧ Hid (∀ j g, j < k → fs[j]? = some g → fnE g = 0) ∧ Below w.heap.size w wr) (fun iv _ => n - (intOf iv).toNat)
  case atStart => exact ⟨0, Nat.zero_le _, rfl, Lib.hid (fun j _ hj => absurd hj (Nat.not_lt_zero _)), HB0.out⟩
  case round =>
    obtain ⟨k, hk, rfl, hall, hbel⟩ := hrel
    rename World => wr
    by_cases hkn : k < n
    · obtain ⟨b, o, rfl, hfn⟩ := HX.out _ hbel (by omega)
      have hkl : k < fs.length := by rw [← HN.out]; exact hkn
      obtain ⟨f, hf⟩ : ∃ f, fs[k]? = some f := ⟨_, List.getElem?_eq_getElem hkl⟩
      obtain ⟨hc1, ⟨vl, hc2, hli⟩, hc3, vc, hc4, hci⟩ := hfn k f hf
      have HF := Lib.hid hf
      have HLI := Lib.hid hli
      have HCI := Lib.hid hci
      have hi1 : (k : Int) < (n : Int) := by omega
      clear hfn HX hf hkl hli hci
      obtain ⟨pa, hpa⟩ : ∃ x, x = f.params := ⟨_, rfl⟩
      obtain ⟨ki, hki⟩ : ∃ x, x = f.kind := ⟨_, rfl⟩
      rw [← hpa] at hc1
      rw [← hki] at hc3
      have hba := hbel.alloc hbel.size (.cells #[.int .i64 pa, vl, .int .i64 ki, vc] 44)
      have hbw := (Below.refl wr.heap.size wr).alloc (Nat.le_refl _) (.cells #[.int .i64 pa, vl, .int .i64 ki, vc] 44)
      have HC := Lib.hid (rightFn_any f vl vc _ (HLI.out.below hbw) (HCI.out.below hbw))
      rw [← hpa, ← hki] at HC
      have ho1 : vl.oneCell' = true := by obtain ⟨_, _, _, e, _⟩ := HLI.out; rw [e]; rfl
      have ho2 : vc.oneCell' = true := by obtain ⟨_, _, _, e, _⟩ := HCI.out; rw [e]; rfl
      obtain ⟨_, n1, c1, rfl, -⟩ := HLI.out
      obtain ⟨_, n2, c2, rfl, -⟩ := HCI.out
      clear hpa hki hbw
      go_wp2_with fail
      refine HC.out.mono ?_
      rintro e w2 ⟨rfl, hb2⟩
      have hb3 : Below w.heap.size w w2 := hba.trans (hb2.mono hba.size)
      by_cases he : fnE f = 0
      · have HE := Lib.hid he
        have HK : Hid (∀ j g, j < k + 1 → fs[j]? = some g → fnE g = 0) := Lib.hid fun j g hj hg => by
          by_cases e : j = k
          · subst e
            rw [HF.out] at hg
            cases hg
            exact he
          · exact hall.out j g (by omega) hg
        rw [he, errV_0]
        clear hall he HC
        go_wp2_with fail
        go_roundw
        case rel => exact ⟨k + 1, by omega, by go_num, HK, hb3⟩
        case measure => simp [intOf]; omega
      · have HZ : Hid (fnsE fs = fnE f) := Lib.hid (fnsE_at (fun j g hj hg => hall.out j g hj hg) HF.out he)
        rw [errV_nz he]
        have HI := Lib.hid he
        clear hall he HC
        go_wp2_with fail
        go_ret
        exact ⟨by rw [HQ.out, HZ.out, errV_nz HI.out]; rfl, hb3⟩
    · obtain rfl : k = n := by omega
      have HA : Hid (fnsE fs = 0) := Lib.hid (fnsE_all fun j g hj hg => hall.out j g (by rw [HN.out]; exact hj) hg)
      clear hall HX
      go_wp2_with fail
      go_ret
      exact ⟨by rw [HQ.out, HA.out]; rfl, hbel⟩
end Go.Proofs.YtkeglkneobngnaaDoor

namespace Go.Proofs.YtkeglkneobngnaaDoor
open Go.Lib

def tabSData {H : Type} (zs : List (List UInt8)) : DataW H := .agg (zs.map fun z => .lit (.string z))
def TabS (P : Program) (w : World) (name : String) (zs : List (List UInt8)) : Prop := w.var? P name = some (zs.map fun z => Value.string ⟨z.toArray⟩).toArray

theorem cells_of_tabS {H : Type} {enc : TypeId × Value → H} {P : Program} {w : World} {base : Nat} {sp : Nat → Bool} {held : Bool} {fuel : Nat} {t e : TypeId} {n : Nat} {cs : List Value} {zs : List (List UInt8)} {p : List MemPlace}
    (ht : P.underlying t = some (.array n e)) (he : P.underlying e = some .string) (hce : P.cellsOf e = 1) (hct : P.cellsOf t = n)
    (h : DataW.trod enc P w base sp held fuel t cs = some (tabSData zs, p)) : cs = zs.map fun z => Value.string ⟨z.toArray⟩ := by
  cases fuel with
  | zero => simp [DataW.trod] at h
  | succ fuel =>
    simp only [DataW.trod, ht, hce, hct, Nat.mul_one] at h
    split at h
    · rename_i hl
      obtain ⟨xs, hm, hx⟩ := Option.map_eq_some_iff.1 h
      have hxs : xs.map (·.1) = zs.map fun z => (DataW.lit (.string z) : DataW H) := by
        have := congrArg Prod.fst hx
        simpa [tabSData] using this
      have hxl : xs.length = n := by simpa using mapM_length hm
      have hzl : zs.length = n := by
        have := congrArg List.length hxs
        simp at this
        omega
      apply List.ext_getElem?
      intro i
      by_cases hi : i < n
      · obtain ⟨b, hb, hf⟩ := mapM_at hm i i (by simp [hi])
        obtain ⟨s, hc, rfl, _⟩ := DataW.trod_string he hf
        have h1 : cs[i]? = some (.string s) := by
          have := congrArg (·[0]?) hc
          simpa [List.getElem?_take, List.getElem?_drop] using this
        have h2 : (xs.map (·.1))[i]? = some (DataW.lit (.string s.data.toList) : DataW H) := by simp [hb]
        rw [hxs] at h2
        simp only [List.getElem?_map, Option.map_eq_some_iff, DataW.lit.injEq, Lit.string.injEq] at h2
        obtain ⟨z', hz', e'⟩ := h2
        have hs : s = ⟨z'.toArray⟩ := by
          cases s with | mk d => rw [e']
        rw [h1, List.getElem?_map, hz', hs]; rfl
      · rw [List.getElem?_eq_none (by omega), List.getElem?_eq_none (by simp; omega)]
    · cases h

theorem tabS_of_head {P : Program} {W : World} {name : String} {zs : List (List UInt8)} {rest : List (String × DataW Unit)} {g : Nat} {t e : TypeId} {n : Nat}
    (hg : P.globalNamed name = some g) (hty : (P.globals[g]?).map (·.type) = some t) (ht : P.underlying t = some (.array n e)) (he : P.underlying e = some .string) (hce : P.cellsOf e = 1) (hct : P.cellsOf t = n)
    (h : laidMet P ((name, tabSData zs) :: rest) W) : TabS P W name zs := by
  obtain ⟨ps, ⟨g', t', cs, fuel, p, q, hg', ht', hvar, hd, _, _⟩, _⟩ := h
  obtain rfl := Option.some.inj (hg.symm.trans hg')
  obtain rfl := Option.some.inj (hty.symm.trans ht')
  unfold TabS
  rw [hvar, ← cells_of_tabS ht he hce hct hd]

theorem TabS.cell {P : Program} {W : World} {name : String} {zs : List (List UInt8)} {g : Nat} (h : TabS P W name zs) (hg : P.globalNamed name = some g) (i : Nat) (hi : i < zs.length) :
    W.cell? ⟨g, i, none⟩ = some (.string ⟨(zs.getD i []).toArray⟩) := by
  have := World.var?_cell hg h i
  simpa [List.getD, hi] using this
end Go.Proofs.YtkeglkneobngnaaDoor

namespace Go.Proofs.YtkeglkneobngnaaDoor
open Go.RowKit
theorem ret_i64 {a b : Int} (h : a = b) : Ending.returned (.int .i64 a) = .returned (.int .i64 b) := by rw [h]
end Go.Proofs.YtkeglkneobngnaaDoor

namespace Go.Proofs.YtkeglkneobngnaaDoor
open Go.RowKit

def signsL : List (List UInt8) := [[], [43], [45], [42], [47], [37], [38], [124], [94], [60, 60], [62, 62], [60], [60, 61], [62], [62, 61], [61, 61], [33, 61], [45], [94], [33]]
/-- How an op is written, of 0 to 19. -/
def signL (n : Nat) : List UInt8 := signsL.getD n []
def Signs (w : World) : Prop := ∀ n : Nat, n < 20 → w.cell? ⟨2, n, none⟩ = some (.string ⟨(signL n).toArray⟩)
theorem gSigns : Tryd.prog.globalNamed "sluiceway/arith.signs" = some 2 := by kernel_rfl
theorem tSigns : (Tryd.prog.globals[2]?).map (·.type) = some 125 := by kernel_rfl
theorem cells_string : Tryd.prog.cellsOf 9 = 1 := by kernel_rfl
theorem cells_signs : Tryd.prog.cellsOf 125 = 20 := by kernel_rfl
/-- How any number is written as an op. -/
def signV (op : Int) : List UInt8 := if 1 ≤ op ∧ op ≤ 19 then signL op.toNat else []

theorem sign_any (op : Int) (w : World) (hS : Signs w) :
    Calls Tryd.prog 66 #[.int .i64 op] w fun e w' => e = .returned (.string ⟨(signV op).toArray⟩) ∧ w = w' := by
  by_cases h : 1 ≤ op ∧ op ≤ 19
  · obtain ⟨n, rfl⟩ := Int.eq_ofNat_of_zero_le (show 0 ≤ op by omega)
    have hc := hS n (by omega)
    have e : signV (n : Int) = signL n := by unfold signV; rw [if_pos h]; rfl
    rw [e]
    have h1 : decide ((n : Int) < 1) = false := by simpa using h.1
    have h2 : decide (19 < (n : Int)) = false := by simpa using h.2
    have h3 : (n : Int) < 20 := by omega
    have h4 : 0 ≤ (n : Int) := by omega
    clear e h hS
    go_enter Tryd.func66, Tryd.ntmps66
    go_wp2_with fail
    go_ret
    exact ⟨rfl, rfl⟩
  · have e : signV op = [] := by unfold signV; rw [if_neg h]
    rw [e]
    clear e hS
    go_enter Tryd.func66, Tryd.ntmps66
    go_wp2_with fail
    all_goals
      go_ret
      exact ⟨rfl, rfl⟩

/-- The first of n ops from a on that is written so (0: none is). -/
def writV (l : List UInt8) : Nat → Nat → Nat
  | 0, _ => 0
  | n + 1, a => if l = signL a then a else writV l n (a + 1)

theorem writV_yes {l : List UInt8} {n a : Nat} (h : l = signL a) : writV l (n + 1) a = a := by unfold writV; rw [if_pos h]
theorem writV_no {l : List UInt8} {n a : Nat} (h : l ≠ signL a) : writV l (n + 1) a = writV l n (a + 1) := by
  conv => lhs; unfold writV
  rw [if_neg h]

set_option maxHeartbeats 400000 in
theorem written_any (s : ByteArray) (a b : Nat) (w : World) (hb : b < 20) (hS : Signs w) :
    Calls Tryd.prog 142 #[.string s, .int .i64 a, .int .i64 b] w fun e w' => e = .returned (.int .i64 (writV s.toList (b + 1 - a) a : Nat)) ∧ w = w' := by
  obtain ⟨R, hR⟩ : ∃ R : Nat, R = writV s.toList (b + 1 - a) a := ⟨_, rfl⟩
  rw [← hR]
  have HR := Lib.hid hR
  clear hR
  go_enter Tryd.func142, Tryd.ntmps142
  go_wp2_with fail
  go_loop [7] (fun i => ∃ k : Nat, a ≤ k ∧ i = .int .i64 k ∧ R = writV s.toList (b + 1 - k) k) (fun i => b + 1 - (intOf i).toNat)
  case atStart => exact ⟨a, Nat.le_refl _, rfl, HR.out⟩
  case round =>
    obtain ⟨k, hk, rfl, hw⟩ := hrel
    have H := Lib.hid hw
    clear hw
    by_cases hlt : k ≤ b
    · have hc := hS k (by omega)
      have h3 : (k : Int) < 20 := by omega
      have HS := Lib.hid hS
      clear hS
      go_wp2_with fail
      · have hh : (signL k == s.toList) = true := by assumption
        go_ret
        refine ⟨ret_i64 ?_, rfl⟩
        have := H.out
        rw [show b + 1 - k = (b - k) + 1 by omega, writV_yes (LawfulBEq.eq_of_beq hh).symm] at this
        rw [this]
      · have hh : (signL k == s.toList) = false := by assumption
        go_round
        case rel =>
          refine ⟨k + 1, by omega, by go_num, ?_⟩
          have := H.out
          rw [show b + 1 - k = (b - k) + 1 by omega, writV_no (fun e => by rw [e] at hh; simp at hh)] at this
          rw [this]; congr 1; omega
        case measure => simp [intOf]; omega
    · go_wp2_with fail
      go_ret
      refine ⟨ret_i64 ?_, rfl⟩
      have := H.out
      rw [this, show b + 1 - k = 0 by omega]; rfl

theorem two_any (s : ByteArray) (w : World) (hS : Signs w) :
    Calls Tryd.prog 130 #[.string s] w fun e w' => e = .returned (.int .i64 (writV s.toList 16 1 : Nat)) ∧ w = w' := by
  have HS := Lib.hid hS
  clear hS
  go_enter Tryd.func130, Tryd.ntmps130
  go_wp2_with (go_at_call 142; refine (written_any s 1 16 _ (by decide) HS.out).mono ?_; rintro e w1 ⟨rfl, rfl⟩)
  go_ret
  exact ⟨rfl, rfl⟩
theorem one_any (s : ByteArray) (w : World) (hS : Signs w) :
    Calls Tryd.prog 131 #[.string s] w fun e w' => e = .returned (.int .i64 (writV s.toList 3 17 : Nat)) ∧ w = w' := by
  have HS := Lib.hid hS
  clear hS
  go_enter Tryd.func131, Tryd.ntmps131
  go_wp2_with (go_at_call 142; refine (written_any s 17 19 _ (by decide) HS.out).mono ?_; rintro e w1 ⟨rfl, rfl⟩)
  go_ret
  exact ⟨rfl, rfl⟩

end Go.Proofs.YtkeglkneobngnaaDoor
