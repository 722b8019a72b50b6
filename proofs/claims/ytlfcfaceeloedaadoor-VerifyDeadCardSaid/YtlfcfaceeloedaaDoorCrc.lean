/-
  The plain mathematics of the sum (chapter 1): one bit's step on numbers, its linearity, what is left of a text. Nothing of the program is named here.
-/
namespace Go.Proofs.YtlfcfaceeloedaaDoor
namespace Crc

def P : Nat := 0xedb88320
def step (x : Nat) : Nat := (x / 2) ^^^ (if x % 2 = 1 then P else 0)
def steps : Nat → Nat → Nat
  | 0, x => x
  | n + 1, x => steps n (step x)

theorem step_testBit (x i : Nat) : (step x).testBit i = (x.testBit (i + 1) ^^ (x.testBit 0 && P.testBit i)) := by
  unfold step
  rw [Nat.testBit_xor, Nat.testBit_succ]
  congr 1
  by_cases h : x % 2 = 1
  · rw [if_pos h]; simp [h]
  · rw [if_neg h]; simp [h]

theorem step_xor (x y : Nat) : step (x ^^^ y) = step x ^^^ step y := by
  apply Nat.eq_of_testBit_eq
  intro i
  simp only [step_testBit, Nat.testBit_xor]
  cases x.testBit (i + 1) <;> cases y.testBit (i + 1) <;> cases x.testBit 0 <;> cases y.testBit 0 <;> cases P.testBit i <;> rfl

theorem step_zero : step 0 = 0 := rfl
theorem step_double (y : Nat) : step (2 * y) = y := by
  unfold step
  rw [if_neg (by omega), Nat.xor_zero]; omega

theorem step_lt (x : Nat) (h : x < 2 ^ 32) : step x < 2 ^ 32 := by
  unfold step
  apply Nat.xor_lt_two_pow
  · omega
  · split <;> decide

theorem step_eq_zero (x : Nat) (h : x < 2 ^ 32) (h0 : step x = 0) : x = 0 := by
  have h31 : (step x).testBit 31 = false := by rw [h0]; rfl
  rw [step_testBit] at h31
  have hx : x.testBit (31 + 1) = false := Nat.testBit_lt_two_pow h
  rw [hx] at h31
  have hp : P.testBit 31 = true := by decide
  rw [hp] at h31
  have hb : x.testBit 0 = false := by simpa using h31
  have he : x % 2 = 0 := by simpa using hb
  unfold step at h0
  rw [if_neg (by omega), Nat.xor_zero] at h0
  omega

theorem steps_xor (n x y : Nat) : steps n (x ^^^ y) = steps n x ^^^ steps n y := by
  induction n generalizing x y with
  | zero => rfl
  | succ n ih => simp only [steps]; rw [step_xor, ih]
theorem steps_zero (n : Nat) : steps n 0 = 0 := by
  induction n with
  | zero => rfl
  | succ n ih => simp only [steps]; rw [step_zero, ih]
theorem steps_add (m n x : Nat) : steps (m + n) x = steps n (steps m x) := by
  induction m generalizing x with
  | zero => rw [Nat.zero_add]; rfl
  | succ m ih => rw [Nat.succ_add]; simp only [steps]; rw [ih]
theorem steps_lt (n x : Nat) (h : x < 2 ^ 32) : steps n x < 2 ^ 32 := by
  induction n generalizing x with
  | zero => exact h
  | succ n ih => exact ih _ (step_lt x h)
theorem steps_eq_zero (n x : Nat) (h : x < 2 ^ 32) (h0 : steps n x = 0) : x = 0 := by
  induction n generalizing x with
  | zero => exact h0
  | succ n ih => exact step_eq_zero x h (ih _ (step_lt x h) h0)
theorem steps_mul (n y : Nat) : steps n (2 ^ n * y) = y := by
  induction n generalizing y with
  | zero => simp [steps]
  | succ n ih =>
    simp only [steps]
    rw [show 2 ^ (n + 1) * y = 2 * (2 ^ n * y) by rw [Nat.pow_succ, Nat.mul_comm (2 ^ n) 2, Nat.mul_assoc], step_double, ih]
theorem steps_shift (n m y : Nat) (h : m ≤ n) : steps n (2 ^ m * y) = steps (n - m) y := by
  conv => lhs; rw [show n = m + (n - m) by omega]
  rw [steps_add, steps_mul]
theorem steps_inj (n x y : Nat) (hx : x < 2 ^ 32) (hy : y < 2 ^ 32) (h : steps n x = steps n y) : x = y := by
  have h0 : steps n (x ^^^ y) = 0 := by rw [steps_xor, h, Nat.xor_self]
  have hz := steps_eq_zero n _ (Nat.xor_lt_two_pow hx hy) h0
  have : (x ^^^ y) ^^^ y = 0 ^^^ y := by rw [hz]
  rwa [Nat.xor_assoc, Nat.xor_self, Nat.xor_zero, Nat.zero_xor] at this

theorem xor_cancel {a b c : Nat} (h : a ^^^ c = b ^^^ c) : a = b := by
  have : (a ^^^ c) ^^^ c = (b ^^^ c) ^^^ c := by rw [h]
  rwa [Nat.xor_assoc, Nat.xor_self, Nat.xor_zero, Nat.xor_assoc, Nat.xor_self, Nat.xor_zero] at this

/-! ### four bits at once -/
theorem split_xor (k b y : Nat) (h : b < 2 ^ k) : b + 2 ^ k * y = b ^^^ (2 ^ k * y) := by
  apply Nat.eq_of_testBit_eq
  intro i
  rw [Nat.testBit_xor, Nat.add_comm, Nat.testBit_two_pow_mul_add _ h, Nat.testBit_two_pow_mul]
  by_cases hi : i < k
  · rw [if_pos hi, decide_eq_false (by omega : ¬ i ≥ k)]; simp
  · rw [if_neg hi, Nat.testBit_lt_two_pow (Nat.lt_of_lt_of_le h (Nat.pow_le_pow_right (by omega) (by omega)))]
    rw [decide_eq_true (by omega : i ≥ k)]; simp
theorem steps_split (k x : Nat) : steps k x = steps k (x % 2 ^ k) ^^^ (x / 2 ^ k) := by
  conv => lhs; rw [← Nat.mod_add_div x (2 ^ k), split_xor k _ _ (Nat.mod_lt _ (Nat.two_pow_pos k)), steps_xor, steps_mul]

def leaves : List Nat := [0x00000000, 0x1db71064, 0x3b6e20c8, 0x26d930ac, 0x76dc4190, 0x6b6b51f4, 0x4db26158, 0x5005713c, 0xedb88320, 0xf00f9344, 0xd6d6a3e8, 0xcb61b38c, 0x9b64c2b0, 0x86d3d2d4, 0xa00ae278, 0xbdbdf21c]
def leaf (n : Nat) : Nat := leaves.getD n 0
theorem leaf_is : ∀ n, n < 16 → leaf n = steps 4 n := by decide
theorem leaf_lt : ∀ n, n < 16 → leaf n < 2 ^ 32 := by decide
theorem nibble (r : Nat) : leaf (r % 16) ^^^ (r / 16) = steps 4 r := by
  rw [leaf_is _ (by omega)]; exact (steps_split 4 r).symm
theorem nibbles (r : Nat) : steps 4 (steps 4 r) = steps 8 r := (steps_add 4 4 r).symm

theorem mod_bit1 (r k : Nat) (h : r / 2 ^ k % 2 = 1) : r % 2 ^ (k + 1) = r % 2 ^ k ^^^ 2 ^ k := by
  have e := split_xor k (r % 2 ^ k) 1 (Nat.mod_lt _ (Nat.two_pow_pos k))
  rw [Nat.mul_one] at e
  rw [← e, Nat.pow_succ, Nat.mod_mul, h, Nat.mul_one]
theorem mod_bit0 (r k : Nat) (h : r / 2 ^ k % 2 = 0) : r % 2 ^ (k + 1) = r % 2 ^ k := by
  rw [Nat.pow_succ, Nat.mod_mul, h, Nat.mul_zero, Nat.add_zero]

/-! ### texts -/
def le : List Nat → Nat
  | [] => 0
  | b :: l => b + 256 * le l
def fold (r : Nat) (l : List Nat) : Nat := l.foldl (fun r b => steps 8 (r ^^^ b)) r
def Bytes (l : List Nat) : Prop := ∀ b ∈ l, b < 256

theorem fold_is (l : List Nat) (hl : Bytes l) (r : Nat) : fold r l = steps (8 * l.length) (r ^^^ le l) := by
  induction l generalizing r with
  | nil => simp [fold, le, steps]
  | cons b l ih =>
    have hb : b < 256 := hl b (List.mem_cons_self ..)
    have := ih (fun x hx => hl x (List.mem_cons_of_mem _ hx)) (steps 8 (r ^^^ b))
    simp only [fold, List.foldl_cons] at this ⊢
    rw [this, List.length_cons, show 8 * (l.length + 1) = 8 + 8 * l.length by omega, steps_add]
    congr 1
    rw [show le (b :: l) = b + 2 ^ 8 * le l from rfl, split_xor 8 b (le l) hb, ← Nat.xor_assoc, steps_xor 8 (r ^^^ b), steps_mul]
theorem fold_append (r : Nat) (a b : List Nat) : fold r (a ++ b) = fold (fold r a) b := by simp [fold]
theorem le_lt (l : List Nat) (hl : Bytes l) : le l < 2 ^ (8 * l.length) := by
  induction l with
  | nil => simp [le]
  | cons b l ih =>
    have hb : b < 256 := hl b (List.mem_cons_self ..)
    have := ih (fun x hx => hl x (List.mem_cons_of_mem _ hx))
    simp only [le, List.length_cons]
    rw [show 8 * (l.length + 1) = 8 * l.length + 8 by omega, Nat.pow_add]
    omega
theorem le_inj (a b : List Nat) (ha : Bytes a) (hb : Bytes b) (hlen : a.length = b.length) (h : le a = le b) : a = b := by
  induction a generalizing b with
  | nil => cases b with
    | nil => rfl
    | cons _ _ => simp at hlen
  | cons x a ih => cases b with
    | nil => simp at hlen
    | cons y b =>
      have hx : x < 256 := ha x (List.mem_cons_self ..)
      have hy : y < 256 := hb y (List.mem_cons_self ..)
      simp only [le] at h
      have e1 : x = y := by omega
      have e2 : le a = le b := by omega
      subst e1
      rw [ih b (fun z hz => ha z (List.mem_cons_of_mem _ hz)) (fun z hz => hb z (List.mem_cons_of_mem _ hz)) (by simpa using hlen) e2]

def F : Nat := 0xffffffff
/-- The sum of a text whose sum is c, and l behind it. -/
def more (c : Nat) (l : List Nat) : Nat := fold (c ^^^ F) l ^^^ F
def join (a b n : Nat) : Nat := steps (8 * n) a ^^^ b

theorem fold_lt (l : List Nat) (hl : Bytes l) (r : Nat) (hr : r < 2 ^ 32) : fold r l < 2 ^ 32 := by
  induction l generalizing r with
  | nil => exact hr
  | cons b l ih =>
    have hb : b < 256 := hl b (List.mem_cons_self ..)
    exact ih (fun x hx => hl x (List.mem_cons_of_mem _ hx)) _ (steps_lt 8 _ (Nat.xor_lt_two_pow hr (by omega)))
theorem more_lt (l : List Nat) (hl : Bytes l) (c : Nat) (hc : c < 2 ^ 32) : more c l < 2 ^ 32 :=
  Nat.xor_lt_two_pow (fold_lt l hl _ (Nat.xor_lt_two_pow hc (by decide))) (by decide)
theorem join_lt (a b n : Nat) (ha : a < 2 ^ 32) (hb : b < 2 ^ 32) : join a b n < 2 ^ 32 := Nat.xor_lt_two_pow (steps_lt _ _ ha) hb

theorem more_inj (l : List Nat) (hl : Bytes l) (c d : Nat) (hc : c < 2 ^ 32) (hd : d < 2 ^ 32) : more c l = more d l ↔ c = d := by
  constructor
  · intro h
    have h1 := xor_cancel h
    rw [fold_is l hl, fold_is l hl, steps_xor _ (c ^^^ F), steps_xor _ (d ^^^ F)] at h1
    have h2 := steps_inj _ (c ^^^ F) (d ^^^ F) (Nat.xor_lt_two_pow hc (by decide)) (Nat.xor_lt_two_pow hd (by decide)) (xor_cancel h1)
    exact xor_cancel h2
  · rintro rfl; rfl

theorem xor_F_F (x : Nat) : (x ^^^ F) ^^^ F = x := by rw [Nat.xor_assoc, Nat.xor_self, Nat.xor_zero]

theorem more_append (c : Nat) (a b : List Nat) : more (more c a) b = more c (a ++ b) := by
  unfold more; rw [xor_F_F, fold_append]
theorem join_is (a b : List Nat) (hb : Bytes b) : join (more 0 a) (more 0 b) b.length = more 0 (a ++ b) := by
  rw [← more_append]
  unfold join
  rw [show more (more 0 a) b = fold (more 0 a ^^^ F) b ^^^ F from rfl, show more 0 b = fold (0 ^^^ F) b ^^^ F from rfl, fold_is b hb, fold_is b hb, ← Nat.xor_assoc, ← steps_xor, Nat.zero_xor, ← Nat.xor_assoc]
theorem join_three (a b c n m : Nat) : join (join a b n) c m = join a (join b c m) (n + m) := by
  unfold join
  rw [steps_xor, Nat.mul_add, steps_add, Nat.xor_assoc]

/-- Byte by byte: three texts together. -/
def zip2 (a b : List Nat) : List Nat := List.zipWith (· ^^^ ·) a b
theorem bytes_zip2 (a b : List Nat) (ha : Bytes a) (hb : Bytes b) : Bytes (zip2 a b) := by
  induction a generalizing b with
  | nil => intro x hx; simp [zip2] at hx
  | cons x a ih => cases b with
    | nil => intro x hx; simp [zip2] at hx
    | cons y b =>
      intro z hz
      simp only [zip2, List.zipWith_cons_cons, List.mem_cons] at hz
      rcases hz with rfl | hz
      · exact Nat.xor_lt_two_pow (n := 8) (ha x (List.mem_cons_self ..)) (hb y (List.mem_cons_self ..))
      · exact ih b (fun z hz => ha z (List.mem_cons_of_mem _ hz)) (fun z hz => hb z (List.mem_cons_of_mem _ hz)) z hz
theorem le_zip2 (a b : List Nat) (ha : Bytes a) (hb : Bytes b) (h : a.length = b.length) : le (zip2 a b) = le a ^^^ le b := by
  induction a generalizing b with
  | nil => cases b with
    | nil => rfl
    | cons _ _ => simp at h
  | cons x a ih => cases b with
    | nil => simp at h
    | cons y b =>
      have hx : x < 2 ^ 8 := ha x (List.mem_cons_self ..)
      have hy : y < 2 ^ 8 := hb y (List.mem_cons_self ..)
      have e := ih b (fun z hz => ha z (List.mem_cons_of_mem _ hz)) (fun z hz => hb z (List.mem_cons_of_mem _ hz)) (by simpa using h)
      show (x ^^^ y) + 2 ^ 8 * le (zip2 a b) = (x + 2 ^ 8 * le a) ^^^ (y + 2 ^ 8 * le b)
      rw [e, split_xor 8 _ _ (Nat.xor_lt_two_pow hx hy), split_xor 8 x _ hx, split_xor 8 y _ hy]
      apply Nat.eq_of_testBit_eq
      intro i
      simp only [Nat.testBit_xor, Nat.testBit_two_pow_mul]
      cases decide (i ≥ 8) <;> cases x.testBit i <;> cases y.testBit i <;> cases (le a).testBit (i - 8) <;> cases (le b).testBit (i - 8) <;> rfl
theorem linear (a b c : List Nat) (ha : Bytes a) (hb : Bytes b) (hc : Bytes c) (h1 : a.length = b.length) (h2 : b.length = c.length) :
    more 0 (zip2 (zip2 a b) c) = more 0 a ^^^ more 0 b ^^^ more 0 c := by
  have hl : (zip2 a b).length = a.length := by simp [zip2, h1]
  have hl2 : (zip2 (zip2 a b) c).length = a.length := by simp [zip2, h1, h2]
  unfold more
  rw [Nat.zero_xor, fold_is _ (bytes_zip2 _ _ (bytes_zip2 _ _ ha hb) hc), fold_is a ha, fold_is b hb, fold_is c hc, le_zip2 _ _ (bytes_zip2 _ _ ha hb) hc (by omega), le_zip2 _ _ ha hb h1, hl2, ← h1, ← h2, ← h1]
  simp only [steps_xor]
  apply Nat.eq_of_testBit_eq
  intro i
  simp only [Nat.testBit_xor]
  generalize (steps (8 * a.length) F).testBit i = u
  generalize (steps (8 * a.length) (le a)).testBit i = p
  generalize (steps (8 * a.length) (le b)).testBit i = q
  generalize (steps (8 * a.length) (le c)).testBit i = r
  generalize F.testBit i = v
  cases u <;> cases p <;> cases q <;> cases r <;> cases v <;> rfl

/-- A burst: what is turned is told. -/
theorem burst (s t : List Nat) (hs : Bytes s) (ht : Bytes t) (hl : t.length = s.length) (at_ i B : Nat) (hi : at_ + i ≤ 8 * s.length) (hB : B < 2 ^ i) (hi32 : i ≤ 32)
    (h : le t = le s ^^^ (2 ^ at_ * B)) : t = s ↔ more 0 t = more 0 s := by
  constructor
  · rintro rfl; rfl
  · intro h1
    have h2 := xor_cancel h1
    rw [fold_is t ht, fold_is s hs, hl, h, ← Nat.xor_assoc, steps_xor _ (0 ^^^ F ^^^ le s)] at h2
    have h3 : steps (8 * s.length) (2 ^ at_ * B) = 0 := by
      have : (steps (8 * s.length) (0 ^^^ F ^^^ le s) ^^^ steps (8 * s.length) (2 ^ at_ * B)) ^^^ steps (8 * s.length) (0 ^^^ F ^^^ le s) = 0 := by
        rw [h2, Nat.xor_self]
      rw [Nat.xor_comm, ← Nat.xor_assoc, Nat.xor_self, Nat.zero_xor] at this
      exact this
    rw [steps_shift _ _ _ (by omega)] at h3
    have hB32 : B < 2 ^ 32 := Nat.lt_of_lt_of_le hB (Nat.pow_le_pow_right (by omega) hi32)
    have hz := steps_eq_zero _ _ hB32 h3
    rw [hz, Nat.mul_zero, Nat.xor_zero] at h
    exact le_inj t s ht hs hl h

set_option maxRecDepth 10000 in
theorem known : more 0 [49, 50, 51, 52, 53, 54, 55, 56, 57] = 0xcbf43926 := by decide +kernel
theorem known_more : more (more 0 [49, 50, 51, 52]) [53, 54, 55, 56, 57] = 0xcbf43926 := by rw [more_append]; exact known
theorem known_join : join (more 0 [49, 50, 51, 52]) (more 0 [53, 54, 55, 56, 57]) 5 = 0xcbf43926 := by
  exact (join_is [49, 50, 51, 52] [53, 54, 55, 56, 57] (by unfold Bytes; decide)).trans known
end Crc
end Go.Proofs.YtlfcfaceeloedaaDoor
