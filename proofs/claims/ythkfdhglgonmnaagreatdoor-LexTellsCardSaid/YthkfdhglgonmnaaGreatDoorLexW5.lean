/-
  The walks of package lex, fifth part: errors told; numbers.
-/
import Derived.Test.YthkfdhglgonmnaaGreatDoorLexW4
import Derived.Test.YthkfdhglgonmnaaGreatDoorTabS
import Derived.Lib.ParseIntB
namespace Go.Proofs.YthkfdhglgonmnaaGreatDoor
open Go.RowKit Lx

/-- What strconv.ErrRange holds. -/
def ErrR (w : World) : Prop := ∃ tp p, w.cell? ⟨8, 0, none⟩ = some (.iface tp p)
/-- The table of signs. -/
def Sgs (w : World) : Prop := ∀ n : Nat, n < 28 → w.cell? ⟨2, n, none⟩ = some (.string (mkT (sigsL.getD n [])))
/-- The variables that package lex reads, all below block n. -/
structure LexEnv (n : Nat) (w : World) : Prop where
  tabs : Tabs w
  errR : ErrR w
  sgs : Sgs w
  b1 : 4 < n
  b2 : 5 < n
  b3 : 8 < n
  b4 : 2 < n
theorem LexEnv.below {n m : Nat} {w w' : World} (h : LexEnv n w) (hb : Below m w w') (hm : n ≤ m) : LexEnv n w' := by
  have h1 := h.b1; have h2 := h.b2; have h3 := h.b3; have h4 := h.b4
  refine ⟨h.tabs.below hb (by omega) (by omega), ?_, fun k hk => ?_, h1, h2, h3, h4⟩
  · obtain ⟨tp, p, hc⟩ := h.errR
    exact ⟨tp, p, by rw [hb.cell (p := ⟨8, 0, none⟩) (show 8 < m by omega)]; exact hc⟩
  · rw [hb.cell (p := ⟨2, k, none⟩) (show 2 < m by omega)]; exact h.sgs k hk
theorem LexEnv.drewN {n : Nat} {w : World} (h : LexEnv n w) (q : Nat) : LexEnv n (w.drewN q) := ⟨h.tabs, h.errR, h.sgs, h.b1, h.b2, h.b3, h.b4⟩
theorem LexEnv.mono {n m : Nat} {w : World} (h : LexEnv n w) (hm : n ≤ m) : LexEnv m w := by
  have h1 := h.b1; have h2 := h.b2; have h3 := h.b3; have h4 := h.b4
  exact ⟨h.tabs, h.errR, h.sgs, by omega, by omega, by omega, by omega⟩

/-- An error with its place. -/
def AtErr (w : World) (cb : Nat) (x : Value) (r a : Nat) : Prop :=
  ∃ b, x = .iface 113 (.pointer (some ⟨b, 0, none⟩)) ∧ cb < b ∧ w.cell? ⟨b, 0, none⟩ = some (.int .i64 r) ∧ w.cell? ⟨b, 1, none⟩ = some (.int .i64 a)

variable {w w' : World} {cb a : Nat} {s : ByteArray} {v : Value} {ts : List Tok}
set_option maxRecDepth 100000 in
set_option maxHeartbeats 800000 in
theorem wrong_any (r : Nat) (w : World) (h : CutAt w cb s a v ts) :
    Calls Tryz.prog 95 #[.pointer (some ⟨cb, 0, none⟩), .int .i64 r] w fun e w' => ∃ x, e = .returned x ∧ AtErr w' cb x r a ∧ Below w.heap.size w w' := by
  have c1 := h.c1
  have hlt := h.lt
  clear h
  go_enter Tryz.func95, Tryz.ntmps95
  go_wp2_with fail
  go_ret
  exact ⟨_, rfl, ⟨_, rfl, hlt, by simp, by simp⟩, (Below.refl _ _).alloc (Nat.le_refl _) _⟩

/-- What a cut comes to. -/
def CutSays (w' : World) (cb : Nat) (s : ByteArray) (a : Nat) (ts : List Tok) (e : Ending) : Cut → Prop
  | .tok k n => e = .returned .nilIface ∧ ∃ v', CutAt w' cb s (a + n) v' (ts ++ [⟨k, (rs s a).take n, a⟩])
  | .err r => ∃ x, e = .returned x ∧ AtErr w' cb x r a

/-! Numbers. -/
theorem dg_all (l : B) : ∀ b ∈ l.takeWhile isDg, isDg b = true := fun b hb => by
  induction l with
  | nil => cases hb
  | cons c r ih =>
    by_cases h : isDg c
    · rw [List.takeWhile_cons_of_pos h] at hb
      rcases List.mem_cons.1 hb with rfl | hb
      · exact h
      · exact ih hb
    · rw [List.takeWhile_cons_of_neg h] at hb; cases hb
def numF (acc : Nat) (d : B) : Nat := d.foldl (fun n b => n * 10 + (b.toNat - 48)) acc
theorem numF_ge (d : B) : ∀ acc, acc ≤ numF acc d := by
  induction d with
  | nil => intro acc; exact Nat.le_refl _
  | cons b r ih => intro acc; exact Nat.le_trans (by omega) (ih (acc * 10 + (b.toNat - 48)))
theorem parseM_digits (d : B) (h : ∀ b ∈ d, isDg b = true) : ∀ acc, acc ≤ 18446744073709551615 → Lib.parseUintM 18446744073709551615 acc d = if numF acc d ≤ 18446744073709551615 then .ok (numF acc d) else .range := by
  induction d with
  | nil => intro acc hacc; unfold Lib.parseUintM numF; rw [List.foldl_nil, if_pos hacc]
  | cons b r ih =>
    intro acc hacc
    have hb := h b (List.mem_cons_self ..)
    have hd : 48 ≤ b.toNat ∧ b.toNat ≤ 57 := by simp [isDg] at hb; exact hb
    have e : numF acc (b :: r) = numF (acc * 10 + (b.toNat - 48)) r := rfl
    have hg := numF_ge r (acc * 10 + (b.toNat - 48))
    unfold Lib.parseUintM
    rw [if_pos hd, e]
    by_cases h1 : 1844674407370955162 ≤ acc
    · rw [if_pos h1, if_neg (by omega)]
    · rw [if_neg h1]
      by_cases h2 : 18446744073709551615 < acc * 10 + (b.toNat - 48)
      · rw [if_pos h2, if_neg (by omega)]
      · rw [if_neg h2]
        exact ih (fun c hc => h c (List.mem_cons_of_mem _ hc)) _ (by omega)
theorem parse_digits (d : B) (h : ∀ b ∈ d, isDg b = true) (hne : d ≠ []) : Lib.parseIntB 64 d = if bigV d then .range else .ok ((numV d : Nat) : Int) := by
  cases d with
  | nil => exact absurd rfl hne
  | cons c r =>
    have hc := h c (List.mem_cons_self ..)
    have hd : 48 ≤ c.toNat ∧ c.toNat ≤ 57 := by simp [isDg] at hc; exact hc
    have e : Lib.parseUintB 64 (c :: r) = if numV (c :: r) ≤ 18446744073709551615 then .ok (numV (c :: r)) else .range := by
      have := parseM_digits (c :: r) h 0 (by omega)
      unfold Lib.parseUintB
      rw [if_neg (by simp)]
      exact this
    have h45 : ¬ c.toNat = 45 := by omega
    have h43 : ¬ (c.toNat = 43 ∨ c.toNat = 45) := by omega
    unfold Lib.parseIntB bigV
    simp only [if_neg h43]
    rw [e]
    by_cases h1 : numV (c :: r) ≤ 18446744073709551615
    · rw [if_pos h1]
      simp only [h45, not_false_eq_true, true_and, false_and, if_false]
      by_cases h2 : 9223372036854775807 < numV (c :: r)
      · rw [if_pos (by omega), if_pos (by simpa using h2)]
      · rw [if_neg (by omega), if_neg (by simpa using h2)]
    · rw [if_neg h1, if_pos (by simp; omega)]

set_option maxRecDepth 100000 in
theorem parse_any (d : ByteArray) (hd : ∀ b ∈ d.data.toList, isDg b = true) (h1 : 0 < d.size) (h2 : d.size ≤ 4000) (W : World) (hE : ErrR W) :
    Calls Tryz.prog 96 #[.string d, .int .i64 10, .int .i64 64] W fun e w' => (∃ n x, e = .returned (.tuple #[.int .i64 n, x]) ∧ if bigV d.data.toList = true then ∃ p, x = .iface 198 p else x = .nilIface) ∧ Below W.heap.size W w' := by
  have hp := parse_digits d.data.toList hd (by intro e; have : d.data.toList.length = d.size := by simp
                                               rw [e] at this; simp at this; omega)
  by_cases hb : bigV d.data.toList = true
  · rw [if_pos hb] at hp
    obtain ⟨tp, p, hc⟩ := hE
    refine (Tryz.strconv_ParseInt_10_at64_range d (by omega) hp _ W hc (Or.inr ⟨tp, p, rfl⟩)).mono ?_
    rintro e w' ⟨N, rfl, -, -, hbl⟩
    exact ⟨⟨_, _, rfl, by rw [if_pos hb]; exact ⟨_, rfl⟩⟩, hbl⟩
  · rw [if_neg hb] at hp
    refine (Tryz.strconv_ParseInt_10_at64_ok d (by omega) _ hp W).mono ?_
    rintro e w' ⟨rfl, hw⟩
    refine ⟨⟨_, _, rfl, by rw [if_neg hb]⟩, ?_⟩
    rcases hw with rfl | ⟨t, rfl⟩
    · exact Below.refl _ _
    · exact Lib.bytesWorld_below _ _ _
end Go.Proofs.YthkfdhglgonmnaaGreatDoor
