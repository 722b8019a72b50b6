/-
  What chapter 2 says of bytes and texts: definitions and plain lemmas (no walk).
-/
import Derived.Test.YtlfcfaceeloedaaDoorText
import Derived.Test.YtlfcfaceeloedaaDoorVaryM
namespace Go.Proofs.YtlfcfaceeloedaaDoor
open Go.RowKit

/-- A number's bytes begin a list. -/
def Reads (l : List Nat) (n : Nat) : Prop := n < 2 ^ 64 ∧ Vy.enc n <+: l
/-- What ReadNum says of the bytes l that stand from at on. -/
def RN (l : List Nat) (at_ rn rnext re : Nat) : Prop := (Reads l rn ∧ rnext = at_ + (Vy.enc rn).length ∧ re = 0) ∨ ((∀ n, ¬ Reads l n) ∧ rn = 0 ∧ rnext = 0 ∧ re = 3)

/-- The first k bytes are 128 or more. -/
def Big (l : List Nat) (k : Nat) : Prop := ∀ i, i < k → i < l.length → 128 ≤ l.getD i 0
theorem Big.zero (l : List Nat) : Big l 0 := fun i hi => by omega
theorem Big.succ {l : List Nat} {k : Nat} (h : Big l k) (hb : 128 ≤ l.getD k 0) : Big l (k + 1) := fun i hi hl => by
  by_cases e : i = k
  · subst e; exact hb
  · exact h i (by omega) hl
theorem prefix_getD {a l : List Nat} (h : a <+: l) (i : Nat) (hi : i < a.length) : l.getD i 0 = a.getD i 0 := by
  obtain ⟨r, rfl⟩ := h
  simp [List.getD_eq_getElem?_getD, List.getElem?_append_left hi]
theorem Reads.len {l : List Nat} {n : Nat} (h : Reads l n) : (Vy.enc n).length ≤ 10 ∧ (Vy.enc n).length ≤ l.length ∧ 0 < (Vy.enc n).length :=
  ⟨Vy.enc_len10 n h.1, h.2.length_le, Vy.enc_len_pos n⟩
theorem Reads.past {l : List Nat} {n k : Nat} (h : Reads l n) (hb : Big l k) : k < (Vy.enc n).length := by
  obtain ⟨h1, h2, h3⟩ := h.len
  rcases Nat.lt_or_ge k (Vy.enc n).length with hk | hk
  · exact hk
  · have hi : (Vy.enc n).length - 1 < (Vy.enc n).length := by omega
    have h4 := hb ((Vy.enc n).length - 1) (by omega) (by omega)
    rw [prefix_getD h.2 _ hi] at h4
    have := (Vy.enc_get n _ hi).2 (by omega)
    omega
theorem Reads.at {l : List Nat} {n k : Nat} (h : Reads l n) (hb : Big l k) (hs : l.getD k 0 < 128) : (Vy.enc n).length = k + 1 ∧ l.take (k + 1) = Vy.enc n := by
  have hk := h.past hb
  rw [prefix_getD h.2 _ hk] at hs
  have e := (Vy.enc_get n k hk).1 hs
  exact ⟨e.symm, by rw [e]; exact (List.prefix_iff_eq_take.1 h.2).symm⟩
theorem RN.none {l : List Nat} {at_ rn rnext re k : Nat} (h : RN l at_ rn rnext re) (hb : Big l k) (hk : 10 ≤ k ∨ l.length ≤ k) : rn = 0 ∧ rnext = 0 ∧ re = 3 := by
  rcases h with ⟨h, _⟩ | ⟨_, h⟩
  · have := h.past hb; have := h.len; omega
  · exact h

theorem RN.found {l : List Nat} {at_ rn rnext re k nn : Nat} (h : RN l at_ rn rnext re) (hb : Big l k) (hs : l.getD k 0 < 128) (hn : Vy.val (l.take (k + 1)) % 2 ^ 64 = nn) :
    (Vy.enc nn = l.take (k + 1) ∧ rn = nn ∧ rnext = at_ + (Vy.enc nn).length ∧ re = 0) ∨ (Vy.enc nn ≠ l.take (k + 1) ∧ rn = 0 ∧ rnext = 0 ∧ re = 3) := by
  have hlt : nn < 2 ^ 64 := by rw [← hn]; exact Nat.mod_lt _ (by decide)
  rcases h with ⟨h, h1, h2⟩ | ⟨h, h1⟩
  · left
    have e := (h.at hb hs).2
    rw [e, Vy.val_enc, Nat.mod_eq_of_lt h.1] at hn
    subst hn
    exact ⟨e.symm, rfl, h1, h2⟩
  · right
    exact ⟨fun e => h nn ⟨hlt, by rw [e]; exact List.take_prefix _ _⟩, h1⟩
theorem val_step (l : List Nat) (i v : Nat) (hv : Vy.val (l.drop (i + 1)) % 2 ^ 64 = v) (hi : i < l.length) :
    IntKind.u64.wrap (IntKind.u64.wrap ((v : Int) * 128) + ((l.getD i 0 : Nat) : Int) % 128) = ((Vy.val (l.drop i) % 2 ^ 64 : Nat) : Int) := by
  have e : Vy.val (l.drop i) = l.getD i 0 % 128 + 128 * Vy.val (l.drop (i + 1)) := by
    rw [List.drop_eq_getElem_cons hi, Vy.val, List.getD_eq_getElem?_getD, List.getElem?_eq_getElem hi]; rfl
  rw [e, IntKind.wrap_u64, IntKind.wrap_u64, ← hv]
  omega

/-- A number below 0, too, as one that isn't; and back. -/
def zz (n : Int) : Nat := if 0 ≤ n then (2 * n).toNat else (2 * (-(n + 1)) + 1).toNat
def uz (n : Nat) : Int := if n % 2 = 1 then -((n / 2 : Nat) : Int) - 1 else ((n / 2 : Nat) : Int)
theorem zz_lt (n : Int) (h1 : -9223372036854775808 ≤ n) (h2 : n ≤ 9223372036854775807) : zz n < 2 ^ 64 := by unfold zz; split <;> omega
theorem uz_zz (n : Int) : uz (zz n) = n := by unfold uz zz; split <;> split <;> omega

theorem uz_range (n : Nat) (h : n < 2 ^ 64) : -9223372036854775808 ≤ uz n ∧ uz n ≤ 9223372036854775807 := by unfold uz; split <;> omega

/-- What ReadText says of a text s at a. -/
def RT (s : ByteArray) (a : Nat) (t : ByteArray) (rnext re : Nat) : Prop :=
  (∃ n, Reads ((bs s).drop a) n ∧ n ≤ s.size - (a + (Vy.enc n).length) ∧ t = s.extract (a + (Vy.enc n).length) (a + (Vy.enc n).length + n) ∧ rnext = a + (Vy.enc n).length + n ∧ re = 0) ∨
  ((∀ n, Reads ((bs s).drop a) n → s.size - (a + (Vy.enc n).length) < n) ∧ t = txt [] ∧ rnext = 0 ∧ re = 3)

theorem RN.exists (l : List Nat) (a : Nat) : ∃ rn rnext re, RN l a rn rnext re ∧ rn < 2 ^ 64 := by
  by_cases h : ∃ n, Reads l n
  · obtain ⟨n, h⟩ := h
    exact ⟨n, _, 0, Or.inl ⟨h, rfl, rfl⟩, h.1⟩
  · exact ⟨0, 0, 3, Or.inr ⟨fun n hn => h ⟨n, hn⟩, rfl, rfl, rfl⟩, by decide⟩
theorem RT.exists (s : ByteArray) (a : Nat) : ∃ t rnext re, RT s a t rnext re := by
  by_cases h : ∃ n, Reads ((bs s).drop a) n ∧ n ≤ s.size - (a + (Vy.enc n).length)
  · obtain ⟨n, h, h2⟩ := h
    exact ⟨_, _, 0, Or.inl ⟨n, h, h2, rfl, rfl, rfl⟩⟩
  · exact ⟨_, 0, 3, Or.inr ⟨fun n hn => Nat.lt_of_not_le fun h2 => h ⟨n, hn, h2⟩, rfl, rfl, rfl⟩⟩
end Go.Proofs.YtlfcfaceeloedaaDoor
