/-
  The walk of package vary's Num.
-/
import Derived.Test.YtjdihgmngiplkaaDoorErrV
import Derived.RegionTactic
import Derived.ChangeAlike
namespace Go.Proofs.YtjdihgmngiplkaaDoor
open Go.RowKit

/-- Bytes as cells. -/
def cells8 (l : List Nat) : List Value := l.map fun b : Nat => Value.int .u8 (b : Int)
theorem cells8_snoc (l : List Nat) (b : Nat) : cells8 l ++ [.int .u8 (b : Int)] = cells8 (l ++ [b]) := by simp [cells8]
theorem owns_ge {w : World} {base : Nat} {e : TypeId} {size : Nat} {v : Value} {n : Nat} {xs : List Value} (h : w.ownsRow base e size v n xs) : ∀ k, v.ownBlock = some k → base ≤ k := by
  intro k hk
  rcases h.2 with ⟨rfl, _⟩ | ⟨g, cap, cur, rfl, hg, _⟩
  · cases hk
  · cases hk; exact hg
theorem RowAt.ofOwns {w : World} {base n : Nat} {v : Value} {l : List Nat} (h : w.ownsRow base 5 1 v n (cells8 l)) (h0 : 0 < n) :
    ∃ g cap, v = .slice (some ⟨g, 0, none⟩) n cap ∧ base ≤ g ∧ g < w.heap.size ∧ RowAt w g l ∧ l.length = n ∧ n ≤ cap := by
  have hl : l.length = n := by simpa [cells8] using h.1
  rcases h.2 with ⟨_, hn⟩ | ⟨g, cap, cur, rfl, hbg, hg, hnc, hcm, hcs, htake⟩
  · omega
  · refine ⟨g, cap, rfl, hbg, (Array.getElem?_eq_some_iff.1 hg).1, fun j hj => ⟨?_, frozen_of_row w g j cur 5 hg⟩, hl, hnc⟩
    rw [cell_of_row w g j cur 5 (0, 0) hg]
    have h2 : (cur.toList.take (n * 1))[j]? = (cells8 l)[j]? := by rw [htake]
    rw [List.getElem?_take, if_pos (by omega)] at h2
    simp [cells8, hj, List.getD_eq_getElem?_getD] at h2 ⊢
    exact h2
theorem make10 (w : World) : ∃ w', (Instr.makeSlice 53 (.int .i64 0) (.int .i64 10)).run Tryd.prog w = .ok (.slice (some ⟨w.heap.size, 0, none⟩) 0 10) w' ∧
    w'.ownsRow w.heap.size 5 1 (.slice (some ⟨w.heap.size, 0, none⟩) 0 10) 0 [] ∧ w.grownBy w' none := by
  obtain ⟨i0, hi, hz0, hz1, hz2⟩ := info_parts info_u8
  exact run_make_own (P := Tryd.prog) w w.heap.size 53 5 i0 (.int .u8 0) 1 Tryd.underlying53 hi hz0 hz1 .i64 .i64 10 (by rw [hz2]; decide) (by decide) (Nat.le_refl _)

/-- Where Num's loop stands. -/
def EncAt (N : Nat) (l : List Nat) (m : Nat) : Prop := Vy.enc N = l ++ Vy.enc m ∧ m ≤ N
theorem EncAt.step {N : Nat} {l : List Nat} {m : Nat} (h : EncAt N l m) (hm : ¬ m < 128) : EncAt N (l ++ [m % 128 + 128]) (m / 128) :=
  ⟨by rw [h.1, Vy.enc_big hm]; simp, by have := h.2; omega⟩
theorem EncAt.fin {N : Nat} {l : List Nat} {m : Nat} (h : EncAt N l m) (hm : m < 128) : l ++ [m] = Vy.enc N := by rw [h.1, Vy.enc_small hm]
theorem EncAt.len {N : Nat} {l : List Nat} {m : Nat} (h : EncAt N l m) (hN : N < 2 ^ 64) : l.length < 10 := by
  have h2 := Vy.enc_len10 N hN
  have := Vy.enc_len_pos m
  rw [h.1, List.length_append] at h2; omega

set_option maxRecDepth 100000 in
set_option maxHeartbeats 1600000 in
theorem num_any (N : Nat) (w : World) (hN : N < 2 ^ 64) :
    Calls Tryd.prog 61 #[.int .u64 N] w fun e w' => e = .returned (.string (txt (Vy.enc N))) ∧ Below w.heap.size w w' := by
  obtain ⟨i0, hi, hz0, hz1, hz2⟩ := info_parts info_u8
  obtain ⟨wm, hmk, hown0, hgr0⟩ := make10 w
  go_enter Tryd.func61, Tryd.ntmps61
  go_wp2_with fail
  have hb0 : Below w.heap.size w wm := (Below.refl _ _).grown hgr0 (Nat.le_refl _) (fun k hk => by cases hk)
  clear hmk hgr0
  have HO0 := Lib.hid hown0
  clear hown0
  go_loopw [0, 3] (fun n v wr => ∃ (m : Nat) (l : List Nat), n = .int .u64 m ∧ EncAt N l m ∧ wr.ownsRow w.heap.size 5 1 v l.length (cells8 l) ∧ Below w.heap.size w wr) (fun n _ _ => (intOf n).toNat)
  case atStart => exact ⟨N, [], rfl, ⟨rfl, Nat.le_refl _⟩, HO0.out, hb0⟩
  case round =>
    obtain ⟨m, l, rfl, hat, hown, hb⟩ := hrel
    have hl10 := hat.len hN
    have hmN := hat.2
    by_cases hm : m < 128
    · have HF := Lib.hid (hat.fin hm)
      clear hat HO0
      have hmi : ((m : Int) % 256) = (m : Int) := by omega
      go_wp2_with (at_builtin; refine wpList_append_own _ rfl _ _ 53 rfl w.heap.size 5 i0 (.int .u8 0) 1 1 Tryd.underlying53 hi hz0 hz1 hz2 rfl (by decide) _ _ _ rfl (hown.alloc _) ⟨_, 0, none⟩ 1 1 [.int .u8 (m : Int)] rfl rfl ?c1 ?c2 ?c3 ?c4 ?c5 ?_)
      case c1 => exact cell_one_new _ _ _
      case c2 => intro u hu; rw [List.mem_singleton.1 hu]; rfl
      case c3 => unfold maxLen; omega
      case c4 => omega
      case c5 => have := hb.size; simp; omega
      intro v' w1 hown' hgrow _
      have hb3 : Below w.heap.size w w1 := (hb.alloc hb.size _).grown hgrow (by have := hb.size; simp; omega) (owns_ge hown)
      rw [cells8_snoc, HF.out] at hown'
      have hlen : (Vy.enc N).length = l.length + 1 := by rw [← HF.out]; simp
      obtain ⟨g, cap, rfl, hg1, hg2, hrow, _, _⟩ := RowAt.ofOwns hown' (by omega)
      have HT := hrow.text (c := cap) hlen
      clear hown' hown hgrow hb hrow
      go_wp2_with fail
      go_ret
      exact ⟨rfl, hb3⟩
    · have HS := Lib.hid (hat.step hm)
      have hor : bits .or .u8 ((m : Int) % 256) 128 = ((m % 128 + 128 : Nat) : Int) := by
        have h1 := u8_or_nat (m % 256) 128 (by omega) (by omega)
        have h2 : m % 256 ||| 128 = m % 128 + 128 := by
          have e : m % 256 = m % 128 + 128 * (m / 128 % 2) := by omega
          have h3 : ∀ a, a < 256 → a ||| 128 = a % 128 + 128 := by decide
          rw [h3 (m % 256) (by omega)]; omega
        rw [h2] at h1
        simpa using h1
      have HM := Lib.hid hm
      have hm2 : ¬ (m : Int) < 128 := by omega
      clear hat HO0
      generalize hd : m % 128 + 128 = d at *
      have hdb : d < 256 := by omega
      go_wp2_with (at_builtin; refine wpList_append_own _ rfl _ _ 53 rfl w.heap.size 5 i0 (.int .u8 0) 1 1 Tryd.underlying53 hi hz0 hz1 hz2 rfl (by decide) _ _ _ rfl (hown.alloc _) ⟨_, 0, none⟩ 1 1 [.int .u8 (d : Int)] rfl rfl ?c1 ?c2 ?c3 ?c4 ?c5 ?_)
      case c2 => first | rfl | (intro u hu; rw [List.mem_singleton.1 hu]; rfl)
      case c3 => unfold maxLen; omega
      case c4 => omega
      case c5 => have := hb.size; simp; omega
      intro v' w1 hown' hgrow _
      have hb3 : Below w.heap.size w w1 := (hb.alloc hb.size _).grown hgrow (by have := hb.size; simp; omega) (owns_ge hown)
      rw [cells8_snoc] at hown'
      have HO := Lib.hid hown'
      clear hown' hgrow hb hown
      go_wp2_with fail
      go_roundw
      case rel => exact ⟨m / 128, l ++ [d], by go_num, HS.out, by rw [List.length_append]; exact HO.out, hb3⟩
      case measure => simp [intOf]; omega
end Go.Proofs.YtjdihgmngiplkaaDoor
