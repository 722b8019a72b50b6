/-
  The walks of the reference's chapter 2, first part: Num.
-/
import Derived.Test.YtdjhbepocleehaaDoorText
import Derived.Test.YtdjhbepocleehaaDoorVaryM
import Derived.RegionTactic
import Derived.ChangeAlike
namespace Go.Proofs.YtdjhbepocleehaaDoor
open Go.RowKit

/-- A block that has just been laid with bytes reads as their text. -/
theorem new_text {w : World} (l : List Nat) (n : Nat) (hn : l.length = n) :
    (convert 55 9 (.slice (some ⟨w.heap.size, 0, none⟩) n n)).run Tryd.prog (w.alloc (.cells (rowV l) 5)) = .ok (.string (txt l)) (w.alloc (.cells (rowV l) 5)) :=
  text_of_row (heap_alloc_new _ _) hn

theorem new_text1 {w : World} (d : Nat) : (convert 55 9 (.slice (some ⟨w.heap.size, 0, none⟩) 1 1)).run Tryd.prog (w.alloc (.cells #[.int .u8 (d : Int)] 5)) = .ok (.string (txt [d])) (w.alloc (.cells #[.int .u8 (d : Int)] 5)) := new_text [d] 1 rfl
theorem new_text2 {w : World} (d e : Nat) : (convert 55 9 (.slice (some ⟨w.heap.size, 0, none⟩) 2 2)).run Tryd.prog (w.alloc (.cells #[.int .u8 (d : Int), .int .u8 (e : Int)] 5)).drew = .ok (.string (txt [d, e])) (w.alloc (.cells #[.int .u8 (d : Int), .int .u8 (e : Int)] 5)).drew :=
  text_of_row (W := (w.alloc (.cells (rowV [d, e]) 5)).drew) (l := [d, e]) (heap_alloc_new _ _) rfl

/-- Where the loop of Num stands: the bytes so far, the last one's digit, what is left. -/
def NumAt (N : Nat) (o : ByteArray) (m : Nat) (l : List Nat) (d : Nat) : Prop := bs o = l ++ [d] ∧ d < 128 ∧ Vy.enc N = (if m = 0 then l ++ [d] else l ++ [d + 128] ++ Vy.enc m)
theorem NumAt.start (N : Nat) : NumAt N (txt [N % 128]) (N / 128) [] (N % 128) := by
  refine ⟨by rw [bs_txt _ (by intro b hb; rw [List.mem_singleton.1 hb]; omega)]; rfl, by omega, ?_⟩
  by_cases h : N < 128
  · rw [if_pos (by omega), Vy.enc_small h, Nat.mod_eq_of_lt h]; rfl
  · rw [if_neg (by omega), Vy.enc_big h]; rfl
theorem NumAt.size {N : Nat} {o : ByteArray} {m : Nat} {l : List Nat} {d : Nat} (h : NumAt N o m l d) (hN : N < 2 ^ 64) : o.size = l.length + 1 ∧ l.length < 10 := by
  have h1 : o.size = l.length + 1 := by rw [← bs_length, h.1]; simp
  refine ⟨h1, ?_⟩
  have h2 := Vy.enc_len10 N hN
  rw [h.2.2] at h2
  split at h2 <;> simp at h2 <;> omega
theorem NumAt.step {N : Nat} {o : ByteArray} {m : Nat} {l : List Nat} {d : Nat} (h : NumAt N o m l d) (hm : 0 < m) : NumAt N (o.extract 0 l.length ++ txt [d + 128, m % 128]) (m / 128) (l ++ [d + 128]) (m % 128) := by
  have hd := h.2.1
  refine ⟨?_, by omega, ?_⟩
  · rw [bs_append, bs_extract, h.1, bs_txt _ (by intro b hb; simp at hb; omega)]
    simp
  · rw [h.2.2, if_neg (by omega)]
    by_cases h1 : m < 128
    · rw [if_pos (by omega), Vy.enc_small h1, Nat.mod_eq_of_lt h1]
    · rw [if_neg (by omega), Vy.enc_big h1]; simp
theorem NumAt.fin {N : Nat} {o : ByteArray} {l : List Nat} {d : Nat} (h : NumAt N o 0 l d) : o = txt (Vy.enc N) := by
  rw [h.2.2, if_pos rfl, ← h.1, txt_bs]
theorem NumAt.last {N : Nat} {o : ByteArray} {m : Nat} {l : List Nat} {d : Nat} (h : NumAt N o m l d) (hl : l.length < o.size) : o[l.length].toNat = d := by
  have := bs_getD o l.length hl
  rw [h.1] at this
  simpa using this.symm

set_option maxRecDepth 100000 in
set_option maxHeartbeats 800000 in
theorem refNum_any (N : Nat) (w : World) (hN : N < 2 ^ 64) :
    Calls Tryd.prog 11 #[.int .u64 N] w fun e w' => e = .returned (.string (txt (Vy.enc N))) ∧ Below w.heap.size w w' := by
  have hcv : (convert 55 9 (.slice (some ⟨w.heap.size, 0, none⟩) 1 1)).run Tryd.prog (w.alloc (.cells #[.int .u8 ((N : Int) % 128)] 5)) = .ok (.string (txt [N % 128])) (w.alloc (.cells #[.int .u8 ((N : Int) % 128)] 5)) := new_text1 (N % 128)
  have HS := Lib.hid (NumAt.start N)
  generalize txt [N % 128] = o0 at *
  go_enter Tryd.func11, Tryd.ntmps11
  go_wp2_with fail
  clear hcv
  go_loopw [0, 3] (fun n s wr => ∃ (m : Nat) (o : ByteArray) (l : List Nat) (d : Nat), m ≤ N ∧ n = .int .u64 m ∧ s = .string o ∧ NumAt N o m l d ∧ Below w.heap.size w wr) (fun n _ _ => (intOf n).toNat)
  case atStart => exact ⟨N / 128, o0, [], N % 128, by omega, rfl, rfl, HS.out, (Below.refl _ _).alloc (Nat.le_refl _) _⟩
  case round =>
    obtain ⟨m, o, l, d, hmN, rfl, rfl, hat, hb⟩ := hrel
    obtain ⟨hsz, hl10⟩ := hat.size hN
    have HA := Lib.hid hat
    clear HS
    by_cases hm : 0 < m
    · have hd := hat.2.1
      have hlast := hat.last (by omega)
      have HSt := Lib.hid (hat.step hm)
      have hcv2 : (convert 55 9 (.slice (some ⟨wr.heap.size, 0, none⟩) 2 2)).run Tryd.prog (wr.alloc (.cells #[.int .u8 ((d : Int) + 128), .int .u8 ((m : Int) % 128)] 5)).drew = .ok (.string (txt [d + 128, m % 128])) (wr.alloc (.cells #[.int .u8 ((d : Int) + 128), .int .u8 ((m : Int) % 128)] 5)).drew := new_text2 (d + 128) (m % 128)
      have ht2 : (txt [d + 128, m % 128]).size ≤ 2 := by rw [txt_size]; simp
      have ht1 : (o.extract 0 l.length).size ≤ 10 := by rw [ByteArray.size_extract]; omega
      generalize txt [d + 128, m % 128] = t2 at *
      clear hat
      go_wp2_with fail
      go_region
      go_wp2_with fail
      go_roundw
      case rel => exact ⟨m / 128, _, _, _, by omega, by go_num, rfl, HSt.out, (hb.alloc hb.size _).drew⟩
      case measure => simp [intOf]; omega
    · obtain rfl : m = 0 := by omega
      go_wp2_with fail
      go_ret
      exact ⟨by rw [hat.fin]; rfl, hb⟩
end Go.Proofs.YtdjhbepocleehaaDoor
