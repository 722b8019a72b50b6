/-
  The walk of the law VaryOne: just one way: what is read was written just so.
-/
import Derived.Test.YtdjhbepocleehaaVaried
import Derived.Test.YtdjhbepocleehaaPick
import Derived.Deep.RegionHeld3
import Derived.Deep.QuietTactic
import Derived.BigQuiet
namespace Go.Proofs.Ytdjhbepocleehaa
open Go.RowKit

theorem zz_uz (n : Nat) : zz (uz n) = n := by unfold zz uz; split <;> split <;> omega
theorem reads_extract {s : ByteArray} {k n : Nat} (h : Reads ((bs s).drop k) n) : txt (Vy.enc n) = s.extract k (k + (Vy.enc n).length) := by
  apply bs_inj
  rw [bs_txt _ (Vy.enc_bytes n), bs_extract, List.drop_take, Nat.add_sub_cancel_left]
  exact List.prefix_iff_eq_take.1 h.2
theorem text_extract {s : ByteArray} {k n : Nat} (h : Reads ((bs s).drop k) n) (hk : k ≤ s.size) (hn : n ≤ s.size - (k + (Vy.enc n).length)) :
    (s.extract (k + (Vy.enc n).length) (k + (Vy.enc n).length + n)).size = n ∧ txt (Vy.enc n) ++ s.extract (k + (Vy.enc n).length) (k + (Vy.enc n).length + n) = s.extract k (k + (Vy.enc n).length + n) := by
  have hl := h.len
  rw [List.length_drop, bs_length] at hl
  refine ⟨by rw [ByteArray.size_extract]; omega, ?_⟩
  rw [reads_extract h]
  apply bs_inj
  rw [bs_append, bs_extract, bs_extract, bs_extract]
  rw [List.drop_take, List.drop_take, List.drop_take, show k + (Vy.enc n).length - k = (Vy.enc n).length by omega, show k + (Vy.enc n).length + n - (k + (Vy.enc n).length) = n by omega, show k + (Vy.enc n).length + n - k = (Vy.enc n).length + n by omega, ← List.drop_drop, List.take_add]

theorem below_drewN {B : Nat} {a w : World} (h : Below B a w) (n : Nat) : Below B a (w.drewN n) := ⟨h.os, h.tape, h.output, h.size, h.block⟩
/-- A contract that keeps what a world had, said of a world behind another one. -/
theorem behind {f : FuncId} {args : Array Value} {v : Value} (h : ∀ w : World, Calls Try.prog f args w fun e w' => e = .returned v ∧ Below w.heap.size w w') (w0 W : World) (hb : Below w0.heap.size w0 W) :
    Calls Try.prog f args W fun e w' => e = .returned v ∧ Below w0.heap.size w0 w' := (h W).mono fun _ _ ⟨he, h2⟩ => ⟨he, hb.trans (h2.mono hb.size)⟩

set_option maxRecDepth 100000 in
set_option maxHeartbeats 4000000 in
theorem varyOne_of (C : VaryC) (s : ByteArray) (a : Int) (w : World) (_hs : s.size ≤ maxLen) (_h1 : -9223372036854775808 ≤ a) (_h2 : a ≤ 9223372036854775807) :
    Calls Try.prog 4 #[.string s, .int .i64 a] w fun e w' => e = .returned (.bool true) ∧ Below w.heap.size w w' := by
  have HC := Lib.hid C
  unfold maxLen at _hs
  by_cases h300 : 300 < s.size
  · go_enter Try.func4, Try.ntmps4
    go_wp2_with fail
    refine (varied_any HC.out _).mono ?_
    rintro e w1 ⟨rfl, hb1⟩
    go_wp2_with fail
    go_ret
    exact ⟨rfl, hb1⟩
  · go_enter Try.func4, Try.ntmps4
    go_wp2_with fail
    refine (varied_any HC.out _).mono ?_
    rintro e w1 ⟨rfl, hb1⟩
    go_wp2_with fail
    rw [show (s.size : Int) + 1 = ((s.size + 1 : Nat) : Int) by omega]
    refine (pick_any a (s.size + 1) _ (by omega) (by omega)).mono ?_
    rintro e w' ⟨k, hk, rfl, rfl⟩
    have hks : k ≤ s.size := by omega
    clear hk
    by_cases hex : ∃ n, Reads ((bs s).drop k) n
    · obtain ⟨n, hr⟩ := hex
      have hl := hr.len
      rw [List.length_drop, bs_length] at hl
      have HN := Lib.hid hr.1
      have HX := Lib.hid (reads_extract hr)
      have HRN : Hid (RN ((bs s).drop k) k n (k + (Vy.enc n).length) 0) := Lib.hid (Or.inl ⟨hr, rfl, rfl⟩)
      have HTx := Lib.hid (text_extract hr hks)
      have HR := Lib.hid hr
      clear hr
      obtain ⟨q, hq⟩ : ∃ q, q = k + (Vy.enc n).length := ⟨_, rfl⟩
      have HLQ := Lib.hid hq
      rw [← hq] at HRN HX HTx
      have hkq : k < q := by omega
      have hqs : q ≤ s.size := by omega
      clear hq hl
      have HNum : Hid (∀ w : World, Calls Try.prog 10 #[.int .u64 n] w fun e w' => e = .returned (.string (s.extract k q)) ∧ Below w.heap.size w w') := Lib.hid (fun w => (HC.out.num n w HN.out).mono fun _ _ ⟨he, hb⟩ => ⟨by rw [he, HX.out], hb⟩)
      have hur := uz_range n HN.out
      have HInt : Hid (∀ w : World, Calls Try.prog 12 #[.int .i64 (uz n)] w fun e w' => e = .returned (.string (s.extract k q)) ∧ Below w.heap.size w w') := Lib.hid (fun w => (HC.out.int (uz n) w hur.1 hur.2).mono fun _ _ ⟨he, hb⟩ => ⟨by rw [he, zz_uz, HX.out], hb⟩)
      have HUR := Lib.hid hur
      clear hur
      generalize huz : uz n = u at *
      have g1 : decide ((q : Int) ≤ (k : Int)) = false := by simp; omega
      have g2 : decide ((s.size : Int) < (q : Int)) = false := by simp; omega
      have g1' : decide (q ≤ k) = false := by simp; omega
      have g2' : decide (s.size < q) = false := by simp; omega
      have i1 : (k : Int) ≤ (q : Int) := by omega
      have i2 : (q : Int) ≤ (s.size : Int) := by omega
      have HUZ := Lib.hid huz
      clear huz
      by_cases hnt : n ≤ s.size - q
      · obtain ⟨ht1, ht2⟩ := HTx.out hnt
        have HRT : Hid (RT s k (s.extract q (q + n)) (q + n) 0) := Lib.hid (Or.inl ⟨n, HR.out, by have := HLQ.out; omega, by rw [← HLQ.out], by rw [← HLQ.out], rfl⟩)
        have HText : Hid (∀ w : World, Calls Try.prog 14 #[.string (s.extract q (q + n))] w fun e w' => e = .returned (.string (s.extract k (q + n))) ∧ Below w.heap.size w w') := Lib.hid (fun w => (HC.out.text _ w (by omega)).mono fun _ _ ⟨he, hb⟩ => ⟨by rw [he, ht1, ht2], hb⟩)
        obtain ⟨l, hl⟩ : ∃ l, l = q + n := ⟨_, rfl⟩
        rw [← hl] at HRT HText
        have hkl : k < l := by omega
        have hls : l ≤ s.size := by omega
        have j1 : decide (l ≤ k) = false := by simp; omega
        have j2 : decide (k < l) = true := by simp; omega
        have j3 : decide (l ≤ s.size) = true := by simp; omega
        have j4 : (k : Int) ≤ (l : Int) := by omega
        have j5 : (l : Int) ≤ (s.size : Int) := by omega
        clear HTx hnt ht1 ht2 hl
        generalize s.extract q l = t at *
        go_wp2_with fail
        refine (HC.out.readNum s k n q 0 _ (by omega) hks HRN.out).mono ?_
        rw [errV_0]
        rintro e w2 ⟨rfl, hb2⟩
        go_wp2_with fail
        refine (HC.out.readInt s k n q 0 _ (by omega) hks HRN.out HN.out).mono ?_
        rw [errV_0, HUZ.out]
        rintro e w3 ⟨rfl, hb3⟩
        go_wp2_with fail
        refine (HC.out.readText s t k l 0 _ (by omega) hks HRT.out).mono ?_
        rw [errV_0]
        rintro e w4 ⟨rfl, hb4⟩
        go_wp2_with fail
        have hbs : Below w4.heap.size w4 w4.drew := (Below.refl _ _).drew
        have HN4 := Lib.hid (behind HNum.out w4)
        have HT4 := Lib.hid (behind HText.out w4)
        have HI4 := Lib.hid (behind HInt.out w4)
        go_region_held3 (fun w : World => Below w4.heap.size w4 w) (first | assumption | exact Below.drew (by assumption)) ((first | (go_at_call 10; refine (HN4.out _ (by assumption)).mono ?_; rintro e w5 ⟨rfl, hb5⟩)))
        go_wp2_with fail
        go_region_held3 (fun w : World => Below w4.heap.size w4 w) (first | assumption | exact Below.drew (by assumption)) ((first | (go_at_call 12; refine (HI4.out _ (by assumption)).mono ?_; rintro e w6 ⟨rfl, hb6⟩)))
        go_wp2_with fail
        go_region_held3 (fun w : World => Below w4.heap.size w4 w) (first | assumption | exact Below.drew (by assumption)) ((first | (go_at_call 14; refine (HT4.out _ (by assumption)).mono ?_; rintro e w7 ⟨rfl, hb7⟩)))
        go_wp2_with fail
        go_ret
        have s1 := hb1.size
        have s2 := hb2.size
        have s3 := hb3.size
        have s4 := hb4.size
        exact ⟨rfl, (((hb1.trans (hb2.mono s1)).trans (hb3.mono (by omega))).trans (hb4.mono (by omega))).trans (hb7.mono (by omega))⟩
      · have HRT : Hid (RT s k (txt []) 0 3) := Lib.hid (Or.inr ⟨fun m hm => by
            have e := Vy.enc_prefix hm.2 HR.out.2
            subst e
            have := HLQ.out
            omega, rfl, rfl, rfl⟩)
        clear HTx hnt
        go_wp2_with fail
        refine (HC.out.readNum s k n q 0 _ (by omega) hks HRN.out).mono ?_
        rw [errV_0]
        rintro e w2 ⟨rfl, hb2⟩
        go_wp2_with fail
        refine (HC.out.readInt s k n q 0 _ (by omega) hks HRN.out HN.out).mono ?_
        rw [errV_0, HUZ.out]
        rintro e w3 ⟨rfl, hb3⟩
        go_wp2_with fail
        refine (HC.out.readText s (txt []) k 0 3 _ (by omega) hks HRT.out).mono ?_
        rw [errV_3]
        rintro e w4 ⟨rfl, hb4⟩
        go_wp2_with fail
        have hbs : Below w4.heap.size w4 w4.drew := (Below.refl _ _).drew
        have HN4 := Lib.hid (behind HNum.out w4)
        have HI4 := Lib.hid (behind HInt.out w4)
        go_region_held3 (fun w : World => Below w4.heap.size w4 w) (first | assumption | exact Below.drew (by assumption)) ((first | (go_at_call 10; refine (HN4.out _ (by assumption)).mono ?_; rintro e w5 ⟨rfl, hb5⟩)))
        go_wp2_with fail
        go_region_held3 (fun w : World => Below w4.heap.size w4 w) (first | assumption | exact Below.drew (by assumption)) ((first | (go_at_call 12; refine (HI4.out _ (by assumption)).mono ?_; rintro e w6 ⟨rfl, hb6⟩)))
        go_wp2_with fail
        go_quiet (fail)
        go_wp2_with fail
        go_ret
        have s1 := hb1.size
        have s2 := hb2.size
        have s3 := hb3.size
        have s4 := hb4.size
        exact ⟨rfl, below_drewN ((((hb1.trans (hb2.mono s1)).trans (hb3.mono (by omega))).trans (hb4.mono (by omega))).trans (hb6.mono (by omega))) _⟩
    · have HRN : Hid (RN ((bs s).drop k) k 0 0 3) := Lib.hid (Or.inr ⟨fun n hn => hex ⟨n, hn⟩, rfl, rfl, rfl⟩)
      have HRT : Hid (RT s k (txt []) 0 3) := Lib.hid (Or.inr ⟨fun n hn => absurd ⟨n, hn⟩ hex, rfl, rfl, rfl⟩)
      clear hex
      go_wp2_with fail
      refine (HC.out.readNum s k 0 0 3 _ (by omega) hks HRN.out).mono ?_
      rw [errV_3]
      rintro e w2 ⟨rfl, hb2⟩
      go_wp2_with fail
      refine (HC.out.readInt s k 0 0 3 _ (by omega) hks HRN.out (by decide)).mono ?_
      rw [errV_3, show uz 0 = 0 from rfl]
      rintro e w3 ⟨rfl, hb3⟩
      go_wp2_with fail
      refine (HC.out.readText s (txt []) k 0 3 _ (by omega) hks HRT.out).mono ?_
      rw [errV_3]
      rintro e w4 ⟨rfl, hb4⟩
      have s1 := hb1.size
      have s2 := hb2.size
      have s3 := hb3.size
      have hb14 : Below w.heap.size w w4 := ((hb1.trans (hb2.mono s1)).trans (hb3.mono (by omega))).trans (hb4.mono (by omega))
      clear hb1 hb2 hb3 hb4 s1 s2 s3
      go_wp2_with fail
      go_quiet (fail)
      go_wp2_with fail
      go_quiet (fail)
      go_wp2_with fail
      go_quiet (fail)
      go_wp2_with fail
      go_ret
      exact ⟨rfl, below_drewN (below_drewN (below_drewN hb14 _) _) _⟩
end Go.Proofs.Ytdjhbepocleehaa
