/-
  The walk of the law VaryApart: none begins another one.
-/
import Derived.Test.YtdjhbepocleehaaVaried
import Derived.Test.YtdjhbepocleehaaPrefix
namespace Go.Proofs.Ytdjhbepocleehaa
open Go.RowKit

theorem zz_inj {a b : Int} (h : zz a = zz b) : a = b := by rw [← uz_zz a, h, uz_zz]
theorem pre_iff (a b : Nat) : Vy.enc b <+: Vy.enc a ↔ a = b := by
  constructor
  · intro h; exact Vy.enc_prefix (List.prefix_refl _) h
  · rintro rfl; exact List.prefix_refl _
theorem txt_pre (a b : Nat) (x : Bool) (h : x = true ↔ a = b) : x = true ↔ bs (txt (Vy.enc b)) <+: bs (txt (Vy.enc a)) := by
  rw [bs_txt _ (Vy.enc_bytes a), bs_txt _ (Vy.enc_bytes b), pre_iff]; exact h
theorem txt_enc_max (n : Nat) (h : n < 2 ^ 64) : (txt (Vy.enc n)).size ≤ maxLen := by
  have := Vy.enc_len10 n h
  unfold maxLen; rw [txt_size]; omega

set_option maxRecDepth 100000 in
set_option maxHeartbeats 1600000 in
theorem varyApart_of (C : VaryC) (a b : Nat) (c d : Int) (w : World) (ha : a < 2 ^ 64) (hb : b < 2 ^ 64) (hc1 : -9223372036854775808 ≤ c) (hc2 : c ≤ 9223372036854775807) (hd1 : -9223372036854775808 ≤ d) (hd2 : d ≤ 9223372036854775807) :
    Calls Try.prog 5 #[.int .u64 a, .int .u64 b, .int .i64 c, .int .i64 d] w fun e w' => e = .returned (.bool true) ∧ Below w.heap.size w w' := by
  have HC := Lib.hid C
  have hzc := zz_lt c hc1 hc2
  have hzd := zz_lt d hd1 hd2
  obtain ⟨x, hx⟩ : ∃ x : Bool, x = ((a : Int) == (b : Int)) := ⟨_, rfl⟩
  obtain ⟨y, hy⟩ : ∃ y : Bool, y = (c == d) := ⟨_, rfl⟩
  have HP1 := Lib.hid (txt_pre a b x (by rw [hx, beq_iff_eq]; omega))
  have HP2 := Lib.hid (txt_pre (zz c) (zz d) y (by rw [hy, beq_iff_eq]; exact ⟨fun h => by rw [h], zz_inj⟩))
  have ha2 := Lib.hid (txt_enc_max a ha)
  have hb2 := Lib.hid (txt_enc_max b hb)
  have hc3 := Lib.hid (txt_enc_max (zz c) hzc)
  have hd3 := Lib.hid (txt_enc_max (zz d) hzd)
  have hx' := hx.symm
  have hy' := hy.symm
  clear hx hy
  go_enter Try.func5, Try.ntmps5
  go_wp2_with fail
  refine (varied_any HC.out _).mono ?_
  rintro e w1 ⟨rfl, hb1⟩
  go_wp2_with fail
  refine (HC.out.num a _ ha).mono ?_
  rintro e w2 ⟨rfl, hbb2⟩
  go_wp2_with fail
  refine (HC.out.num b _ hb).mono ?_
  rintro e w3 ⟨rfl, hbb3⟩
  go_wp2_with fail
  refine (hasPrefix_any _ _ x _ ha2.out hb2.out HP1.out).mono ?_
  rintro e w' ⟨rfl, rfl⟩
  go_wp2_with fail
  refine (HC.out.int c _ hc1 hc2).mono ?_
  rintro e w4 ⟨rfl, hbb4⟩
  go_wp2_with fail
  refine (HC.out.int d _ hd1 hd2).mono ?_
  rintro e w5 ⟨rfl, hbb5⟩
  go_wp2_with fail
  refine (hasPrefix_any _ _ y _ hc3.out hd3.out HP2.out).mono ?_
  rintro e w' ⟨rfl, rfl⟩
  go_wp2_with fail
  go_ret
  have s1 := hb1.size
  have s2 := hbb2.size
  have s3 := hbb3.size
  have s4 := hbb4.size
  exact ⟨rfl, (((hb1.trans (hbb2.mono s1)).trans (hbb3.mono (by omega))).trans (hbb4.mono (by omega))).trans (hbb5.mono (by omega))⟩
end Go.Proofs.Ytdjhbepocleehaa
