/-
  The walk of the law VaryBack: what is written is read, with anything around it, and where it ends.
-/
import Derived.Test.YtdjhbepocleehaaVaried
namespace Go.Proofs.Ytdjhbepocleehaa
open Go.RowKit

theorem drop_mid (b t e : ByteArray) : (bs (b ++ t ++ e)).drop b.size = bs t ++ bs e := by
  rw [bs_append, bs_append, List.append_assoc, List.drop_left' (bs_length b)]
theorem reads_mid (b e : ByteArray) (n : Nat) (hn : n < 2 ^ 64) : RN ((bs (b ++ txt (Vy.enc n) ++ e)).drop b.size) b.size n (b.size + (txt (Vy.enc n)).size) 0 := by
  rw [drop_mid, bs_txt _ (Vy.enc_bytes n), txt_size]
  exact Or.inl ⟨⟨hn, List.prefix_append _ _⟩, rfl, rfl⟩
theorem text_mid (b t e : ByteArray) (ht : t.size < 2 ^ 64) : RT (b ++ (txt (Vy.enc t.size) ++ t) ++ e) b.size t (b.size + (txt (Vy.enc t.size) ++ t).size) 0 := by
  have hd := drop_mid b (txt (Vy.enc t.size) ++ t) e
  rw [bs_append (txt _) t, bs_txt _ (Vy.enc_bytes t.size)] at hd
  have hsz : (txt (Vy.enc t.size) ++ t).size = (Vy.enc t.size).length + t.size := by rw [ByteArray.size_append, txt_size]
  refine Or.inl ⟨t.size, ⟨ht, by rw [hd, List.append_assoc]; exact List.prefix_append _ _⟩, ?_, ?_, by rw [hsz]; omega, rfl⟩
  · rw [ByteArray.size_append, ByteArray.size_append, hsz]; omega
  · apply bs_inj
    have hlen : (bs t).length = t.size := bs_length t
    rw [bs_extract, List.drop_take, ← List.drop_drop, hd, List.append_assoc, List.drop_left' rfl, show b.size + (Vy.enc t.size).length + t.size - (b.size + (Vy.enc t.size).length) = t.size by omega, List.take_left' hlen]

set_option maxRecDepth 100000 in
set_option maxHeartbeats 4000000 in
theorem varyBack_of (C : VaryC) (n : Nat) (k : Int) (t b e : ByteArray) (w : World) (hn : n < 2 ^ 64) (hk1 : -9223372036854775808 ≤ k) (hk2 : k ≤ 9223372036854775807) (_ht : t.size ≤ 140737488351232) (_hb : b.size ≤ 140737488351232) (_he : e.size ≤ 140737488351232) :
    Calls Try.prog 3 #[.int .u64 n, .int .i64 k, .string t, .string b, .string e] w fun e w' => e = .returned (.bool true) ∧ Below w.heap.size w w' := by
  have HC := Lib.hid C
  by_cases h600 : 600 < t.size + b.size + e.size
  · have h6 : (600 : Int) < (t.size : Int) + (b.size : Int) + (e.size : Int) := by omega
    go_enter Try.func3, Try.ntmps3
    go_wp2_with fail
    refine (varied_any HC.out _).mono ?_
    rintro e w1 ⟨rfl, hb1⟩
    go_wp2_with fail
    go_ret
    exact ⟨rfl, hb1⟩
  · have h6 : ¬ (600 : Int) < (t.size : Int) + (b.size : Int) + (e.size : Int) := by omega
    clear _ht _hb _he
    have hz := zz_lt k hk1 hk2
    have hp1 : (txt (Vy.enc n)).size ≤ 10 := by rw [txt_size]; exact Vy.enc_len10 n hn
    have hp2 : (txt (Vy.enc (zz k))).size ≤ 10 := by rw [txt_size]; exact Vy.enc_len10 _ hz
    have hp3 : (txt (Vy.enc t.size) ++ t).size ≤ 700 := by
      have := Vy.enc_len10 t.size (by omega)
      rw [ByteArray.size_append, txt_size]; omega
    have HR1 := Lib.hid (reads_mid b e n hn)
    have HR2 := Lib.hid (reads_mid b e (zz k) hz)
    have HR3 := Lib.hid (text_mid b t e (by omega))
    have HUZ := Lib.hid (uz_zz k)
    have HT1 := HC.out.num n
    have HT2 := HC.out.int k
    have HT3 := HC.out.text t
    generalize txt (Vy.enc n) = p1 at *
    generalize txt (Vy.enc (zz k)) = p2 at *
    generalize txt (Vy.enc t.size) ++ t = p3 at *
    have H1 := Lib.hid HT1
    have H2 := Lib.hid HT2
    have H3 := Lib.hid HT3
    clear HT1 HT2 HT3
    have hs1 : (b ++ p1 ++ e).size ≤ 1000000 := by rw [ByteArray.size_append, ByteArray.size_append]; omega
    have hs2 : (b ++ p2 ++ e).size ≤ 1000000 := by rw [ByteArray.size_append, ByteArray.size_append]; omega
    have hs3 : (b ++ p3 ++ e).size ≤ 1000000 := by rw [ByteArray.size_append, ByteArray.size_append]; omega
    have hq1 : b.size ≤ (b ++ p1 ++ e).size := by rw [ByteArray.size_append, ByteArray.size_append]; omega
    have hq2 : b.size ≤ (b ++ p2 ++ e).size := by rw [ByteArray.size_append, ByteArray.size_append]; omega
    have hq3 : b.size ≤ (b ++ p3 ++ e).size := by rw [ByteArray.size_append, ByteArray.size_append]; omega
    have HS := Lib.hid (And.intro hs1 (And.intro hs2 (And.intro hs3 (And.intro hq1 (And.intro hq2 hq3)))))
    clear hs1 hs2 hs3 hq1 hq2 hq3
    go_enter Try.func3, Try.ntmps3
    go_wp2_with fail
    refine (varied_any HC.out _).mono ?_
    rintro e w1 ⟨rfl, hb1⟩
    go_wp2_with fail
    refine (H1.out _ hn).mono ?_
    rintro e w2 ⟨rfl, hb2⟩
    go_wp2_with fail
    refine (HC.out.readNum (b ++ p1 ++ e) b.size n _ 0 _ HS.out.1 HS.out.2.2.2.1 HR1.out).mono ?_
    rw [errV_0]
    rintro e w3 ⟨rfl, hb3⟩
    go_wp2_with fail
    refine (H2.out _ hk1 hk2).mono ?_
    rintro e w4 ⟨rfl, hb4⟩
    go_wp2_with fail
    refine (HC.out.readInt (b ++ p2 ++ e) b.size (zz k) _ 0 _ HS.out.2.1 HS.out.2.2.2.2.1 HR2.out hz).mono ?_
    rw [errV_0, HUZ.out]
    rintro e w5 ⟨rfl, hb5⟩
    go_wp2_with fail
    refine (H3.out _ (by omega)).mono ?_
    rintro e w6 ⟨rfl, hb6⟩
    go_wp2_with fail
    refine (HC.out.readText (b ++ p3 ++ e) t b.size _ 0 _ HS.out.2.2.1 HS.out.2.2.2.2.2 HR3.out).mono ?_
    rw [errV_0]
    rintro e w7 ⟨rfl, hb7⟩
    go_wp2_with fail
    refine (H1.out _ hn).mono ?_
    rintro e w8 ⟨rfl, hb8⟩
    go_wp2_with fail
    refine (H2.out _ hk1 hk2).mono ?_
    rintro e w9 ⟨rfl, hb9⟩
    go_wp2_with fail
    refine (H3.out _ (by omega)).mono ?_
    rintro e w10 ⟨rfl, hb10⟩
    go_wp2_with fail
    go_ret
    have s1 := hb1.size
    have s2 := hb2.size
    have s3 := hb3.size
    have s4 := hb4.size
    have s5 := hb5.size
    have s6 := hb6.size
    have s7 := hb7.size
    have s8 := hb8.size
    have s9 := hb9.size
    exact ⟨rfl, ((((((((hb1.trans (hb2.mono (by omega))).trans (hb3.mono (by omega))).trans (hb4.mono (by omega))).trans (hb5.mono (by omega))).trans (hb6.mono (by omega))).trans (hb7.mono (by omega))).trans (hb8.mono (by omega))).trans (hb9.mono (by omega))).trans (hb10.mono (by omega))⟩
end Go.Proofs.Ytdjhbepocleehaa
