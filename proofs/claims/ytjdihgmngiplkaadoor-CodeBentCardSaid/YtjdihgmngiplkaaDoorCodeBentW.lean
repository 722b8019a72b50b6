/-
  The walk of the law CodeBent: bits that are turned within 32 in a row are told.
-/
import Derived.Test.YtjdihgmngiplkaaDoorCodeL4
import Derived.Test.YtjdihgmngiplkaaDoorTurned
import Derived.Test.YtjdihgmngiplkaaDoorWireBurstM
namespace Go.Proofs.YtjdihgmngiplkaaDoor
open Go.RowKit Cd

set_option maxRecDepth 100000 in
set_option maxHeartbeats 6400000 in
theorem codeBent_any (p : Pg) (g : Int) (vf : Value) (at_ : Int) (B : Nat) (w : World) (hp : ProgAt w (.agg #[.int .i64 g, vf]) p) (_h1 : -9223372036854775808 ≤ at_) (_h2 : at_ ≤ 9223372036854775807) (hB : B < 2 ^ 32) (hL : Leaves w) :
    Calls Tryd.prog 6 #[.agg #[.int .i64 g, vf], .int .i64 at_, .int .u32 B] w fun e w' => e = .returned (.bool true) ∧ Below w.heap.size w w' := by
  obtain ⟨ao, n, cap, hvf⟩ : ∃ ao n cap, vf = .slice ao n cap := by
    obtain ⟨_, e, ao, n, cap, h, -⟩ := hp
    exact ⟨ao, n, cap, by rw [agg2_snd e]; exact h⟩
  subst hvf
  have HP := Lib.hid hp
  have HL := Lib.hid hL
  have hal := (Below.refl w.heap.size w).alloc (Nat.le_refl _) (.cells #[.int .i64 g, .slice ao n cap] 24)
  have HB1 := Lib.hid hal
  have hz0 := cell_of_row (w.alloc (.cells #[.int .i64 g, .slice ao n cap] 24)) w.heap.size 0 _ _ _ (heap_alloc_new _ _)
  have hz1 := cell_of_row (w.alloc (.cells #[.int .i64 g, .slice ao n cap] 24)) w.heap.size 1 _ _ _ (heap_alloc_new _ _)
  clear hp hL hal
  go_enter Tryd.func6, Tryd.ntmps6
  go_upto_region 1 with fail
  generalize w.alloc (.cells #[.int .i64 g, .slice ao n cap] 24) = w1 at *
  have HC : Hid (∀ V, Below w1.heap.size w1 V → V.cell? ⟨w.heap.size, 0, none⟩ = some (.int .i64 g) ∧ V.cell? ⟨w.heap.size, 1, none⟩ = some (.slice ao n cap) ∧ ProgAt V (.agg #[.int .i64 g, .slice ao n cap]) p ∧ Leaves V ∧ Below w.heap.size w V) := Lib.hid fun V hV =>
    ⟨(Keeps.of_new (S := fun _ => False) hV).cell_of hz0 id, (Keeps.of_new (S := fun _ => False) hV).cell_of hz1 id, HP.out.below (HB1.out.trans (hV.mono HB1.out.size)), HL.out.next (HB1.out.trans (hV.mono HB1.out.size)), HB1.out.trans (hV.mono HB1.out.size)⟩
  clear hz0 hz1
  have hb1 : Below w1.heap.size w1 w1 := Below.refl _ _
  have HCD := Lib.hid (coded_any w1 (HC.out _ hb1).2.2.2.1)
  go_wp2_with fail
  refine HCD.out.mono ?_
  rintro e w2 ⟨rfl, hb2⟩
  obtain ⟨c0, c1, hp2, hl2, -⟩ := HC.out _ hb2
  have HBG := Lib.hid (big_any p _ w2 hp2)
  have HB2 := Lib.hid hb2
  clear hp2 hl2 hb1 HCD
  go_wp2_with fail
  refine HBG.out.mono ?_
  rintro e w3 ⟨rfl, hb3⟩
  have HB3 := Lib.hid (HB2.out.trans (hb3.mono HB2.out.size))
  clear hb2 hb3 c0 c1 HBG
  cases hbg : bigB p with
  | true =>
    clear hbg
    go_wp2_with fail
    go_ret
    exact ⟨rfl, (HC.out _ HB3.out).2.2.2.2⟩
  | false =>
    have HSM : Hid (∀ f ∈ p.fns, f.code.length ≤ 120) := Lib.hid fun f hf => ((big_no hbg).2 f hf).2
    obtain ⟨c0, c1, hp3, hl3, -⟩ := HC.out _ HB3.out
    have HEN := Lib.hid (encode_any p _ w3 hp3 (fun f hf => Nat.le_trans (HSM.out f hf) (by decide)) hl3)
    have hpz : progE p = 0 ∨ progE p ≠ 0 := by omega
    clear hbg hp3 hl3
    go_wp2_with fail
    refine HEN.out.mono ?_
    rintro e w4 ⟨rfl, hb4⟩
    have HB4 := Lib.hid (HB3.out.trans (hb4.mono HB3.out.size))
    clear hb4 c0 c1 HEN
    obtain ⟨c0, c1, hp4, hl4, -⟩ := HC.out _ HB4.out
    rcases hpz with hz | hz
    · have HT := Lib.hid (text_of hz HSM.out)
      have HTU := Lib.hid (turned_any (encT p) at_ B w4 HT.out.pos HT.out.size hB)
      rw [hz, errV_0]
      clear hz hp4 hl4
      generalize hTT : encT p = T at *
      have HTT := Lib.hid hTT
      clear hTT
      go_wp2_with fail
      refine HTU.out.mono ?_
      rintro e w5 ⟨l, q, i, rfl, htu, hq, hi, hb5⟩
      have HB5 := Lib.hid (HB4.out.trans (hb5.mono HB4.out.size))
      obtain ⟨-, -, -, hl5, -⟩ := HC.out _ HB5.out
      have hTb : bs T = wholeL 80 (partsC p) := by rw [← HTT.out]; exact HT.out.bytes
      have hTs : T.size ≤ 60000 := by rw [← HTT.out]; exact HT.out.size
      have hts : (txt l).size ≤ 60000 := by rw [txt_size, htu.1]; exact hTs
      obtain ⟨k2, qs2, re2, hO2⟩ := OP.exists (txt l)
      have HD := Lib.hid (decode_any (txt l) k2 qs2 re2 w5 hts hO2 hl5)
      by_cases heq : l = bs T
      · have hte : txt l = T := by rw [heq, txt_bs]
        obtain ⟨rfl, rfl, rfl⟩ := OP.full (by rw [heq, txt_bs]; exact hTb) HT.out.good hO2
        rw [HT.out.err, errV_0] at HD
        have hstr : ((txt l).toList == T.toList) = true := by rw [hte, beq_iff_eq]
        clear hO2 hte htu heq hTb hTs hts hl5 hb5 HTU c0 c1
        generalize txt l = t at *
        go_wp2_with fail
        refine HD.out.mono ?_
        rintro e w6 ⟨g6, vf6, rfl, -, hb6⟩
        have HB6 := Lib.hid (HB5.out.trans (hb6.mono HB5.out.size))
        clear hb6
        go_wp2_with fail
        go_ret
        exact ⟨rfl, (HC.out _ HB6.out).2.2.2.2⟩
      · have hR2 := burst_bad hTb HT.out.good (by decide) hTs htu.1 htu.2.1 hq hi (Nat.mod_lt _ (Nat.two_pow_pos i)) htu.2.2 heq hO2
        rw [decE_bad hR2, errV_nz hR2] at HD
        have hstr : ((txt l).toList == T.toList) = false := by
          rw [beq_eq_false_iff_ne, ByteArray.toList_eq, ByteArray.toList_eq]
          intro h
          apply heq
          rw [← show txt l = T from ByteArray.ext (Array.toList_inj.1 h), bs_txt l htu.2.1]
        clear hO2 htu heq hTb hTs hts hl5 hb5 HTU hR2 c0 c1
        generalize txt l = t at *
        go_wp2_with fail
        refine HD.out.mono ?_
        rintro e w6 ⟨g6, vf6, rfl, -, hb6⟩
        have HB6 := Lib.hid (HB5.out.trans (hb6.mono HB5.out.size))
        clear hb6
        go_wp2_with fail
        go_ret
        exact ⟨rfl, (HC.out _ HB6.out).2.2.2.2⟩
    · rw [errV_nz hz]
      clear hz hp4 hl4
      go_wp2_with fail
      go_ret
      exact ⟨rfl, (HC.out _ HB4.out).2.2.2.2⟩
end Go.Proofs.YtjdihgmngiplkaaDoor
