/-
  The walk of the law CodeBack: what is written is read.
-/
import Derived.Test.YtjdihgmngiplkaaDoorCodeL4
namespace Go.Proofs.YtjdihgmngiplkaaDoor
open Go.RowKit Cd

set_option maxRecDepth 100000 in
set_option maxHeartbeats 6400000 in
theorem codeBack_any (p : Pg) (g : Int) (vf : Value) (w : World) (hp : ProgAt w (.agg #[.int .i64 g, vf]) p) (hL : Leaves w) :
    Calls Tryd.prog 4 #[.agg #[.int .i64 g, vf]] w fun e w' => e = .returned (.bool true) ∧ Below w.heap.size w w' := by
  obtain ⟨ao, n, cap, hvf⟩ : ∃ ao n cap, vf = .slice ao n cap := by
    obtain ⟨_, e, ao, n, cap, h, -⟩ := hp
    exact ⟨ao, n, cap, by rw [agg2_snd e]; exact h⟩
  subst hvf
  have HP := Lib.hid hp
  have HL := Lib.hid hL
  have hal := (Below.refl w.heap.size w).alloc (Nat.le_refl _) (.cells #[.int .i64 g, .slice ao n cap] 24)
  have HB1 := Lib.hid hal
  have hz0 := cell_of_row (w.alloc (.cells #[.int .i64 g, .slice ao n cap] 24)) w.heap.size 0 _ _ _ (heap_alloc_new _ _)
  have hz1 := cell_of_row (w.alloc (.cells #[.int .i64 g, .slice ao n cap] 24)) w.heap.size 1 _ _ _ (heap_alloc_new _ _)
  clear hp hL hal
  go_enter Tryd.func4, Tryd.ntmps4
  go_upto_region 1 with fail
  generalize w.alloc (.cells #[.int .i64 g, .slice ao n cap] 24) = w1 at *
  have HC : Hid (∀ V, Below w1.heap.size w1 V → V.cell? ⟨w.heap.size, 0, none⟩ = some (.int .i64 g) ∧ V.cell? ⟨w.heap.size, 1, none⟩ = some (.slice ao n cap) ∧ ProgAt V (.agg #[.int .i64 g, .slice ao n cap]) p ∧ Leaves V ∧ Below w.heap.size w V) := Lib.hid fun V hV =>
    ⟨(Keeps.of_new (S := fun _ => False) hV).cell_of hz0 id, (Keeps.of_new (S := fun _ => False) hV).cell_of hz1 id, HP.out.below (HB1.out.trans (hV.mono HB1.out.size)), HL.out.next (HB1.out.trans (hV.mono HB1.out.size)), HB1.out.trans (hV.mono HB1.out.size)⟩
  clear hz0 hz1
  have hb1 : Below w1.heap.size w1 w1 := Below.refl _ _
  have HCD := Lib.hid (coded_any w1 (HC.out _ hb1).2.2.2.1)
  go_wp2_with fail
  refine HCD.out.mono ?_
  rintro e w2 ⟨rfl, hb2⟩
  obtain ⟨c0, c1, hp2, hl2, -⟩ := HC.out _ hb2
  have HBG := Lib.hid (big_any p _ w2 hp2)
  have HB2 := Lib.hid hb2
  clear hp2 hl2 hb1 HCD
  go_wp2_with fail
  refine HBG.out.mono ?_
  rintro e w3 ⟨rfl, hb3⟩
  have HB3 := Lib.hid (HB2.out.trans (hb3.mono HB2.out.size))
  clear hb2 hb3 c0 c1 HBG
  cases hbg : bigB p with
  | true =>
    clear hbg
    go_wp2_with fail
    go_ret
    exact ⟨rfl, (HC.out _ HB3.out).2.2.2.2⟩
  | false =>
    have HSM : Hid (∀ f ∈ p.fns, f.code.length ≤ 120) := Lib.hid fun f hf => ((big_no hbg).2 f hf).2
    obtain ⟨c0, c1, hp3, hl3, -⟩ := HC.out _ HB3.out
    have HEN := Lib.hid (encode_any p _ w3 hp3 (fun f hf => Nat.le_trans (HSM.out f hf) (by decide)) hl3)
    have hpz : progE p = 0 ∨ progE p ≠ 0 := by omega
    clear hbg hp3 hl3
    go_wp2_with fail
    refine HEN.out.mono ?_
    rintro e w4 ⟨rfl, hb4⟩
    have HB4 := Lib.hid (HB3.out.trans (hb4.mono HB3.out.size))
    clear hb4 c0 c1 HEN
    obtain ⟨c0, c1, hp4, hl4, -⟩ := HC.out _ HB4.out
    rcases hpz with hz | hz
    · have HT := Lib.hid (text_of hz HSM.out)
      have HD := Lib.hid (decode_any (encT p) 80 (partsC p) 0 w4 HT.out.size HT.out.opens hl4)
      rw [HT.out.err, HT.out.val, errV_0] at HD
      rw [hz, errV_0]
      generalize encT p = T at *
      clear hz hp4 hl4 HT
      go_wp2_with fail
      refine HD.out.mono ?_
      rintro e w5 ⟨g5, vf5, rfl, hp5, hb5⟩
      have HP5 := Lib.hid hp5
      have HB5 := Lib.hid (HB4.out.trans (hb5.mono HB4.out.size))
      obtain ⟨_, e5, a9, n9, c9, hv9, -⟩ := hp5
      obtain rfl : vf5 = .slice a9 n9 c9 := by rw [← hv9]; exact agg2_snd e5
      clear e5 hv9 hb5 HD c0 c1
      have hal5 := (Below.refl w5.heap.size w5).alloc (Nat.le_refl _) (.cells #[.int .i64 g5, .slice a9 n9 c9] 24)
      have HB6 := Lib.hid (HB5.out.trans (hal5.mono HB5.out.size))
      obtain ⟨c0, c1, hp6, -, -⟩ := HC.out _ HB6.out
      have HSP := Lib.hid (sameP_any p _ _ _ hp6 (HP5.out.below hal5))
      clear hal5 hp6
      go_wp2_with fail
      refine HSP.out.mono ?_
      rintro e w7 ⟨rfl, hb7⟩
      have HB7 := Lib.hid (HB6.out.trans (hb7.mono HB6.out.size))
      clear hb7 c0 c1
      go_wp2_with fail
      go_ret
      exact ⟨rfl, (HC.out _ HB7.out).2.2.2.2⟩
    · have HRT := Lib.hid (right_any p _ w4 hp4)
      rw [errV_nz hz] at HRT ⊢
      clear hz hp4 hl4
      go_wp2_with fail
      refine HRT.out.mono ?_
      rintro e w5 ⟨rfl, hb5⟩
      have HB5 := Lib.hid (HB4.out.trans (hb5.mono HB4.out.size))
      clear hb5
      go_wp2_with fail
      go_ret
      exact ⟨rfl, (HC.out _ HB5.out).2.2.2.2⟩
end Go.Proofs.YtjdihgmngiplkaaDoor
