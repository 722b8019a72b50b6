/-
  The fact that the laws of package code ask first ('coded'); what is to be said of a program's text.
-/
import Derived.Test.YtjdihgmngiplkaaDoorCodeL3
namespace Go.Proofs.YtjdihgmngiplkaaDoor
open Go.RowKit Cd

/-- The text of a right program. -/
structure TextOf (p : Pg) : Prop where
  bytes : bs (encT p) = wholeL 80 (partsC p)
  size : (encT p).size ≤ 60000
  pos : 0 < (encT p).size
  good : Good (partsC p)
  opens : OP (encT p) 80 (partsC p) 0
  err : decE 0 80 (partsC p) = 0
  val : decV 0 80 (partsC p) = p
theorem text_of {p : Pg} (h : progE p = 0) (hs : ∀ f ∈ p.fns, f.code.length ≤ 120) : TextOf p := by
  have hr := (progE_iff p).1 h
  have hg := good_parts hr fun f hf => by have := hs f hf; omega
  obtain ⟨h1, h2⟩ := whole_size (kind := 80) (by decide) hg
  have h3 := parts_total hr hs
  have h4 := Vy.enc_len10 (partsC p).length (by have := hg.1; omega)
  have he := encT_ok h
  obtain ⟨k, ps, re, hO⟩ := OP.exists (encT p)
  have hb : bs (encT p) = wholeL 80 (partsC p) := by rw [he]; exact h2
  obtain ⟨rfl, rfl, rfl⟩ := OP.full hb hg hO
  obtain ⟨d1, d2⟩ := dec_back hr
  exact ⟨hb, by rw [he, h1]; omega, by rw [he, h1]; omega, hg, hO, d1, d2⟩
theorem agg2_snd {a b c d : Value} (h : Value.agg #[a, b] = .agg #[c, d]) : b = d := by
  injection h with h
  injection h with h
  injection h with _ h
  injection h
theorem tiny_big : 20 < (encT tinyP).size := by
  have hr := (progE_iff tinyP).1 tiny_right
  have hg := good_parts hr fun f hf => by have := tiny_short f hf; omega
  rw [encT_ok tiny_right, (whole_size (kind := 80) (by decide) hg).1]
  have e : partsC tinyP = [(97, txt (Vy.enc 1)), (98, txt (fnL tinyF))] := rfl
  rw [e, partsL_cons, partsL_cons, List.length_append, List.length_append, sealed_length, sealed_length, partL_length, partL_length]
  have h1 := Vy.enc_len_pos (txt (Vy.enc 1)).size
  have h2 := Vy.enc_len_pos (txt (fnL tinyF)).size
  have h3 := Vy.enc_len_pos [(97, txt (Vy.enc 1)), (98, txt (fnL tinyF))].length
  have h4 := Vy.enc_len_pos 1
  have h5 : 0 < (fnL tinyF).length := by
    unfold fnL
    simp only [List.length_append]
    have := Vy.enc_len_pos tinyF.params.toNat
    omega
  simp only [txt_size]
  simp only [txt_size] at h1 h2
  omega
theorem tiny_head : (encT tinyP).extract 0 4 = { data := #[83, 76, 87, 80] } := by
  apply bs_inj
  rw [bs_extract, (text_of tiny_right tiny_short).bytes]
  rfl

set_option maxRecDepth 100000 in
set_option maxHeartbeats 6400000 in
theorem coded_any (w : World) (hL : Leaves w) : Calls Tryd.prog 16 #[] w fun e w' => e = .returned (.bool true) ∧ Below w.heap.size w w' := by
  have HL := Lib.hid hL
  have HT := Lib.hid (text_of tiny_right tiny_short)
  have HET : Hid (errV (progE tinyP) = .nilIface) := Lib.hid (by rw [tiny_right]; rfl)
  clear hL
  go_enter Tryd.func16, Tryd.ntmps16
  go_wp2_with fail
  refine (tiny_any w).mono ?_
  rintro e w1 ⟨v1, rfl, hp1, hb1⟩
  have HB1 := Lib.hid hb1
  have HE := Lib.hid (encode_any tinyP _ w1 hp1 (fun f hf => Nat.le_trans (tiny_short f hf) (by decide)) (HL.out.next hb1))
  rw [HET.out] at HE
  clear hp1 hb1
  go_wp2_with fail
  refine HE.out.mono ?_
  rintro e w2 ⟨rfl, hb2⟩
  have HB2 := Lib.hid (HB1.out.trans (hb2.mono HB1.out.size))
  have HD := Lib.hid (decode_any (encT tinyP) 80 (partsC tinyP) 0 w2 HT.out.size HT.out.opens (HL.out.next HB2.out))
  rw [HT.out.err, HT.out.val, errV_0] at HD
  have htb := tiny_big
  have hth := tiny_head
  generalize encT tinyP = T at *
  clear hb2 HE
  go_wp2_with fail
  refine HD.out.mono ?_
  rintro e w3 ⟨g, vf, rfl, hp3, hb3⟩
  have HB3 := Lib.hid (HB2.out.trans (hb3.mono HB2.out.size))
  have HP3 := Lib.hid hp3
  obtain ⟨vf', e3, a9, n9, c9, hv9, -⟩ := hp3
  obtain rfl : vf = .slice a9 n9 c9 := by rw [← hv9]; exact agg2_snd e3
  clear e3 hv9
  go_upto_region 3 with fail
  have hal := (Below.refl w3.heap.size w3).alloc (Nat.le_refl _) (.cells #[.int .i64 g, .slice a9 n9 c9] 24)
  have HAL := Lib.hid hal
  have hz0 := cell_of_row (w3.alloc (.cells #[.int .i64 g, .slice a9 n9 c9] 24)) w3.heap.size 0 _ _ _ (heap_alloc_new _ _)
  have hz1 := cell_of_row (w3.alloc (.cells #[.int .i64 g, .slice a9 n9 c9] 24)) w3.heap.size 1 _ _ _ (heap_alloc_new _ _)
  have hszz : w3.heap.size < (w3.alloc (.cells #[.int .i64 g, .slice a9 n9 c9] 24)).heap.size := by simp
  generalize w3.alloc (.cells #[.int .i64 g, .slice a9 n9 c9] 24) = w4 at *
  have HC : Hid (∀ V, Below w4.heap.size w4 V → V.cell? ⟨w3.heap.size, 0, none⟩ = some (.int .i64 g) ∧ V.cell? ⟨w3.heap.size, 1, none⟩ = some (.slice a9 n9 c9)) := Lib.hid fun V hV =>
    ⟨(Keeps.of_new (S := fun _ => False) hV).cell_of hz0 id, (Keeps.of_new (S := fun _ => False) hV).cell_of hz1 id⟩
  have HTY : Hid (∀ V, Below w4.heap.size w4 V → Calls Tryd.prog 38 #[] V fun e w' => ∃ v, e = .returned (.agg #[.int .i64 1, v]) ∧ ProgAt w' (.agg #[.int .i64 1, v]) tinyP ∧ Below w4.heap.size w4 w') := Lib.hid fun V hV => (tiny_any V).mono fun _ _ ⟨v, h1, h2, h3⟩ => ⟨v, h1, h2, bel_next hV h3⟩
  have HSP : Hid (∀ V v, Below w4.heap.size w4 V → ProgAt V (.agg #[.int .i64 1, v]) tinyP → Calls Tryd.prog 19 #[.agg #[.int .i64 g, .slice a9 n9 c9], .agg #[.int .i64 1, v]] V fun e w' => e = .returned (.bool true) ∧ Below w4.heap.size w4 w') := Lib.hid fun V v hV hv =>
    (sameP_any tinyP _ _ V (HP3.out.below (hal.trans (hV.mono hal.size))) hv).mono fun _ _ ⟨h1, h2⟩ => ⟨h1, bel_next hV h2⟩
  have hbb : Below w4.heap.size w4 w4 := Below.refl _ _
  have h20 : (20 : Int) < (T.size : Int) := by omega
  have h4 : (4 : Int) ≤ (T.size : Int) := by omega
  have h4n : 4 ≤ T.size := by omega
  clear hz0 hz1 hal hszz HD
  go_region_held3 (fun V : World => V.cell? ⟨w3.heap.size, 0, none⟩ = some (.int .i64 g) ∧ V.cell? ⟨w3.heap.size, 1, none⟩ = some (.slice a9 n9 c9)) (first | exact HC.out _ (by assumption) | exact HC.out _ (Below.drew (by assumption)))
    ((first
      | (go_at_call 19; refine (HSP.out _ _ (by assumption) (by assumption)).mono ?_; rintro e V2 ⟨rfl, hv2⟩)
      | (go_at_call 38; refine (HTY.out _ ?_).mono ?_; (first | assumption | exact Below.drew (by assumption)); rintro e V1 ⟨v9, rfl, hp9, hv1⟩)))
  have HV2 := Lib.hid hv2
  clear hv2
  go_wp2_with fail
  go_ret
  exact ⟨rfl, HB3.out.trans ((HAL.out.trans (HV2.out.mono HAL.out.size)).mono HB3.out.size)⟩
end Go.Proofs.YtjdihgmngiplkaaDoor
