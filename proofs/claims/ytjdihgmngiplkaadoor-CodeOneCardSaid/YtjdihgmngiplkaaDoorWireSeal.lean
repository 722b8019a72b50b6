/-
  The walk of package wire's Seal.
-/
import Derived.Test.YtjdihgmngiplkaaDoorWireW2
import Derived.Test.YtjdihgmngiplkaaDoorBuilder
namespace Go.Proofs.YtjdihgmngiplkaaDoor
open Go.RowKit

theorem Bld.below {B b : Nat} {l : List Nat} {w w' : World} (h : Bld B b l w) (hb : Below w.heap.size w w') : Bld B b l w' := by
  have key : ∀ p, Lib.BuilderAt 79 5 B b p (cells8 l) w → Lib.BuilderAt 79 5 B b p (cells8 l) w' := by
    rintro p ⟨h1, v, h2, h3, h4⟩
    have hlt : b < w.heap.size := (Array.getElem?_eq_some_iff.1 h2).1
    refine ⟨h1, v, by rw [hb.block b hlt]; exact h2, ⟨h3.1, ?_⟩, h4⟩
    rcases h3.2 with h | ⟨g, cap, cur, g1, g2, g3, g4⟩
    · exact Or.inl h
    · exact Or.inr ⟨g, cap, cur, g1, g2, by rw [hb.block g (Array.getElem?_eq_some_iff.1 g3).1]; exact g3, g4⟩
  rcases h with h | h
  · exact Or.inl (key _ h)
  · exact Or.inr (key _ h)
theorem bld_new (w : World) : Bld w.heap.size w.heap.size [] (w.alloc (.cells #[.pointer none, .slice none 0 0] 79)) := Lib.fresh_isBuilder _ _ w

/-- What is in the builder behind k parts. -/
def upTo (kind : Nat) (ps : List WPart) (k : Nat) : List Nat := 83 :: 76 :: 87 :: kind :: (Vy.enc ps.length ++ partsL (ps.take k))
theorem upTo_zero (kind : Nat) (ps : List WPart) : [] ++ bs { data := #[83, 76, 87] } ++ [kind] ++ bs (txt (Vy.enc ps.length)) = upTo kind ps 0 := by
  rw [bs_txt _ (Vy.enc_bytes _)]
  simp [upTo, partsL, bs]
theorem upTo_end (kind : Nat) (ps : List WPart) : upTo kind ps ps.length = headL kind ps := by unfold upTo; rw [List.take_length]; rfl
theorem upTo_succ (kind : Nat) (ps : List WPart) (k : Nat) (h : k < ps.length) : upTo kind ps k ++ sealed (partL (pt ps k, pb ps k)) = upTo kind ps (k + 1) := by
  unfold upTo pt pb
  rw [List.take_succ_eq_append_getElem h, partsL_append, List.getD_eq_getElem?_getD, List.getElem?_eq_getElem h]
  simp [partsL]
theorem part_text (t : Nat) (x : ByteArray) (ht : t < 256) : bs (txt [t] ++ (txt (Vy.enc x.size) ++ x)) = partL (t, x) := by
  rw [bs_append, bs_append, bs_txt _ (Vy.enc_bytes _), bs_txt _ (by intro b hb; rw [List.mem_singleton.1 hb]; exact ht)]; rfl
theorem lenUp_take (ps : List WPart) (k : Nat) : (partsL (ps.take k)).length ≤ (partsL ps).length := by
  conv => rhs; rw [← List.take_append_drop k ps]
  rw [partsL_append, List.length_append]; omega

theorem below_alloc' {a w : World} (h : Below a.heap.size a w) (o : Obj) : Below a.heap.size a (w.alloc o) := h.alloc h.size o
theorem below_tr {a w w' : World} (h : Below a.heap.size a w) (h2 : Below w.heap.size w w') : Below a.heap.size a w' := h.trans (h2.mono h.size)
/-- One byte in a new block reads as its text; so it does behind whatever keeps that block. -/
theorem conv1_kept {w w2 : World} (d : Nat) (h : Below (w.alloc (.cells #[.int .u8 (d : Int)] 5)).heap.size (w.alloc (.cells #[.int .u8 (d : Int)] 5)) w2) :
    (convert 53 9 (.slice (some ⟨w.heap.size, 0, none⟩) 1 1)).run Tryd.prog w2 = .ok (.string (txt [d])) w2 :=
  text_of_row (W := w2) (l := [d]) (by rw [h.block w.heap.size (by simp)]; exact heap_alloc_new _ _) rfl
theorem conv1_new (w : World) (d : Nat) : (convert 53 9 (.slice (some ⟨w.heap.size, 0, none⟩) 1 1)).run Tryd.prog (w.alloc (.cells #[.int .u8 (d : Int)] 5)) = .ok (.string (txt [d])) (w.alloc (.cells #[.int .u8 (d : Int)] 5)) :=
  conv1_kept d (Below.refl _ _)
theorem conv1_new1 (w : World) (d : Nat) : (convert 53 9 (.slice (some ⟨w.heap.size, 0, none⟩) 1 1)).run Tryd.prog (w.alloc (.cells #[.int .u8 (d : Int)] 5)).drew = .ok (.string (txt [d])) (w.alloc (.cells #[.int .u8 (d : Int)] 5)).drew :=
  conv1_kept d (Below.refl _ _).drew
theorem conv1_new2 (w : World) (d : Nat) : (convert 53 9 (.slice (some ⟨w.heap.size, 0, none⟩) 1 1)).run Tryd.prog (w.alloc (.cells #[.int .u8 (d : Int)] 5)).drew.drew = .ok (.string (txt [d])) (w.alloc (.cells #[.int .u8 (d : Int)] 5)).drew.drew :=
  conv1_kept d (Below.refl _ _).drew.drew
theorem conv1_at {w w2 : World} (o : Obj) (d : Nat) (h : Below ((w.alloc o).alloc (.cells #[.int .u8 (d : Int)] 5)).heap.size ((w.alloc o).alloc (.cells #[.int .u8 (d : Int)] 5)) w2) :
    (convert 53 9 (.slice (some ⟨w.heap.size + 1, 0, none⟩) 1 1)).run Tryd.prog w2 = .ok (.string (txt [d])) w2 := by
  have := conv1_kept d h
  rwa [show (w.alloc o).heap.size = w.heap.size + 1 by simp] at this
theorem undrew {B : Nat} {x w : World} (h : Below B x.drew w) : Below B x w := ⟨h.os, h.tape, h.output, h.size, h.block⟩

theorem upTo_len (kind : Nat) (ps : List WPart) (k : Nat) (h : ps.length < 2 ^ 64) : (upTo kind ps k).length ≤ 14 + (partsL ps).length := by
  have h1 := Vy.enc_len10 ps.length h
  have h2 := lenUp_take ps k
  unfold upTo
  simp only [List.length_cons, List.length_append]
  omega
theorem upTo_bytes (kind : Nat) (ps : List WPart) (hk : kind < 256) (h : ∀ p ∈ ps, p.1 < 256) : Crc.Bytes (upTo kind ps ps.length) := by
  rw [upTo_end]; exact headL_bytes hk h

set_option maxRecDepth 100000 in
set_option maxHeartbeats 6400000 in
theorem seal_any (kind : Nat) (v : Value) (ps : List WPart) (w : World) (hk : kind < 256) (hv : PartsAt w v ps) (hsz : ∀ i, i < ps.length → (pb ps i).size ≤ 60000) (htot : (partsL ps).length ≤ 900000) (hL : Leaves w) :
    Calls Tryd.prog 33 #[.int .u8 (kind : Int), v] w fun e w' => ∃ re t, e = .returned (.tuple #[.string t, errV re]) ∧
      (((ps.length ≤ 40 ∧ ∀ i, i < ps.length → MayStand ps i) ∧ re = 0 ∧ t = txt (wholeL kind ps)) ∨ (¬ (ps.length ≤ 40 ∧ ∀ i, i < ps.length → MayStand ps i) ∧ (re = 4 ∨ re = 10) ∧ t = txt [])) ∧ Below w.heap.size w w' := by
  have HV := Lib.hid hv
  have HL := Lib.hid hL
  obtain ⟨ao, n, cap, rfl, hn, hnc, hcm, hx, hwf⟩ := hv
  unfold maxLen at hcm
  have HN := Lib.hid hn
  have HX := Lib.hid hx
  have HWF := Lib.hid hwf
  have HK := Lib.hid hk
  clear hL hx hn hwf hk
  go_enter Tryd.func33, Tryd.ntmps33
  go_wp2_with fail
  refine (mayBe_any _ ps _ HV.out hsz).mono ?_
  rintro e w1 ⟨re, rfl, hre, hb1⟩
  rcases hre with ⟨hg1, hg2, rfl⟩ | ⟨hbad, hre⟩
  · have HG := Lib.hid (And.intro hg1 hg2)
    clear hg1 hg2
    rw [errV_0]
    have HBN := Lib.hid (bld_new w1)
    have hwb : w.heap.size ≤ w1.heap.size := hb1.size
    have HBA : Hid (Below w.heap.size w (w1.alloc (.cells #[.pointer none, .slice none 0 0] 79))) := Lib.hid (hb1.alloc hb1.size _)
    have hnl : n ≤ 40 := by have := HG.out.1; have := HN.out; omega
    have hn64 : n < 2 ^ 64 := by omega
    obtain ⟨B, hB⟩ : ∃ B, B = w1.heap.size := ⟨_, rfl⟩
    have hsal : B ≤ (w1.alloc (.cells #[.pointer none, .slice none 0 0] 79)).heap.size := by rw [hB]; simp
    rw [← hB] at HBN hwb
    go_wp2_with fail
    rw [← hB]
    generalize w1.alloc (.cells #[.pointer none, .slice none 0 0] 79) = wa at *
    clear hb1 hB
    refine (writeString_any B B [] _ _ HBN.out (by decide) hsal).mono ?_
    rintro e w2 ⟨rfl, hbl2, hb2⟩
    go_wp2_with fail
    refine (writeByte_any B B _ kind _ hbl2 (by decide) (Nat.le_trans hsal hb2.size)).mono ?_
    rintro e w3 ⟨rfl, hbl3, hb3⟩
    go_wp2_with fail
    refine (num_any n _ hn64).mono ?_
    rintro e w4 ⟨rfl, hb4⟩
    have hbl4 := hbl3.below hb4
    have hs4 : B ≤ w4.heap.size := Nat.le_trans hsal (Nat.le_trans hb2.size (Nat.le_trans hb3.size hb4.size))
    have HNT : Hid ((txt (Vy.enc n)).size ≤ 10 ∧ txt (Vy.enc n) = txt (Vy.enc ps.length)) := Lib.hid ⟨by rw [txt_size]; exact Vy.enc_len10 n hn64, by rw [HN.out]⟩
    have hnt := HNT.out.1
    generalize txt (Vy.enc n) = tn at *
    go_wp2_with fail
    refine (writeString_any B B _ tn _ hbl4 (show 4 + tn.size ≤ 1000000 by omega) hs4).mono ?_
    rintro e w5 ⟨rfl, hbl5, hb5⟩
    have HB5 : Hid (Below w.heap.size w w5) := Lib.hid (HBA.out.trans (((hb2.mono hwb).trans (hb3.mono hwb)).trans ((hb4.mono (Nat.le_trans hwb (Nat.le_trans hsal (Nat.le_trans hb2.size hb3.size)))).trans (hb5.mono hwb))))
    have hs5 : B ≤ w5.heap.size := Nat.le_trans hs4 hb5.size
    have hbl5' : Bld B B (upTo kind ps 0) w5 := by rw [← upTo_zero, ← HNT.out.2]; exact hbl5
    have HB0 := Lib.hid hbl5'
    clear hbl5 hbl5' hbl2 hbl3 hbl4 hb2 hb3 hb4 hb5 hs4 hnt HNT HBN
    go_wp2_with fail
    go_loopw [25] (fun i wr => ∃ k : Nat, k ≤ n ∧ i = .int .i64 k ∧ Bld B B (upTo kind ps k) wr ∧ Below w.heap.size w wr ∧ B ≤ wr.heap.size) (fun i _ => n - (intOf i).toNat)
    case atStart => exact ⟨0, by omega, rfl, HB0.out, HB5.out, hs5⟩
    case round =>
      obtain ⟨k, hkle, rfl, hbl, hb, hs⟩ := hrel
      clear hs5 HB0 HB5
      by_cases hkn : k < n
      · have hkl : k < ps.length := by rw [← HN.out]; exact hkn
        obtain ⟨b, o, rfl, hbb, hcell⟩ := HX.out (by omega)
        obtain ⟨hc1, hc2⟩ := hcell k hkn
        rw [← hb.cell (p := ⟨b, o + k * 2, none⟩) hbb] at hc1
        rw [← hb.cell (p := ⟨b, o + k * 2 + 1, none⟩) hbb] at hc2
        have ht := pt_lt HWF.out k
        have hxs := hsz k hkl
        have HUS := Lib.hid (upTo_succ kind ps k hkl)
        clear hcell
        generalize pt ps k = t at *
        generalize pb ps k = x at *
        have HBL := Lib.hid hbl
        have HLr := Lib.hid (wleaves_below HL.out hb (leaves_lt HL.out))
        have hxt : (txt (Vy.enc x.size) ++ x).size ≤ 60010 := by
          have := Vy.enc_len10 x.size (by omega)
          rw [ByteArray.size_append, txt_size]; omega
        have hT1s : (txt [t]).size = 1 := by rw [txt_size]; rfl
        have hT1 : (txt [t] ++ (txt (Vy.enc x.size) ++ x)).size ≤ 60011 := by rw [ByteArray.size_append]; omega
        have HTX : Hid (∀ W, Calls Tryd.prog 67 #[.string x] W fun e w' => e = .returned (.string (txt (Vy.enc x.size) ++ x)) ∧ Below W.heap.size W w') := Lib.hid fun W => text_any x W (by omega)
        have HSX : Hid (∀ W, Leaves W → Calls Tryd.prog 66 #[.string (txt [t] ++ (txt (Vy.enc x.size) ++ x))] W fun e w' => e = .returned (.string (txt (sealed (partL (t, x))))) ∧ Below W.heap.size W w') := Lib.hid fun W hW => by
          rw [← part_text t x ht]
          exact withSum_any _ W (by omega) hW
        have HYB : Hid (bs (txt (sealed (partL (t, x)))) = sealed (partL (t, x))) := Lib.hid (bs_txt _ (sealed_bytes (partL_bytes ht)))
        have HYL : Hid ((upTo kind ps k).length + (txt (sealed (partL (t, x)))).size ≤ 1000000) := Lib.hid (by
          have h1 := congrArg List.length HUS.out
          rw [List.length_append] at h1
          rw [txt_size, h1]
          have h2 := upTo_len kind ps (k + 1) (by have := HN.out; omega)
          omega)
        have hadd : ¬ 9223372036854775807 < 1 + (txt (Vy.enc x.size) ++ x).size := by omega
        have HWB := Lib.hid hwb
        have hY : (txt (sealed (partL (t, x)))).size ≤ 60015 := by
          rw [txt_size, sealed_length, ← part_text t x ht, bs_length]; omega
        rw [← HYB.out] at HUS
        have hck : ∀ W2, Below ((wr.alloc (.cells #[.int .u8 (t : Int), .string x] 51)).alloc (.cells #[.int .u8 (t : Int)] 5)).heap.size ((wr.alloc (.cells #[.int .u8 (t : Int), .string x] 51)).alloc (.cells #[.int .u8 (t : Int)] 5)) W2 →
            (convert 53 9 (.slice (some ⟨wr.heap.size + 1, 0, none⟩) 1 1)).run Tryd.prog W2 = .ok (.string (txt [t])) W2 := fun W2 h => conv1_at _ t h
        have hca := hck _ (Below.refl _ _)
        have hcb := hck _ (Below.refl _ _).drew
        have hcc := hck _ (Below.refl _ _).drew.drew
        have HCK := Lib.hid hck
        clear hck
        have HP : Hid (∀ W2, Below (wr.alloc (.cells #[.int .u8 (t : Int), .string x] 51)).heap.size (wr.alloc (.cells #[.int .u8 (t : Int), .string x] 51)) W2 → W2.cell? ⟨wr.heap.size, 0, none⟩ = some (.int .u8 (t : Int)) ∧ W2.cell? ⟨wr.heap.size, 1, none⟩ = some (.string x)) := Lib.hid fun W2 h => by
          have hlt : wr.heap.size < (wr.alloc (.cells #[.int .u8 (t : Int), .string x] 51)).heap.size := by simp
          rw [h.cell (p := ⟨wr.heap.size, 0, none⟩) hlt, h.cell (p := ⟨wr.heap.size, 1, none⟩) hlt]
          exact ⟨by rw [cell_of_row _ _ _ _ _ _ (heap_alloc_new _ _)]; rfl, by rw [cell_of_row _ _ _ _ _ _ (heap_alloc_new _ _)]; rfl⟩
        have HS := Lib.hid hs
        have hcv0 := fun W => conv1_new W t
        have hcv1 := fun W => conv1_new1 W t
        have hcv2 := fun W => conv1_new2 W t
        generalize txt (sealed (partL (t, x))) = Y at *
        generalize txt (Vy.enc x.size) ++ x = X at *
        generalize txt [t] = T1 at *
        clear hbl HYB
        go_wp2_with fail
        clear hc1 hc2 hkl hxs ht hbb hs hsz htot hn64 hwb hsal hcm hnc hkle
        go_region_with (first
          | (go_at_call 67
             refine (HTX.out _).mono ?_
             rintro e w6 ⟨rfl, hb6⟩
             have hb6r : Below wr.heap.size wr w6 := below_tr (by repeat (first | assumption | exact Below.refl _ _ | refine Below.drew ?_ | refine below_alloc' ?_ _)) hb6
             obtain ⟨hp0, hp1⟩ := HP.out w6 (below_tr (by repeat (first | assumption | exact Below.refl _ _ | refine Below.drew ?_ | refine below_alloc' ?_ _)) hb6)
             try (have hc6 := HCK.out w6 (by first | exact hb6 | exact undrew hb6 | exact undrew (undrew hb6))
                  have hc6d := HCK.out w6.drew (by first | exact hb6.drew | exact (undrew hb6).drew | exact (undrew (undrew hb6)).drew)))
          | (go_at_call 66
             refine (HSX.out _ (Leaves.next HLr.out (by repeat (first | assumption | exact Below.refl _ _ | refine Below.drew ?_ | refine below_alloc' ?_ _)))).mono ?_
             rintro e w7 ⟨rfl, hb7⟩
             have hb7r : Below wr.heap.size wr w7 := below_tr (by repeat (first | assumption | exact Below.refl _ _ | refine Below.drew ?_ | refine below_alloc' ?_ _)) hb7)
          | (go_at_call 47
             refine (writeString_any B B _ Y _ (HBL.out.below (by repeat (first | assumption | exact Below.refl _ _ | refine Below.drew ?_ | refine below_alloc' ?_ _))) HYL.out (Nat.le_trans HS.out (Below.size (by repeat (first | assumption | exact Below.refl _ _ | refine Below.drew ?_ | refine below_alloc' ?_ _))))).mono ?_
             rintro e w8 ⟨rfl, hbl8, hb8⟩))
        all_goals (
          go_wp2_with fail
          go_roundw
          case rel => exact ⟨k + 1, by omega, by go_num, by rw [← HUS.out]; exact hbl8, hb.trans ((hb7r.mono hb.size).trans (hb8.mono HWB.out)), Nat.le_trans (Nat.le_trans HS.out hb7r.size) hb8.size⟩
          case measure => simp [intOf]; omega)
      · obtain rfl : k = n := by omega
        have hul : (upTo kind ps k).length ≤ 1000000 := by
          have h2 := upTo_len kind ps k (by have := HN.out; omega)
          omega
        have hub : Crc.Bytes (upTo kind ps k) := by rw [HN.out]; exact upTo_bytes kind ps HK.out HWF.out
        have HUE : Hid (upTo kind ps k = headL kind ps) := Lib.hid (by rw [HN.out]; exact upTo_end kind ps)
        have HLr := Lib.hid (wleaves_below HL.out hb (leaves_lt HL.out))
        have hts : (txt (upTo kind ps k)).size ≤ 1000000 := by rw [txt_size]; exact hul
        have HBT : Hid (bs (txt (upTo kind ps k)) = headL kind ps) := Lib.hid (by rw [bs_txt _ hub, HUE.out])
        go_wp2_with fail
        refine (bldString_any B B _ _ hbl hub hs).mono ?_
        rintro e w6 ⟨rfl, hb6⟩
        have hb06 : Below w.heap.size w w6 := hb.trans (hb6.mono hwb)
        have HL6 := Lib.hid (wleaves_below HL.out hb06 (leaves_lt HL.out))
        generalize txt (upTo kind ps k) = U at *
        go_wp2_with fail
        refine (withSum_any U _ hts HL6.out).mono ?_
        rintro e w7 ⟨rfl, hb7⟩
        go_wp2_with fail
        go_ret2
        exact ⟨0, _, rfl, Or.inl ⟨HG.out, rfl, by rw [HBT.out]; rfl⟩, hb06.trans (hb7.mono hb06.size)⟩
  · rcases hre with rfl | rfl
    · rw [show errV 4 = .iface 26 (.int .i64 4) from rfl]
      go_wp2_with fail
      go_ret2
      exact ⟨4, txt [], rfl, Or.inr ⟨hbad, Or.inl rfl, rfl⟩, hb1⟩
    · rw [show errV 10 = .iface 26 (.int .i64 10) from rfl]
      go_wp2_with fail
      go_ret2
      exact ⟨10, txt [], rfl, Or.inr ⟨hbad, Or.inr rfl, rfl⟩, hb1⟩
end Go.Proofs.YtjdihgmngiplkaaDoor
