/-
  The walk of package code's fnText.
-/
import Derived.Test.YtjdihgmngiplkaaDoorCodeW2
import Derived.Test.YtjdihgmngiplkaaDoorMidB
import Derived.Deep.RegionHeld3
import Derived.Deep.DeepCutAuto
import Derived.Deep.CutRange
namespace Go.Proofs.YtjdihgmngiplkaaDoor
open Go.RowKit Cd

/-- 'count' behind a world, its text kept aside. -/
theorem count_t (n : Nat) (W0 W : World) (hn : n < 2 ^ 63) (hW : Below W0.heap.size W0 W) : Calls Tryd.prog 30 #[.int .i64 n] W fun e w' => ∃ t, e = .returned (.string t) ∧ Hid (t = txt (Vy.enc n)) ∧ t.size ≤ 10 ∧ Below W0.heap.size W0 w' :=
  (count_any n W hn).mono fun e w' ⟨he, hb⟩ => ⟨_, he, Lib.hid rfl, by rw [txt_size]; exact Vy.enc_len10 n (by omega), hW.trans (hb.mono hW.size)⟩
theorem toU8 {k : Int} (h0 : 0 ≤ k) (h1 : k < 256) : k % 256 = ((k.toNat : Nat) : Int) := by omega
theorem kindsL_take {l : List Int} {k : Nat} (h : k < l.length) : kindsL (l.take (k + 1)) = kindsL (l.take k) ++ [(l.getD k 0).toNat] := by
  unfold kindsL
  rw [List.take_succ_eq_append_getElem h, List.map_append, List.getD_eq_getElem?_getD, List.getElem?_eq_getElem h]
  rfl
theorem insF_take {l : List In} {k : Nat} (h : k < l.length) : (l.take (k + 1)).flatMap insL = (l.take k).flatMap insL ++ insL (l.getD k (0, 0)) := by
  rw [List.take_succ_eq_append_getElem h, List.flatMap_append, List.getD_eq_getElem?_getD, List.getElem?_eq_getElem h, List.flatMap_cons, List.flatMap_nil, List.append_nil]
  rfl

/-- A row of bytes that began behind W1. -/
structure Buf (W1 w : World) (v : Value) (l : List Nat) : Prop where
  mid : MidB w W1.heap.size v l
  bel : Below W1.heap.size W1 w
theorem Buf.app {W1 w w' : World} {v v' : Value} {l l' : List Nat} (h : Buf W1 w v l) (hm : MidB w' W1.heap.size v' l') (hk : Keeps (fun b => v.ownBlock = some b) w w') : Buf W1 w' v' l' :=
  ⟨hm, h.bel.trans (hk.below h.bel.size fun k _ e => (h.mid.le k e).1)⟩
theorem Buf.next {W1 w w' : World} {v : Value} {l : List Nat} (h : Buf W1 w v l) (hb : Below w.heap.size w w') : Buf W1 w' v l := ⟨h.mid.below hb, h.bel.trans (hb.mono h.bel.size)⟩
theorem Buf.to {W1 w : World} {v : Value} {l l' : List Nat} (h : Buf W1 w v l) (e : l = l') : Buf W1 w v l' := e ▸ h
theorem MidB.mono {w : World} {B B' : Nat} {v : Value} {l : List Nat} (h : MidB w B v l) (hB : B' ≤ B) : MidB w B' v l := by
  obtain ⟨b, cap, e1, e2, e3, e4, e5⟩ := h
  exact ⟨b, cap, e1, e2, e3, Nat.le_trans hB e4, e5⟩

set_option maxRecDepth 100000 in
set_option maxHeartbeats 6400000 in
theorem fnText_any (f : FnV) (vl vc : Value) (w : World) (hf : FnR f) (hl : IntsAt w vl f.locals) (hc : InsAt w vc f.code) :
    Calls Tryd.prog 32 #[.agg #[.int .i64 f.params, vl, .int .i64 f.kind, vc]] w fun e w' => e = .returned (.string (txt (fnL f))) ∧ Below w.heap.size w w' := by
  have HR := Lib.hid hf
  obtain ⟨pa, ls, ki, cs⟩ := f
  obtain ⟨ao, n, cap, rfl, hn, hnc, hcm, hx⟩ := hl
  obtain ⟨ao2, m, cap2, rfl, hm, hmc, hcm2, hx2⟩ := hc
  dsimp only at hn hm hx hx2 ⊢
  unfold maxLen at hcm hcm2
  have h12 : n ≤ 12 := by rw [hn]; exact hf.locals
  have h90 : m ≤ 9000 := by rw [hm]; exact hf.code
  obtain ⟨p, rfl⟩ : ∃ p : Nat, pa = (p : Int) := ⟨pa.toNat, (Int.toNat_of_nonneg hf.params0).symm⟩
  obtain ⟨q, rfl⟩ : ∃ q : Nat, ki = (q : Int) := ⟨ki.toNat, (Int.toNat_of_nonneg hf.kind0).symm⟩
  have hpn : p ≤ 12 := by have := hf.params; have := hf.locals; dsimp only at *; omega
  have hq3 : q ≤ 3 := by have := hf.kind; dsimp only at *; omega
  clear hf
  have hb0 := (Below.refl w.heap.size w).alloc (Nat.le_refl _) (.cells #[.int .i64 (p : Int), .slice ao n cap, .int .i64 (q : Int), .slice ao2 m cap2] 47)
  have HB0 := Lib.hid hb0
  have HN := Lib.hid hn
  have HM := Lib.hid hm
  have HX : Hid (∀ W, Below w.heap.size w W → 0 < n → ∃ b o, ao = some ⟨b, o, none⟩ ∧ ∀ i, i < n → W.cell? ⟨b, o + i, none⟩ = some (.int .i64 (ls.getD i 0))) := Lib.hid fun W hW h0 => by
    obtain ⟨b, o, h1, h2, h3⟩ := hx h0
    exact ⟨b, o, h1, fun i hi => by rw [hW.cell (p := ⟨b, o + i, none⟩) h2]; exact h3 i hi⟩
  have HX2 : Hid (∀ W, Below w.heap.size w W → 0 < m → ∃ b o, ao2 = some ⟨b, o, none⟩ ∧ ∀ i, i < m → W.cell? ⟨b, o + i * 2, none⟩ = some (.int .i64 (cs.getD i (0, 0)).1) ∧ W.cell? ⟨b, o + i * 2 + 1, none⟩ = some (.int .i64 (cs.getD i (0, 0)).2)) := Lib.hid fun W hW h0 => by
    obtain ⟨b, o, h1, h2, h3⟩ := hx2 h0
    refine ⟨b, o, h1, fun i hi => ?_⟩
    have hi2 : i < cs.length := by omega
    have := h3 i _ (List.getElem?_eq_getElem hi2)
    rw [List.getD_eq_getElem?_getD, List.getElem?_eq_getElem hi2]
    rw [hW.cell (p := ⟨b, o + i * 2, none⟩) h2, hW.cell (p := ⟨b, o + i * 2 + 1, none⟩) h2]
    exact this
  clear hb0 hx hx2 hn hm
  have hx0 := cell_of_row (w.alloc (.cells #[.int .i64 (p : Int), .slice ao n cap, .int .i64 (q : Int), .slice ao2 m cap2] 47)) w.heap.size 0 _ _ _ (heap_alloc_new _ _)
  have hx1 := cell_of_row (w.alloc (.cells #[.int .i64 (p : Int), .slice ao n cap, .int .i64 (q : Int), .slice ao2 m cap2] 47)) w.heap.size 1 _ _ _ (heap_alloc_new _ _)
  have hx2 := cell_of_row (w.alloc (.cells #[.int .i64 (p : Int), .slice ao n cap, .int .i64 (q : Int), .slice ao2 m cap2] 47)) w.heap.size 2 _ _ _ (heap_alloc_new _ _)
  have hx3 := cell_of_row (w.alloc (.cells #[.int .i64 (p : Int), .slice ao n cap, .int .i64 (q : Int), .slice ao2 m cap2] 47)) w.heap.size 3 _ _ _ (heap_alloc_new _ _)
  have hsz1 : w.heap.size < (w.alloc (.cells #[.int .i64 (p : Int), .slice ao n cap, .int .i64 (q : Int), .slice ao2 m cap2] 47)).heap.size := by simp
  go_enter Tryd.func32, Tryd.ntmps32
  go_upto_region 1 with fail
  generalize hW1 : w.alloc (.cells #[.int .i64 (p : Int), .slice ao n cap, .int .i64 (q : Int), .slice ao2 m cap2] 47) = W1 at *
  clear hW1
  have HC : Hid (∀ V, Below W1.heap.size W1 V → V.cell? ⟨w.heap.size, 0, none⟩ = some (.int .i64 (p : Int)) ∧ V.cell? ⟨w.heap.size, 1, none⟩ = some (.slice ao n cap) ∧ V.cell? ⟨w.heap.size, 2, none⟩ = some (.int .i64 (q : Int)) ∧ V.cell? ⟨w.heap.size, 3, none⟩ = some (.slice ao2 m cap2)) := Lib.hid fun V hV =>
    ⟨by rw [hV.cell (p := ⟨w.heap.size, 0, none⟩) hsz1]; exact hx0, by rw [hV.cell (p := ⟨w.heap.size, 1, none⟩) hsz1]; exact hx1, by rw [hV.cell (p := ⟨w.heap.size, 2, none⟩) hsz1]; exact hx2, by rw [hV.cell (p := ⟨w.heap.size, 3, none⟩) hsz1]; exact hx3⟩
  have HC1 := Lib.hid (fun W => count_t p W1 W (by omega))
  have HC2 := Lib.hid (fun W => count_t n W1 W (by omega))
  clear hx0 hx1 hx2 hx3
  have hbb : Below W1.heap.size W1 W1 := Below.refl _ _
  go_cut [3] from 8 to 16 (fun v wx => Buf W1 wx v (Vy.enc p ++ Vy.enc n))
  case first =>
    obtain ⟨hx0, hx1, -, -⟩ := HC.out _ hbb
    go_region_with (first
      | (have _q := hv1; go_at_call 30; refine (HC2.out _ ?_).mono ?_; (first | assumption | exact Below.drew (by assumption)); rintro e V2 ⟨t2, rfl, HT2, hs2, hv2⟩; obtain ⟨hz0, hz1, -, -⟩ := HC.out _ hv2; have hcv := Lib.run_convert_string_bytes (P := Tryd.prog) V2 9 53 5 (t1 ++ t2) Tryd.underlying9 Tryd.underlying53 Tryd.underlying5; have hss : ¬ 9223372036854775807 < t1.size + t2.size := (by omega); have hv3 : Below W1.heap.size W1 (Lib.bytesWorld V2 5 (t1 ++ t2)) := hv2.trans ((below_ofText _ _).mono hv2.size); have HMB := Lib.hid (midB_of V2 (t1 ++ t2) (by rw [ByteArray.size_append]; omega)); generalize Lib.bytesWorld V2 5 (t1 ++ t2) = V3 at *; generalize grownCap V2 (t1 ++ t2).size 0 5 = cp at *)
      | (go_at_call 30; refine (HC1.out _ ?_).mono ?_; (first | assumption | exact Below.drew (by assumption)); rintro e V1 ⟨t1, rfl, HT1, hs1, hv1⟩; obtain ⟨hy0, hy1, -, -⟩ := HC.out _ hv1))
    all_goals go_wp2_with fail
    all_goals go_meet
    all_goals exact ⟨by
      have h := HMB.out.mono hv2.size
      rw [bs_append, HT1.out, HT2.out, bs_txt _ (Vy.enc_bytes _), bs_txt _ (Vy.enc_bytes _)] at h
      rw [ByteArray.size_append, ← HT1.out, ← HT2.out] at h
      exact h, hv3⟩
  case rest =>
    have HB := Lib.hid hcut
    rename World => W2
    obtain ⟨b2, c2, hv2⟩ := hcut.mid.slice
    have hlp := Vy.enc_len10 p (by omega)
    have hln := Vy.enc_len10 n (by omega)
    have hlm := Vy.enc_len10 m (by omega)
    have HHL : Hid ((Vy.enc p).length ≤ 10 ∧ (Vy.enc n).length ≤ 10 ∧ (Vy.enc m).length ≤ 10) := Lib.hid ⟨hlp, hln, hlm⟩
    have HKK : Hid (∀ k, k < n → 1 ≤ ls.getD k 0 ∧ ls.getD k 0 ≤ 3) := Lib.hid fun k hk => by
      have hkl : k < ls.length := by rw [← HN.out]; exact hk
      rw [List.getD_eq_getElem?_getD, List.getElem?_eq_getElem hkl]
      exact HR.out.kinds _ (List.getElem_mem hkl)
    have HII : Hid (∀ k, k < m → mayB (cs.getD k (0, 0)) = true) := Lib.hid fun k hk => by
      have hkl : k < cs.length := by rw [← HM.out]; exact hk
      rw [List.getD_eq_getElem?_getD, List.getElem?_eq_getElem hkl]
      exact HR.out.ins _ (List.getElem_mem hkl)
    subst hv2
    clear hcut hlp hln hlm HC1 HC2 hbb
    have HX0 : Hid (∀ V, Below W1.heap.size W1 V → Below w.heap.size w V) := Lib.hid fun V hV => HB0.out.trans (hV.mono HB0.out.size)
    obtain ⟨hx0, hx1, hx2, hx3⟩ := HC.out _ HB.out.bel
    go_wp2_with fail
    go_loopw [20, 3] (fun iv v wr => ∃ k : Nat, k ≤ n ∧ iv = .int .i64 k ∧ Buf W1 wr v (Vy.enc p ++ Vy.enc n ++ kindsL (ls.take k))) (fun iv _ _ => n - (intOf iv).toNat)
    case atStart => exact ⟨0, Nat.zero_le _, rfl, HB.out.to (by simp [kindsL])⟩
    case round =>
      obtain ⟨k, hk, rfl, hbuf⟩ := hrel
      rename World => wr
      have HBF := Lib.hid hbuf
      clear hbuf HB hx0 hx1 hx2 hx3
      obtain ⟨b3, c3, hv3⟩ := HBF.out.mid.slice
      subst hv3
      by_cases hkn : k < n
      · obtain ⟨b, o, rfl, hcell⟩ := HX.out _ (HX0.out _ HBF.out.bel) (by omega)
        have hc1 := hcell k hkn
        have hi1 : (k : Int) < (n : Int) := by omega
        obtain ⟨g1, g2⟩ := HKK.out k hkn
        have HTK : Hid (kindsL (ls.take (k + 1)) = kindsL (ls.take k) ++ [(ls.getD k 0).toNat]) := Lib.hid (kindsL_take (by rw [← HN.out]; exact hkn))
        have hlen : (Vy.enc p ++ Vy.enc n ++ kindsL (ls.take k)).length ≤ 1000000 := by
          have := HHL.out
          simp [kindsL]
          omega
        obtain ⟨y, hy⟩ : ∃ y : Nat, ls.getD k 0 = (y : Int) := ⟨(ls.getD k 0).toNat, (Int.toNat_of_nonneg (by omega)).symm⟩
        rw [hy] at hc1 g1 g2 HTK
        have hym : ((y : Int) % 256) = (y : Int) := by omega
        have HTK2 : Hid (Vy.enc p ++ Vy.enc n ++ kindsL (ls.take k) ++ [y] = Vy.enc p ++ Vy.enc n ++ kindsL (ls.take (k + 1))) := Lib.hid (by rw [HTK.out, Int.toNat_natCast]; simp)
        have hsw := HBF.out.bel.size
        clear hcell HX hy g1 g2 HTK
        generalize hL : Vy.enc p ++ Vy.enc n ++ kindsL (ls.take k) = L at *
        have HLL := Lib.hid hL
        clear hL
        go_wp2_with (at_builtin; refine wpList_appendB rfl _ _ rfl wr W1.heap.size _ L y HBF.out.mid rfl rfl hlen hsw ?_)
        intro b' cap' w' hm hk'
        have HB2 := Lib.hid ((HBF.out.app hm hk').to HTK2.out)
        clear hm hk'
        go_wp2_with fail
        go_roundw
        case rel => exact ⟨k + 1, by omega, by go_num, HB2.out⟩
        case measure => simp [intOf]; omega
      · obtain rfl : k = n := by omega
        have HB2 : Hid (Buf W1 wr (.slice (some ⟨b3, 0, none⟩) (Vy.enc p ++ Vy.enc k ++ kindsL (ls.take k)).length c3) (Vy.enc p ++ Vy.enc k ++ kindsL ls)) := Lib.hid (HBF.out.to (by rw [HN.out, List.take_length]))
        have HL2 : Hid ((Vy.enc p ++ Vy.enc k ++ kindsL ls).length ≤ 40) := Lib.hid (by
          have := HHL.out
          have := HN.out
          simp [kindsL]
          omega)
        obtain ⟨hx0, hx1, hx2, hx3⟩ := HC.out _ HB2.out.bel
        have hym : ((q : Int) % 256) = (q : Int) := by omega
        have hsw := HB2.out.bel.size
        have HE1 : Hid ((Vy.enc p ++ Vy.enc k ++ kindsL (ls.take k)).length = (Vy.enc p ++ Vy.enc k ++ kindsL ls).length) := Lib.hid (by rw [HN.out, List.take_length])
        rw [HE1.out] at HB2 ⊢
        have HN9 := Lib.hid HN.out
        clear HBF HX HN HKK
        generalize hL : Vy.enc p ++ Vy.enc k ++ kindsL ls = L at *
        have HLL := Lib.hid hL
        clear hL
        have hlen : L.length ≤ 1000000 := by have := HL2.out; omega
        go_wp2_with (at_builtin; refine wpList_appendB rfl _ _ rfl wr W1.heap.size _ L q HB2.out.mid rfl rfl hlen hsw ?_)
        intro b4 c4 w4 hm4 hk4
        have HB4 := Lib.hid (HB2.out.app hm4 hk4)
        clear hm4 hk4 hx0 hx1 hx2 hx3 hsw HB2 hlen hym
        obtain ⟨hx0, hx1, hx2, hx3⟩ := HC.out _ HB4.out.bel
        have HC3 := Lib.hid (count_t m w4 w4 (by omega) (Below.refl _ _))
        go_wp2_with fail
        refine HC3.out.mono ?_
        rintro e w5 ⟨t3, rfl, HT3, hs3, hb5⟩
        have HB5 := Lib.hid (HB4.out.next hb5)
        clear hb5 HC3 hx0 hx1 hx2 hx3 HB4
        have hsw := HB5.out.bel.size
        have e5 : L.length + 1 = (L ++ [q]).length := by rw [List.length_append, List.length_singleton]
        rw [e5] at HB5 ⊢
        have HL5 : Hid ((L ++ [q]).length ≤ 41 ∧ 0 < (L ++ [q]).length) := Lib.hid (by have := HL2.out; rw [List.length_append, List.length_singleton]; omega)
        clear e5
        generalize hL5 : L ++ [q] = L5 at *
        have HLL5 := Lib.hid hL5
        clear hL5
        have hl5 : L5.length ≤ 1000000 := by have := HL5.out; omega
        have ht5 : t3.size ≤ 1000000 := by omega
        have h05 : 0 < L5.length + t3.size := by have := HL5.out; omega
        go_wp2_with (at_builtin; refine wpList_appendBs rfl _ _ rfl w5 W1.heap.size _ L5 t3 HB5.out.mid rfl rfl hl5 ht5 h05 hsw ?_)
        intro b6 c6 w6 hm6 hk6
        have HB6 := Lib.hid (HB5.out.app hm6 hk6)
        have e6 : L5.length + t3.size = (L5 ++ bs t3).length := by rw [List.length_append, bs_length]
        rw [e6] at HB6 ⊢
        have HL6 : Hid ((L5 ++ bs t3).length ≤ 51) := Lib.hid (by have := HL5.out; rw [List.length_append, bs_length]; omega)
        have HT6 : Hid (bs t3 = Vy.enc m) := Lib.hid (by rw [HT3.out, bs_txt _ (Vy.enc_bytes _)])
        clear hm6 hk6 e6 hl5 ht5 h05 hsw HB5 hs3 HT3
        generalize hL6 : L5 ++ bs t3 = L6 at *
        have HLL6 := Lib.hid hL6
        clear hL6
        obtain ⟨hx0, hx1, hx2, hx3⟩ := HC.out _ HB6.out.bel
        go_wp2_with fail
        go_loopw [45, 3] (fun iv v wr => ∃ j : Nat, j ≤ m ∧ iv = .int .i64 j ∧ Buf W1 wr v (L6 ++ (cs.take j).flatMap insL)) (fun iv _ _ => m - (intOf iv).toNat)
        case atStart => exact ⟨0, Nat.zero_le _, rfl, HB6.out.to (by simp)⟩
        case round =>
          obtain ⟨j, hj, rfl, hbuf⟩ := hrel
          rename World => wq
          have HBF := Lib.hid hbuf
          clear hbuf HB6 hx0 hx1 hx2 hx3
          obtain ⟨b7, c7, hv7⟩ := HBF.out.mid.slice
          subst hv7
          by_cases hjm : j < m
          · obtain ⟨b, o, rfl, hcell⟩ := HX2.out _ (HX0.out _ HBF.out.bel) (by omega)
            obtain ⟨hc1, hc2⟩ := hcell j hjm
            have hi1 : (j : Int) < (m : Int) := by omega
            have hmb := HII.out j hjm
            have HTK := Lib.hid (insF_take (l := cs) (k := j) (by rw [← HM.out]; exact hjm))
            have hlen1 : (L6 ++ (cs.take j).flatMap insL).length ≤ 999999 := by
              have h1 := HL6.out
              have h2 := flat_len (cs.take j) fun i hi => HR.out.ins i (List.mem_of_mem_take hi)
              rw [List.length_append]
              rw [List.length_take] at h2
              omega
            have hlen : (L6 ++ (cs.take j).flatMap insL).length ≤ 1000000 := by omega
            obtain ⟨x, y, hxy⟩ : ∃ x y, cs.getD j (0, 0) = (x, y) := ⟨_, _, rfl⟩
            rw [hxy] at hc1 hc2 hmb HTK
            dsimp only at hc1 hc2
            obtain ⟨o1, o2⟩ := mayB_op hmb
            obtain ⟨n1, n2⟩ := mayB_n hmb
            obtain ⟨z, rfl⟩ : ∃ z : Nat, x = (z : Int) := ⟨x.toNat, (Int.toNat_of_nonneg (by omega)).symm⟩
            have hzm : ((z : Int) % 256) = (z : Int) := by omega
            have HIN : Hid (insL ((z : Int), y) = z :: (if hasN (z : Int) then Vy.enc (zz y) else [])) := Lib.hid rfl
            clear hcell hxy hmb o1 o2
            generalize hL7 : L6 ++ (cs.take j).flatMap insL = L7 at *
            have HLL7 := Lib.hid hL7
            clear hL7
            have hal := (Below.refl wq.heap.size wq).alloc (Nat.le_refl _) (.cells #[.int .i64 (z : Int), .int .i64 y] 55)
            have HBA := Lib.hid (HBF.out.next hal)
            have hsw := HBA.out.bel.size
            have hz0 : (wq.alloc (.cells #[.int .i64 (z : Int), .int .i64 y] 55)).cell? ⟨wq.heap.size, 0, none⟩ = some (.int .i64 (z : Int)) := cell_of_row _ _ _ _ _ _ (heap_alloc_new _ _)
            have hz1 : (wq.alloc (.cells #[.int .i64 (z : Int), .int .i64 y] 55)).cell? ⟨wq.heap.size, 1, none⟩ = some (.int .i64 y) := cell_of_row _ _ _ _ _ _ (heap_alloc_new _ _)
            have HNE : Hid (b7 ≠ wq.heap.size) := Lib.hid (by have := (HBF.out.mid.le b7 rfl).2; omega)
            go_upto_region 12 with fail
            generalize hwa : wq.alloc (.cells #[.int .i64 (z : Int), .int .i64 y] 55) = wa at *
            generalize hxb : wq.heap.size = xb at *
            clear hwa hxb hal HBF hc1 hc2
            go_wp2_with (at_builtin; refine wpList_appendB rfl _ _ rfl wa W1.heap.size _ L7 z HBA.out.mid rfl rfl hlen hsw ?_)
            intro b8 c8 w8 hm8 hk8
            have HB8 := Lib.hid (HBA.out.app hm8 hk8)
            have hy0 := hk8.cell_of hz0 (fun e => HNE.out (by injection e))
            have hy1 := hk8.cell_of hz1 (fun e => HNE.out (by injection e))
            have e8 : L7.length + 1 = (L7 ++ [z]).length := by rw [List.length_append, List.length_singleton]
            rw [e8] at HB8 ⊢
            have hl8 : (L7 ++ [z]).length ≤ 1000000 := by rw [List.length_append, List.length_singleton]; omega
            clear hm8 hk8 hz0 hz1 e8 hsw HBA HNE hlen
            have hsw8 := HB8.out.bel.size
            generalize hL8 : L7 ++ [z] = L8 at *
            have HLL8 := Lib.hid hL8
            clear hL8
            go_wp2_with fail
            refine (hasN_any (z : Int) _).mono ?_
            rintro e w9 ⟨rfl, rfl⟩
            cases hhn : hasN (z : Int) with
            | false =>
              have HB9 := Lib.hid (HB8.out.to (l' := L6 ++ (cs.take (j + 1)).flatMap insL) (by
                rw [HTK.out, HIN.out, hhn, ← HLL8.out, ← HLL7.out]
                simp))
              clear hhn hy0 hy1
              go_wp2_with fail
              go_roundw
              case rel => exact ⟨j + 1, by omega, by go_num, HB9.out⟩
              case measure => simp [intOf]; omega
            | true =>
              have HT9 : Hid (L8 ++ Vy.enc (zz y) = L6 ++ (cs.take (j + 1)).flatMap insL) := Lib.hid (by
                rw [HTK.out, HIN.out, hhn, ← HLL8.out, ← HLL7.out]
                simp)
              clear hhn
              have HCI := Lib.hid (int_any y w9 n1 n2)
              go_wp2_with fail
              refine HCI.out.mono ?_
              rintro e w10 ⟨rfl, hb10⟩
              have HB10 := Lib.hid (HB8.out.next hb10)
              have hs10 : (txt (Vy.enc (zz y))).size ≤ 10 := by rw [txt_size]; exact Vy.enc_len10 _ (zz_lt y n1 n2)
              have HBT : Hid (bs (txt (Vy.enc (zz y))) = Vy.enc (zz y)) := Lib.hid (bs_txt _ (Vy.enc_bytes _))
              have hpos : 0 < (txt (Vy.enc (zz y))).size := by rw [txt_size]; exact Vy.enc_len_pos _
              have hs10' := HB10.out.bel.size
              clear hb10 HCI hy0 hy1 HB8
              generalize txt (Vy.enc (zz y)) = t10 at *
              have hl10 : L8.length ≤ 1000000 := hl8
              have ht10 : t10.size ≤ 1000000 := by omega
              have h010 : 0 < L8.length + t10.size := by omega
              go_wp2_with (at_builtin; refine wpList_appendBs rfl _ _ rfl w10 W1.heap.size _ L8 t10 HB10.out.mid rfl rfl hl10 ht10 h010 hs10' ?_)
              intro b11 c11 w11 hm11 hk11
              have HB11 := Lib.hid ((HB10.out.app hm11 hk11).to (l' := L6 ++ (cs.take (j + 1)).flatMap insL) (by rw [HBT.out, HT9.out]))
              clear hm11 hk11
              go_wp2_with fail
              go_roundw
              case rel => exact ⟨j + 1, by omega, by go_num, HB11.out⟩
              case measure => simp [intOf]; omega
          · obtain rfl : j = m := by omega
            have HL9 : Hid (L6 ++ (cs.take j).flatMap insL = fnL ⟨(p : Int), ls, (q : Int), cs⟩) := Lib.hid (by
              rw [HM.out, List.take_length, ← HLL6.out, ← HLL5.out, ← HLL.out, HT6.out, HN9.out, HM.out]
              unfold fnL
              simp)
            generalize L6 ++ (cs.take j).flatMap insL = L9 at *
            have hcv := HBF.out.mid.text
            clear HX2
            go_wp2_with fail
            go_ret
            exact ⟨by rw [← HL9.out]; rfl, HX0.out _ HBF.out.bel⟩
end Go.Proofs.YtjdihgmngiplkaaDoor
