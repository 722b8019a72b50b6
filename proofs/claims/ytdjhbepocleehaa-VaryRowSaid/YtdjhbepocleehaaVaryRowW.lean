/-
  The walk of the law VaryRow: numbers in a row are read one by one, to the row's end.
-/
import Derived.Test.YtdjhbepocleehaaVaried
import Derived.Test.YtdjhbepocleehaaArgs
import Derived.OpenShut
namespace Go.Proofs.Ytdjhbepocleehaa
open Go.RowKit Go.ChangeShapes Go.WideShapes Go.ChangeAt

/-- Numbers' bytes, one behind the other. -/
def encs (l : List Int) : List Nat := l.flatMap fun n => Vy.enc n.toNat
theorem encs_bytes (l : List Int) : Crc.Bytes (encs l) := by
  intro b hb
  obtain ⟨n, _, h⟩ := List.mem_flatMap.1 hb
  exact Vy.enc_bytes _ b h
theorem getD_of_lt (l : List Int) (i : Nat) (h : i < l.length) : l.getD i 0 = l[i] := by rw [List.getD_eq_getElem?_getD, List.getElem?_eq_getElem h]; rfl
theorem encs_take_succ (l : List Int) (i : Nat) (h : i < l.length) : encs (l.take (i + 1)) = encs (l.take i) ++ Vy.enc (l.getD i 0).toNat := by
  unfold encs; rw [List.take_succ_eq_append_getElem h, getD_of_lt l i h, List.flatMap_append]; simp only [List.flatMap_cons, List.flatMap_nil, List.append_nil]
theorem encs_drop (l : List Int) (i : Nat) : (encs l).drop (encs (l.take i)).length = encs (l.drop i) := by
  conv => lhs; rw [← List.take_append_drop i l]
  unfold encs
  rw [List.flatMap_append, List.take_append_drop, List.drop_left' rfl]
theorem encs_drop_cons (l : List Int) (i : Nat) (h : i < l.length) : encs (l.drop i) = Vy.enc (l.getD i 0).toNat ++ encs (l.drop (i + 1)) := by
  unfold encs; rw [List.drop_eq_getElem_cons h, getD_of_lt l i h, List.flatMap_cons]
theorem encs_len (l : List Int) (hl : ∀ n ∈ l, n.toNat < 2 ^ 64) : (encs l).length ≤ 10 * l.length := by
  induction l with
  | nil => simp [encs]
  | cons n l ih =>
    have h1 := Vy.enc_len10 n.toNat (hl n (List.mem_cons_self ..))
    have h2 := ih fun x hx => hl x (List.mem_cons_of_mem _ hx)
    simp only [encs, List.flatMap_cons, List.length_append, List.length_cons] at h2 ⊢
    omega
theorem encs_take_len (l : List Int) (i : Nat) : (encs (l.take i)).length ≤ (encs l).length := by
  conv => rhs; rw [← List.take_append_drop i l]
  unfold encs
  rw [List.flatMap_append, List.length_append]; omega
theorem u64_wf {l : List Int} (h : ∀ x ∈ l, (Lit.int .u64 x).wf = true) (i : Nat) (hi : i < l.length) : 0 ≤ l.getD i 0 ∧ l.getD i 0 < 18446744073709551616 := by
  have := bounds_u64 (h _ (List.getElem_mem hi))
  rw [getD_of_lt l i hi]; omega

set_option maxRecDepth 100000 in
set_option maxHeartbeats 1600000 in
theorem varyRow_of (C : VaryC) (v : Value) (l : List Int) (w : World) (hv : NumsAt .u64 w v l) :
    Calls Try.prog 7 #[v] w fun e w' => e = .returned (.bool true) ∧ Below w.heap.size w w' := by
  obtain ⟨ao, n, cap, rfl, hn, hnc, hcm, hx, hwf⟩ := hv
  have HC := Lib.hid C
  unfold maxLen at hcm
  by_cases h60 : 60 < n
  · have h60i : (60 : Int) < (n : Int) := by omega
    go_enter Try.func7, Try.ntmps7
    go_wp2_with fail
    refine (varied_any HC.out _).mono ?_
    rintro e w1 ⟨rfl, hb1⟩
    go_wp2_with fail
    go_ret
    exact ⟨rfl, hb1⟩
  · have h60i : ¬ (60 : Int) < (n : Int) := by omega
    have HX := Lib.hid hx
    have HW := Lib.hid hwf
    have HLEN : Hid ((encs l).length ≤ 600) := Lib.hid (by
      have := encs_len l (fun x hx => by have := bounds_u64 (hwf x hx); omega)
      omega)
    have HN := Lib.hid hn
    clear hx hwf hn
    go_enter Try.func7, Try.ntmps7
    go_wp2_with fail
    refine (varied_any HC.out _).mono ?_
    rintro e w1 ⟨rfl, hb1⟩
    go_wp2_with fail
    go_loopw [3, 4] (fun s i wr => ∃ k : Nat, k ≤ n ∧ i = .int .i64 k ∧ s = .string (txt (encs (l.take k))) ∧ Below w.heap.size w wr) (fun _ i _ => n - (intOf i).toNat)
    case atStart => exact ⟨0, by omega, rfl, rfl, hb1⟩
    case round =>
      obtain ⟨k, hk, rfl, rfl, hb⟩ := hrel
      by_cases hkn : k < n
      · obtain ⟨b, o, rfl, hbl, hcell⟩ := HX.out (by omega)
        have hc := hcell k hkn
        rw [← hb.cell (p := ⟨b, o + k, none⟩) hbl] at hc
        have hxr := u64_wf HW.out k (by have := HN.out; omega)
        have HTS := Lib.hid (encs_take_succ l k (by have := HN.out; omega))
        have hsz : (txt (encs (l.take k))).size ≤ 600 := by rw [txt_size]; exact Nat.le_trans (encs_take_len l k) HLEN.out
        generalize hxe : l.getD k 0 = x at *
        obtain ⟨m, rfl⟩ := Int.eq_ofNat_of_zero_le hxr.1
        have hm : m < 2 ^ 64 := by omega
        have hms : (txt (Vy.enc m)).size ≤ 10 := by rw [txt_size]; exact Vy.enc_len10 m hm
        have HTX : Hid (txt (encs (l.take k)) ++ txt (Vy.enc m) = txt (encs (l.take (k + 1)))) := Lib.hid (by
          apply bs_inj
          rw [bs_append, bs_txt _ (encs_bytes _), bs_txt _ (Vy.enc_bytes m), bs_txt _ (encs_bytes _), HTS.out]; rfl)
        clear hcell HTS hxr hxe
        generalize txt (encs (l.take k)) = s0 at *
        go_wp2_with fail
        refine (HC.out.num m _ hm).mono ?_
        rintro e w2 ⟨rfl, hb2⟩
        generalize txt (Vy.enc m) = s1 at *
        go_wp2_with fail
        go_roundw
        case rel => exact ⟨k + 1, by omega, by go_num, by rw [← HTX.out], hb.trans (hb2.mono hb.size)⟩
        case measure => simp [intOf]; omega
      · obtain rfl : k = n := by omega
        have htl : l.take k = l := List.take_of_length_le (by have := HN.out; omega)
        rw [htl]
        have hss : (txt (encs l)).size ≤ 600 := by rw [txt_size]; exact HLEN.out
        have HBS : Hid (bs (txt (encs l)) = encs l) := Lib.hid (bs_txt _ (encs_bytes l))
        clear htl hk
        generalize txt (encs l) = S at *
        clear hb1
        go_wp2_with fail
        go_loopw [5, 6] (fun a i wq => ∃ j : Nat, j ≤ k ∧ i = .int .i64 j ∧ a = .int .i64 ((encs (l.take j)).length : Nat) ∧ Below w.heap.size w wq) (fun _ i _ => k - (intOf i).toNat)
        case atStart => exact ⟨0, by omega, rfl, rfl, hb⟩
        case round =>
          obtain ⟨j, hj, rfl, rfl, hbq⟩ := hrel
          clear hb
          have HLE : Hid ((encs (l.take j)).length ≤ S.size) := Lib.hid (by rw [← bs_length, HBS.out]; exact encs_take_len l j)
          have HDR : Hid ((bs S).drop (encs (l.take j)).length = encs (l.drop j)) := Lib.hid (by rw [HBS.out]; exact encs_drop l j)
          by_cases hjk : j < k
          · obtain ⟨b, o, rfl, hbl, hcell⟩ := HX.out (by omega)
            have hc := hcell j hjk
            have hxr := u64_wf HW.out j (by have := HN.out; omega)
            have HTS := Lib.hid (encs_take_succ l j (by have := HN.out; omega))
            have HDC := Lib.hid (encs_drop_cons l j (by have := HN.out; omega))
            generalize hxe : l.getD j 0 = x at *
            obtain ⟨m, rfl⟩ := Int.eq_ofNat_of_zero_le hxr.1
            have hm : m < 2 ^ 64 := by omega
            have HR : Hid (RN ((bs S).drop (encs (l.take j)).length) (encs (l.take j)).length m ((encs (l.take j)).length + (Vy.enc m).length) 0) := Lib.hid (Or.inl ⟨⟨hm, by rw [HDR.out, HDC.out]; exact List.prefix_append _ _⟩, rfl, rfl⟩)
            have HNX : Hid ((encs (l.take j)).length + (Vy.enc m).length = (encs (l.take (j + 1))).length) := Lib.hid (by rw [HTS.out, List.length_append]; rfl)
            clear hcell HTS HDC hxr hxe HDR
            generalize (encs (l.take j)).length = p at *
            rw [HNX.out] at HR
            go_wp2_with fail
            refine (HC.out.readNum S p m _ 0 _ (by omega) HLE.out HR.out).mono ?_
            rintro e w2 ⟨rfl, hb2⟩
            have hb3 : Below w.heap.size w w2 := hbq.trans (hb2.mono hbq.size)
            rw [← hb3.cell (p := ⟨b, o + j, none⟩) hbl] at hc
            rw [errV_0]
            go_wp2_with fail
            go_roundw
            case rel => exact ⟨j + 1, by omega, by go_num, rfl, hb3⟩
            case measure => simp [intOf]; omega
          · obtain rfl : j = k := by omega
            have htl : l.take j = l := List.take_of_length_le (by have := HN.out; omega)
            have hdl : l.drop j = [] := List.drop_of_length_le (by have := HN.out; omega)
            rw [htl] at HDR HLE ⊢
            rw [hdl] at HDR
            have hpe : (encs l).length = S.size := by rw [← bs_length, HBS.out]
            rw [hpe] at HDR HLE ⊢
            have HR : Hid (RN ((bs S).drop S.size) S.size 0 0 3) := Lib.hid (Or.inr ⟨fun n h => by
              rw [HDR.out] at h
              have h1 := h.len
              have h2 : (encs []).length = 0 := rfl
              omega, rfl, rfl, rfl⟩)
            clear htl hdl hpe HDR
            go_wp2_with fail
            refine (HC.out.readNum S S.size 0 0 3 _ (by omega) (Nat.le_refl _) HR.out).mono ?_
            rintro e w2 ⟨rfl, hb2⟩
            rw [errV_3]
            go_wp2_with fail
            go_ret
            exact ⟨rfl, hbq.trans (hb2.mono hbq.size)⟩
end Go.Proofs.Ytdjhbepocleehaa
