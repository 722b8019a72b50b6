/-
  The walks of arith.Kinds and of the looker's reckon and ask.
-/
import Derived.Test.YtlfcfaceeloedaaDoorVerW3
namespace Go.Proofs.YtlfcfaceeloedaaDoor
open Go.RowKit Go.Shelf Cd Ve
variable {E : LE} {W : World} {s : VS}

set_option maxRecDepth 100000 in
set_option maxHeartbeats 1600000 in
theorem kinds_any (op : Int) (W : World) : Calls Tryd.prog 115 #[.int .i64 op] W fun x W' => x = .returned (.tuple #[.int .i64 (kindsO op).1, .int .i64 (kindsO op).2]) ∧ W' = W := by
  obtain ⟨r, hr⟩ : ∃ r, r = kindsO op := ⟨_, rfl⟩
  rw [← hr]
  have hk : (1 ≤ op ∧ op ≤ 10) ∨ op = 17 ∨ op = 18 ∨ (11 ≤ op ∧ op ≤ 16) ∨ op = 19 ∨ op < 1 ∨ 19 < op := by omega
  go_enter Tryd.func115, Tryd.ntmps115
  rcases hk with ⟨h1, h2⟩ | rfl | rfl | ⟨h1, h2⟩ | rfl | h1 | h1
  · have HR : Hid (r = (1, 1)) := Lib.hid (by rw [hr]; unfold kindsO; repeat (first | rfl | rw [if_pos (by omega)] | rw [if_neg (by omega)]))
    clear hr
    skip
    go_wp2_with fail
    go_ret2
    exact ⟨by rw [HR.out]; rfl, rfl⟩
  · have HR : Hid (r = (1, 1)) := Lib.hid (by rw [hr]; unfold kindsO; repeat (first | rfl | rw [if_pos (by omega)] | rw [if_neg (by omega)]))
    clear hr
    skip
    go_wp2_with fail
    go_ret2
    exact ⟨by rw [HR.out]; rfl, rfl⟩
  · have HR : Hid (r = (1, 1)) := Lib.hid (by rw [hr]; unfold kindsO; repeat (first | rfl | rw [if_pos (by omega)] | rw [if_neg (by omega)]))
    clear hr
    skip
    go_wp2_with fail
    go_ret2
    exact ⟨by rw [HR.out]; rfl, rfl⟩
  · have HR : Hid (r = (1, 2)) := Lib.hid (by rw [hr]; unfold kindsO; repeat (first | rfl | rw [if_pos (by omega)] | rw [if_neg (by omega)]))
    clear hr
    have h3 : ¬ op ≤ 10 := by omega
    have h4 : 1 ≤ op := by omega
    have h5 : ¬ op = 17 := by omega
    have h6 : ¬ op = 18 := by omega
    go_wp2_with fail
    go_ret2
    exact ⟨by rw [HR.out]; rfl, rfl⟩
  · have HR : Hid (r = (2, 2)) := Lib.hid (by rw [hr]; unfold kindsO; repeat (first | rfl | rw [if_pos (by omega)] | rw [if_neg (by omega)]))
    clear hr
    skip
    go_wp2_with fail
    go_ret2
    exact ⟨by rw [HR.out]; rfl, rfl⟩
  · have HR : Hid (r = (0, 0)) := Lib.hid (by rw [hr]; unfold kindsO; repeat (first | rfl | rw [if_pos (by omega)] | rw [if_neg (by omega)]))
    clear hr
    have h3 : ¬ 1 ≤ op := by omega
    have h4 : ¬ 11 ≤ op := by omega
    have h5 : ¬ op = 17 := by omega
    have h6 : ¬ op = 18 := by omega
    have h7 : ¬ op = 19 := by omega
    go_wp2_with fail
    go_ret2
    exact ⟨by rw [HR.out]; rfl, rfl⟩
  · have HR : Hid (r = (0, 0)) := Lib.hid (by rw [hr]; unfold kindsO; repeat (first | rfl | rw [if_pos (by omega)] | rw [if_neg (by omega)]))
    clear hr
    have h2 : 1 ≤ op := by omega
    have h3 : ¬ op ≤ 10 := by omega
    have h4 : 11 ≤ op := by omega
    have h8 : ¬ op ≤ 16 := by omega
    have h5 : ¬ op = 17 := by omega
    have h6 : ¬ op = 18 := by omega
    have h7 : ¬ op = 19 := by omega
    go_wp2_with fail
    go_ret2
    exact ⟨by rw [HR.out]; rfl, rfl⟩

set_option maxRecDepth 100000 in
set_option maxHeartbeats 3200000 in
theorem reckon_any (i : In) (h : LkAt E W s) : Calls Tryd.prog 104 #[.pointer (some ⟨E.lb, 0, none⟩), insV i] W fun x W' => x = .returned (.tuple #[]) ∧ LkSays E W W' (reckonS i s) := by
  obtain ⟨op, n⟩ := i
  unfold insV
  dsimp only
  obtain ⟨k1, k2, hk⟩ : ∃ k1 k2, (k1, k2) = kindsO n := ⟨_, _, rfl⟩
  have HG : Hid (reckonS (op, n) s = VS.put (if op = 8 then s.takeL [k1, k1] else s.take1 k1) k2) := Lib.hid (by unfold reckonS; rw [← hk])
  have HK : Hid (0 ≤ k2 ∧ k2 ≤ 3) := Lib.hid (by have := kindsO_le n; rw [← hk] at this; exact ⟨this.2.1, this.1⟩)
  have HKI := Lib.hid (kinds_any n (W.alloc (.cells #[.int .i64 op, .int .i64 n] 37)))
  rw [← hk] at HKI
  have HK1 : Hid (Keeps (fun _ => False) W (W.alloc (.cells #[.int .i64 op, .int .i64 n] 37))) := Lib.hid ((Keeps.refl _ W).alloc _)
  have hx := BlkO.new W #[.int .i64 op, .int .i64 n] 37
  have HL1 := Lib.hid (h.fresh HK1.out)
  obtain ⟨ib, hib⟩ : ∃ ib, ib = W.heap.size := ⟨_, rfl⟩
  rw [← hib] at hx
  have c1 := hx.at_ 1 _ rfl
  have c0 := hx.at_ 0 _ rfl
  go_enter Tryd.func104, Tryd.ntmps104
  go_upto_region 1 with fail
  rw [← hib]
  generalize W.alloc (.cells #[.int .i64 op, .int .i64 n] 37) = W1 at *
  have HS0 : Hid (LkSays E W1 W1 s) := Lib.hid ⟨HL1.out, Keeps.refl _ _⟩
  clear hx h hib hk
  go_wp2_with fail
  refine HKI.out.mono ?_
  rintro e w2 ⟨rfl, hw2⟩
  subst hw2
  clear HKI
  by_cases h8 : op = 8
  · have HE : Hid (reckonS (op, n) s = (s.takeL [k1, k1]).put k2) := Lib.hid (by rw [HG.out, if_pos h8])
    clear HG
    have HP1 := Lib.hid (take2_any k1 k1 HS0.out.lk)
    go_wp2_with fail
    refine HP1.out.mono ?_
    rintro e w10 ⟨rfl, hs⟩
    have HS1 := Lib.hid (LkSays.trans HS0.out hs)
    clear hs
    have HP2 := Lib.hid (put_any k2 HK.out.1 HK.out.2 HS1.out.lk)
    go_wp2_with fail
    refine HP2.out.mono ?_
    rintro e w20 ⟨rfl, hs⟩
    have HS2 := Lib.hid (LkSays.trans HS1.out hs)
    clear hs
    go_wp2_with fail
    go_end0
    exact ⟨rfl, by rw [HE.out]; exact HS2.out.new HK1.out⟩
  · have HE : Hid (reckonS (op, n) s = (s.take1 k1).put k2) := Lib.hid (by rw [HG.out, if_neg h8])
    clear HG
    have HP1 := Lib.hid (take1_any k1 HS0.out.lk)
    go_wp2_with fail
    refine HP1.out.mono ?_
    rintro e w10 ⟨rfl, hs⟩
    have HS1 := Lib.hid (LkSays.trans HS0.out hs)
    clear hs
    have HP2 := Lib.hid (put_any k2 HK.out.1 HK.out.2 HS1.out.lk)
    go_wp2_with fail
    refine HP2.out.mono ?_
    rintro e w20 ⟨rfl, hs⟩
    have HS2 := Lib.hid (LkSays.trans HS1.out hs)
    clear hs
    go_wp2_with fail
    go_end0
    exact ⟨rfl, by rw [HE.out]; exact HS2.out.new HK1.out⟩

set_option maxRecDepth 100000 in
set_option maxHeartbeats 3200000 in
theorem ask_any (op : Int) (h : LkAt E W s) : Calls Tryd.prog 106 #[.pointer (some ⟨E.lb, 0, none⟩), .int .i64 op] W fun x W' => x = .returned (.tuple #[]) ∧ LkSays E W W' (askS op s) := by
  have HS0 : Hid (LkSays E W W s) := Lib.hid ⟨h, Keeps.refl _ _⟩
  clear h
  have hk : op = 16 ∨ op = 17 ∨ op = 18 ∨ op = 20 ∨ op = 19 ∨ op = 21 ∨ op = 22 ∨ (¬ op = 16 ∧ ¬ op = 17 ∧ ¬ op = 18 ∧ ¬ op = 20 ∧ ¬ op = 19 ∧ ¬ op = 21 ∧ ¬ op = 22) := by omega
  go_enter Tryd.func106, Tryd.ntmps106
  rcases hk with rfl | rfl | rfl | rfl | rfl | rfl | rfl | ⟨h1, h2, h3, h4, h5, h6, h7⟩
  · have HE : Hid (askS 16 s = (s.take1 1).put 3) := Lib.hid rfl
    have HP1 := Lib.hid (take1_any 1 HS0.out.lk)
    go_wp2_with fail
    refine HP1.out.mono ?_
    rintro e w10 ⟨rfl, hs⟩
    have HS1 := Lib.hid (LkSays.trans HS0.out hs)
    clear hs
    have HP2 := Lib.hid (put_any 3 (by decide) (by decide) HS1.out.lk)
    go_wp2_with fail
    refine HP2.out.mono ?_
    rintro e w20 ⟨rfl, hs⟩
    have HS2 := Lib.hid (LkSays.trans HS1.out hs)
    clear hs
    go_wp2_with fail
    go_end0
    exact ⟨rfl, by rw [HE.out]; exact HS2.out⟩
  · have HE : Hid (askS 17 s = s.takeL [3, 1]) := Lib.hid rfl
    have HP1 := Lib.hid (take2_any 3 1 HS0.out.lk)
    go_wp2_with fail
    refine HP1.out.mono ?_
    rintro e w10 ⟨rfl, hs⟩
    have HS1 := Lib.hid (LkSays.trans HS0.out hs)
    clear hs
    go_wp2_with fail
    go_end0
    exact ⟨rfl, by rw [HE.out]; exact HS1.out⟩
  · have HE : Hid (askS 18 s = (s.take1 3).put 1) := Lib.hid rfl
    have HP1 := Lib.hid (take1_any 3 HS0.out.lk)
    go_wp2_with fail
    refine HP1.out.mono ?_
    rintro e w10 ⟨rfl, hs⟩
    have HS1 := Lib.hid (LkSays.trans HS0.out hs)
    clear hs
    have HP2 := Lib.hid (put_any 1 (by decide) (by decide) HS1.out.lk)
    go_wp2_with fail
    refine HP2.out.mono ?_
    rintro e w20 ⟨rfl, hs⟩
    have HS2 := Lib.hid (LkSays.trans HS1.out hs)
    clear hs
    go_wp2_with fail
    go_end0
    exact ⟨rfl, by rw [HE.out]; exact HS2.out⟩
  · have HE : Hid (askS 20 s = (s.take1 3).put 1) := Lib.hid rfl
    have HP1 := Lib.hid (take1_any 3 HS0.out.lk)
    go_wp2_with fail
    refine HP1.out.mono ?_
    rintro e w10 ⟨rfl, hs⟩
    have HS1 := Lib.hid (LkSays.trans HS0.out hs)
    clear hs
    have HP2 := Lib.hid (put_any 1 (by decide) (by decide) HS1.out.lk)
    go_wp2_with fail
    refine HP2.out.mono ?_
    rintro e w20 ⟨rfl, hs⟩
    have HS2 := Lib.hid (LkSays.trans HS1.out hs)
    clear hs
    go_wp2_with fail
    go_end0
    exact ⟨rfl, by rw [HE.out]; exact HS2.out⟩
  · have HE : Hid (askS 19 s = s.take1 3) := Lib.hid rfl
    have HP1 := Lib.hid (take1_any 3 HS0.out.lk)
    go_wp2_with fail
    refine HP1.out.mono ?_
    rintro e w10 ⟨rfl, hs⟩
    have HS1 := Lib.hid (LkSays.trans HS0.out hs)
    clear hs
    go_wp2_with fail
    go_end0
    exact ⟨rfl, by rw [HE.out]; exact HS1.out⟩
  · have HE : Hid (askS 21 s = s.take1 1) := Lib.hid rfl
    have HP1 := Lib.hid (take1_any 1 HS0.out.lk)
    go_wp2_with fail
    refine HP1.out.mono ?_
    rintro e w10 ⟨rfl, hs⟩
    have HS1 := Lib.hid (LkSays.trans HS0.out hs)
    clear hs
    go_wp2_with fail
    go_end0
    exact ⟨rfl, by rw [HE.out]; exact HS1.out⟩
  · have HE : Hid (askS 22 s = s.take1 1) := Lib.hid rfl
    have HP1 := Lib.hid (take1_any 1 HS0.out.lk)
    go_wp2_with fail
    refine HP1.out.mono ?_
    rintro e w10 ⟨rfl, hs⟩
    have HS1 := Lib.hid (LkSays.trans HS0.out hs)
    clear hs
    go_wp2_with fail
    go_end0
    exact ⟨rfl, by rw [HE.out]; exact HS1.out⟩
  · have HE : Hid (askS op s = s) := Lib.hid (by unfold askS; rw [if_neg h1, if_neg h2, if_neg (by omega), if_neg h5, if_neg (by omega)])
    go_wp2_with fail
    go_end0
    exact ⟨rfl, by rw [HE.out]; exact HS0.out⟩
end Go.Proofs.YtlfcfaceeloedaaDoor
