/-
  Texts of one proof, in build order: The walk of the law RoomForks. | What the listed variable errors.errorType gives the walks. | What the listed variable errors.errorType, listed alone, gives the walks.
-/
import Derived.Test.YtnjdmijcoadidaaGreatDoorR7
import Derived.Test.YtnjdmijcoadidaaGreatDoorTie
import Derived.LaidMore
import Derived.Lib.LaidTab
namespace Go.Proofs.YtnjdmijcoadidaaGreatDoor
open Go.RowKit Go.Maps Pp

theorem forks_step {l : List Rm.Ev} {r : Int} (h : Rm.forks 1 l = some r) {i : Nat} {e : Rm.Ev} (hx : l[i]? = some e) {k : Int} (hk : Rm.forks 1 (l.take i) = some k) :
    0 ≤ e.task ∧ e.task < k ∧ ((e.what = 1 ∧ e.obj = k ∧ Rm.forks 1 (l.take (i + 1)) = some (k + 1)) ∨ (e.what ≠ 1 ∧ Rm.forks 1 (l.take (i + 1)) = some k)) := by
  have hi := (List.getElem?_eq_some_iff.1 hx).1
  have ht : l.take (i + 1) = l.take i ++ [e] := by
    rw [List.take_add_one, hx]; rfl
  have h1 : Rm.forks 1 (l.take (i + 1)) = (Rm.forkE k e).bind fun m => Rm.forks m [] := by
    rw [ht, Rm.forks_append, hk]; rfl
  have h2 : Rm.forks 1 (l.take (i + 1) ++ l.drop (i + 1)) = some r := by rw [List.take_append_drop]; exact h
  rw [Rm.forks_append] at h2
  rw [h1] at h2 ⊢
  unfold Rm.forkE at h2 ⊢
  by_cases c1 : e.task < 0 ∨ k ≤ e.task
  · rw [if_pos c1] at h2; cases h2
  · rw [if_neg c1] at h2 ⊢
    by_cases c2 : e.what = 1
    · rw [if_pos c2] at h2 ⊢
      by_cases c3 : e.obj = k
      · rw [if_pos c3]
        exact ⟨by omega, by omega, Or.inl ⟨c2, c3, rfl⟩⟩
      · rw [if_neg c3] at h2; cases h2
    · rw [if_neg c2]
      exact ⟨by omega, by omega, Or.inr ⟨c2, rfl⟩⟩
set_option maxRecDepth 100000 in
set_option maxHeartbeats 6400000 in
theorem roomForks_any (v1 : Value) (Sc : List (List Rm.Ask)) (g : Int) (v3 : Value) (pl : List (Int × Int)) (w : World) (h1 : ScRaw w v1 Sc) (_g0 : -9223372036854775808 ≤ g) (_g1 : g ≤ 9223372036854775807) (h3 : PicksAt w v3 pl ∧ PicksWf pl) (hE : ErrT w) :
    Calls Tryz.prog 9 #[v1, .int .i64 g, v3] w fun e w' => e = .returned (.bool true) ∧ Below w.heap.size w w' := by
  have H1 := Lib.hid h1
  have H3 := Lib.hid h3
  have HE := Lib.hid hE
  clear h1 h3 hE
  go_enter Tryz.func9, Tryz.ntmps9
  go_wp2_with fail
  refine (roomed_any w HE.out).mono ?_
  rintro e w1 ⟨rfl, hb1⟩
  have HB1 := Lib.hid hb1
  clear hb1
  go_wp2_with fail
  refine (opened_any HB1.out H1.out H3.out.1 g).mono ?_
  rintro e w2 ho
  cases ho with
  | none he hb =>
    have HB := Lib.hid (HB1.out.trans (hb.mono HB1.out.size))
    subst he
    clear hb
    go_wp2_with fail
    go_ret
    exact ⟨rfl, HB.out⟩
  | some C rb τ hD he hT hA hb hf h6 hp =>
    subst he
    have hin : Rm.FI (Rm.play C.D (Rm.start (pyDoer Sc) (pickN g 9) py0) pl).1 := by
      rw [hD]; exact Rm.FI.play pl hA.inv (Rm.FI.start _ _)
    have hA1 := hA.play C.bd pl
    have hP := play_open hT hA HE.out H3.out.1 H3.out.2 (by omega) (by omega)
    obtain ⟨s1, hs1⟩ : ∃ s1, s1 = (Rm.play C.D (Rm.start (pyDoer Sc) (pickN g 9) py0) pl).1 := ⟨_, rfl⟩
    rw [← hs1] at hin hA1 hP
    generalize ((Rm.play C.D (Rm.start (pyDoer Sc) (pickN g 9) py0) pl).2 : Nat) = cnt at *
    have HIN := Lib.hid hin
    have HA1 := Lib.hid hA1
    have HP := Lib.hid hP
    have HPL := Lib.hid hp
    clear hin hA1 hP hs1 hp hT hA hb hf h6 hD
    go_wp2_with fail
    refine HP.out.mono ?_
    rintro e w3 ⟨rfl, hg3⟩
    obtain ⟨τ3, hT3, -⟩ := hg3.ex
    have HT3 := Lib.hid hT3
    have HC := Lib.hid (events_open hT3 HA1.out (by have := HPL.out; omega))
    clear hg3 hT3 HP
    go_wp2_with fail
    refine HC.out.mono ?_
    rintro e w4 ⟨u, rfl, ho, hb4⟩
    have HR := Lib.hid (readE_of ho)
    have HT4 := Lib.hid (HT3.out.new (Keeps.of_new hb4))
    obtain ⟨au, cu, rfl, hcu, hcm, -⟩ := readE_of ho
    obtain ⟨m, hm⟩ : ∃ m, m = s1.events.length := ⟨_, rfl⟩
    have HM := Lib.hid hm
    have hmb : m ≤ 10000 := by have := HA1.out.events; have := HPL.out; omega
    rw [← hm] at HR hcu ⊢
    unfold maxLen at hcm
    clear ho hb4 hm HC
    go_wp2_with fail
    go_loopw [8, 25] (fun nv iv wr => ∃ i k : Nat, i ≤ m ∧ iv = .int .i64 i ∧ nv = .int .i64 (k : Int) ∧ k ≤ 1 + i ∧ Rm.forks 1 (s1.events.take i) = some (k : Int) ∧ Below w4.heap.size w4 wr) (fun _ iv _ => m - (intOf iv).toNat)
    case atStart => exact ⟨0, 1, Nat.zero_le _, rfl, rfl, Nat.le_refl _, rfl, Below.refl _ _⟩
    case round =>
      obtain ⟨i, k, hi, rfl, rfl, hki, hfk, hb⟩ := hrel
      rename World => wr
      have HB := Lib.hid hb
      have HFK := Lib.hid hfk
      by_cases hin : i < m
      · obtain ⟨⟨et, ew, eo⟩, hx⟩ : ∃ x, s1.events[i]? = some x := ⟨_, List.getElem?_eq_getElem (by rw [← HM.out]; exact hin)⟩
        obtain ⟨gg, hga, q0, q1, q2⟩ := HR.out.at hb hx
        subst hga
        simp only at q0 q1 q2
        obtain ⟨t0, t1, hst⟩ := forks_step HIN.out hx hfk
        simp only at t0 t1 hst
        have hii : (0 : Int) ≤ (i : Int) ∧ (i : Int) < (m : Int) := by omega
        have t2 : ¬ et < 0 := by omega
        have t3 : ¬ (k : Int) ≤ et := by omega
        have hcc := alloc_cells wr #[.int .i64 et, .int .i64 ew, .int .i64 eo] 70
        have x0 := hcc 0 _ rfl
        have x1 := hcc 1 _ rfl
        have x2 := hcc 2 _ rfl
        have HBX : Hid (Below w4.heap.size w4 (wr.alloc (.cells #[.int .i64 et, .int .i64 ew, .int .i64 eo] 70))) := Lib.hid (hb.alloc hb.size _)
        clear hcc hb hx hfk t0 t1
        rcases hst with ⟨rfl, rfl, h9⟩ | ⟨h8, h9⟩
        · have HN9 := Lib.hid h9
          have hwr : IntKind.i64.wrap ((k : Int) + 1) = ((k + 1 : Nat) : Int) := by rw [IntWalk.i64_in _ (by omega)]; omega
          clear h9
          go_wp2_with fail
          go_roundw
          case rel => exact ⟨i + 1, k + 1, by omega, by go_num, rfl, by omega, by rw [HN9.out]; rfl, HBX.out⟩
          case measure => simp [intOf]; omega
        · have HN9 := Lib.hid h9
          have h8' : (ew == 1) = false := by rw [beq_eq_false_iff_ne]; exact h8
          clear h9
          go_wp2_with fail
          go_roundw
          case rel => exact ⟨i + 1, k, by omega, by go_num, rfl, by omega, HN9.out, HBX.out⟩
          case measure => simp [intOf]; omega
      · obtain rfl : i = m := by omega
        have hnn : ¬ (i : Int) < (i : Int) := by omega
        have hk : (k : Int) = (s1.tasks.length : Int) := by
          have h7 := HIN.out
          unfold Rm.FI at h7
          rw [HM.out, List.take_length, h7] at hfk
          injection hfk with hfk
          exact hfk.symm
        have HK := Lib.hid hk
        have HT5 := Lib.hid (HT4.out.new (Keeps.of_new hb))
        have HH := Lib.hid (hall_open HT5.out HA1.out (by have := HPL.out; omega) (by have := HPL.out; omega))
        have HBW := Lib.hid HT5.out.bel
        clear hfk hk hb
        go_wp2_with fail
        refine HH.out.mono ?_
        rintro e w6 ⟨v, rfl, hs, hb6⟩
        obtain ⟨a1, k1, a2, k2, a3, k3, a4, k4, a5, k5, rfl, -⟩ := hs.read.ex
        have HB6 := Lib.hid (HBW.out.trans (hb6.mono HBW.out.size))
        have hkk : k = s1.tasks.length := by have := HK.out; omega
        rw [← hkk]
        have hke : ((k : Int) == (k : Int)) = true := by simp
        have hfd : ∀ W, (Instr.field 47 (.agg #[.int .i64 s1.fin, .int .i64 s1.now, .int .i64 (s1.pipes.chs.length : Nat), .slice a1 k k1, .slice a2 (wakesV s1).length k2, .slice a3 s1.globals.length k3, .slice a4 s1.pipes.chs.length k4, .slice a5 s1.out.length k5]) 3).run Tryz.prog W = .ok (.slice a1 k k1) W := fun _ => by kernel_rfl
        clear hs hb6 hkk HK
        go_wp2_with fail
        go_ret
        exact ⟨rfl, HB6.out⟩
end Go.Proofs.YtnjdmijcoadidaaGreatDoor

namespace Go.Proofs.YtnjdmijcoadidaaGreatDoor
open Go.RowKit
theorem etG : Tryz.prog.globalNamed "errors.errorType" = some 0 := by kernel_rfl
theorem etRt : (Tryz.prog.cutTypes.find? (·.1 == "internal/reflectlite.rtype")).map (·.2) = some 289 := by kernel_rfl
theorem etOne : ((List.range Tryz.prog.types.size).filter fun t => Tryz.prog.rowNamed t [101, 114, 114, 111, 114]) = [33] := by kernel_rfl
theorem errT_of_laid {W : World} {l : List (String × DataW Unit)} (h : laidMetH Tryz.prog l W) (hm : ("errors.errorType", Rows.laid_errors_errorType) ∈ l) : ErrT W := by
  obtain ⟨name, u, ty, e1, e2, e3, e4, e5⟩ := (laidMetH_iff.1 h).2 _ (List.mem_filter.2 ⟨hm, rfl⟩)
  have en : name = [101, 114, 114, 111, 114] := (Option.some.inj e1).symm
  subst en
  obtain rfl := Option.some.inj (etRt.symm.trans e2)
  have hr : ty ∈ (List.range Tryz.prog.types.size).filter fun t => Tryz.prog.rowNamed t [101, 114, 114, 111, 114] := List.mem_filter.2 ⟨List.mem_range.2 e3, e4⟩
  rw [etOne] at hr
  obtain rfl := List.mem_singleton.1 hr
  have hh : typeHandle Tryz.prog 33 = .pointer (some ⟨1, 33, none⟩) := by kernel_rfl
  rw [hh] at e5
  simpa [ErrT] using World.var?_cell etG e5 0
end Go.Proofs.YtnjdmijcoadidaaGreatDoor

namespace Go.Proofs.YtnjdmijcoadidaaGreatDoor
open Go.RowKit
theorem errT_only {W : World} (h : laidMetH Tryz.prog [("errors.errorType", Rows.laid_errors_errorType)] W) : ErrT W := errT_of_laid h (List.mem_cons_self ..)
end Go.Proofs.YtnjdmijcoadidaaGreatDoor
