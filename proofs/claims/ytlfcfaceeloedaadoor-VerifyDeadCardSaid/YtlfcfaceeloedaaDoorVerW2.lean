/-
  The walks of slices.Backward over numbers and of the looker's take.
-/
import Derived.Test.YtlfcfaceeloedaaDoorVerW1
import Derived.Test.YtlfcfaceeloedaaDoorRangeT
import Derived.RangeFuncBox
import Derived.RangeFuncLeaves
import Derived.Shelf.Abstract
import Derived.OwnWalkIn
import Derived.TacticsInMore
import Derived.LoopNIn
import Derived.LoopIn
import Derived.TacticsIn
import Derived.RegionIn
import Derived.ControlIn
namespace Go.Proofs.YtlfcfaceeloedaaDoor
open Go.RowKit Go.Shelf Cd Ve
attribute [local go_sem] Oper.semAt_some
variable {E : LE} {W : World} {s : VS}

set_option maxRecDepth 100000 in
set_option maxHeartbeats 1600000 in
theorem bwdI_in (n : Nat) (l sb : Nat) (L : List Int) (v : Value) (S : Nat → Prop) (hS : ¬ S sb) (hO : 0 < L.length → Off v S) (J : Nat → World → Prop)
    (hY : ∀ (k : Nat) (A : World), k < L.length → J (k + 1) A → YieldAt Fence.wide (n - 1) Tryd.prog l #[.int .i64 (k : Nat), .int .i64 (L.getD k 0)] A fun e A' => e = .returned (.bool true) ∧ J k A' ∧ Keeps S A A')
    (W : World) (hb : Box W sb v) (hv : IntsAt W v L) (h0 : J L.length W) :
    CallsIn Fence.wide n Tryd.prog 113 #[.func (.yield l) #[] #[], .pointer (some ⟨sb, 0, none⟩)] W fun e W' => (∃ u, e = .returned u) ∧ J 0 W' := by
  obtain ⟨ao, m, cap, rfl, hm, hmc, hcm, hx⟩ := hv
  unfold maxLen at hcm
  have HB := Lib.hid hb
  have HX : Hid (IntsAt W (.slice ao m cap) L) := Lib.hid ⟨ao, m, cap, rfl, hm, hmc, hcm, hx⟩
  have HM := Lib.hid hm
  have c1 := hb.cell
  rw [← hm] at hY h0
  clear hb hx hm
  refine callsIn_of_wp Tryd.func113 rfl trivial ?_ rfl
  simp only [Tryd.ntmps113, List.size_toArray, List.length_cons, List.length_nil, Nat.reduceAdd, Nat.reduceSub, Array.replicate_succ, Array.replicate_zero, List.push_toArray, List.append_toArray, List.nil_append, List.cons_append]
  gi_wp2
  gi_loopw [3] (fun i wr => ∃ k : Nat, k ≤ m ∧ i = .int .i64 ((k : Int) - 1) ∧ J k wr ∧ Keeps S W wr) (fun i _ => (intOf i + 1).toNat)
  case atStart => exact ⟨m, Nat.le_refl _, by go_num, h0, Keeps.refl _ _⟩
  case round =>
    obtain ⟨k, hk, rfl, hJ, hkp⟩ := hrel
    rename World => wr
    have HJ := Lib.hid hJ
    have HKP := Lib.hid hkp
    cases k with
    | zero =>
      clear hJ hkp
      gi_wp2
      go_end0
      exact ⟨⟨_, rfl⟩, HJ.out⟩
    | succ k =>
      obtain ⟨fn, tmps, assign, body, hy, hR⟩ := hY k wr (by omega) hJ
      have HRR := Lib.hid hR
      have hki : ((k + 1 : Nat) : Int) - 1 = (k : Int) := by omega
      have hki2 : (0 : Int) ≤ (k : Int) ∧ (k : Int) < (m : Int) := by omega
      have hkm : k < m := by omega
      obtain ⟨b, o, rfl, hbl, hcl⟩ : ∃ b o, ao = some ⟨b, o, none⟩ ∧ b < W.heap.size ∧ ∀ i, i < m → W.cell? ⟨b, o + i, none⟩ = some (.int .i64 (L.getD i 0)) := by
        obtain ⟨_, _, _, e, _, _, _, h⟩ := HX.out
        cases e
        exact h (by omega)
      have c2 : wr.cell? ⟨b, o + k, none⟩ = some (.int .i64 (L.getD k 0)) := hkp.cell_of (hcl k (by omega)) (hO (by rw [← HM.out]; omega) b rfl)
      have c1' := (HB.out.keeps hkp hS).cell
      rw [hki]
      generalize L.getD k 0 = x at *
      clear hcl hJ hkp hR
      gi_wp2
      refine ⟨fun h => (by cases h), HRR.out.mono ?_⟩
      rintro e W3 ⟨rfl, hJ3, hk3⟩
      have HJ3 := Lib.hid hJ3
      have HK3 := Lib.hid hk3
      clear hJ3 hk3
      gi_wp2
      go_roundw
      case rel => exact ⟨k, by omega, by go_num, HJ3.out, HKP.out.trans HK3.out⟩
      case measure => simp [intOf]

theorem bwdF_any (ao : Option Addr) (m cap : Nat) (W : World) : Calls Tryd.prog 97 #[.slice ao m cap] W fun e w' =>
    e = .returned (.func (.func 113) #[] #[.pointer (some ⟨W.heap.size, 0, none⟩)]) ∧ w' = W.alloc (.cells #[.slice ao m cap] 44) := by
  go_enter Tryd.func97, Tryd.ntmps97
  go_wp2_with fail
  go_ret
  exact ⟨rfl, rfl⟩
theorem takeL_drop (s : VS) (ks : List Int) (k : Nat) (h : k < ks.length) : (s.takeL (ks.drop (k + 1))).take1 (ks.getD k 0) = s.takeL (ks.drop k) := by
  rw [List.drop_eq_getElem_cons h, List.getD_eq_getElem?_getD, List.getElem?_eq_getElem h]
  rfl
set_option maxRecDepth 100000 in
set_option maxHeartbeats 3200000 in
theorem take_any (v : Value) (ks : List Int) (h : LkAt E W s) (hv : IntsAt W v ks) (hO : 0 < ks.length → Off v (LkS E)) : Calls Tryd.prog 83 #[.pointer (some ⟨E.lb, 0, none⟩), v] W fun x W' => x = .returned (.tuple #[]) ∧ LkSays E W W' (s.takeL ks) := by
  have HH := Lib.hid h
  have HV := Lib.hid hv
  obtain ⟨ao, m, cap, rfl, -⟩ := hv
  have HK0 : Hid (Keeps (fun _ => False) W ((W.alloc (.cells #[.pointer (some ⟨E.lb, 0, none⟩)] 133)).alloc (.cells #[.slice ao m cap] 44))) := Lib.hid (((Keeps.refl _ W).alloc _).alloc _)
  have HX0 := Lib.hid (two_boxes W (.pointer (some ⟨E.lb, 0, none⟩)) (.slice ao m cap) 133 44)
  clear h
  refine (callsIn_wide (n := 9)).1 (callsIn_of_wp_marks Tryd.func83 rfl trivial ?_ rfl)
  simp only [Tryd.ntmps83, List.size_toArray, List.length_cons, List.length_nil, Nat.reduceAdd, Nat.reduceSub, Array.replicate_succ, Array.replicate_zero, List.push_toArray, List.append_toArray, List.nil_append, List.cons_append]
  refine wpIn_wide.2 ?_
  go_wp2_with fail
  refine (bwdF_any _ _ _ _).mono ?_
  rintro e w1 ⟨rfl, hw1⟩
  have hsz : (W.alloc (.cells #[.pointer (some ⟨E.lb, 0, none⟩)] 133)).heap.size = W.heap.size + 1 := by simp
  rw [hsz]
  rw [← hw1] at HX0 HK0
  have HSZ : Hid (w1.heap.size = W.heap.size + 2) := Lib.hid HX0.out.2.2.2
  clear hsz hw1
  go_wp2_with fail
  refine (wpIn_wide (n := 9)).1 (wpIn_range_T rfl (by decide) (gf := 113) (lb := #[.pointer (some ⟨W.heap.size + 1, 0, none⟩)]) rfl trivial (enters_of Tryd.func113 (by kernel_rfl) rfl) ?_)
  intro fn rec W1 hfn hrec hl0 hk1 hsz1
  obtain ⟨D, hD⟩ : ∃ D, D = w1.heap.size := ⟨_, rfl⟩
  rw [← hD] at hrec hl0 hsz1 ⊢
  have HD : Hid (D = W.heap.size + 2) := Lib.hid (by rw [hD]; exact HSZ.out)
  clear hD hsz1
  have HREC := Lib.hid hrec
  clear hrec
  have HKK : Hid (Keeps (fun _ => False) W W1) := Lib.hid (HK0.out.trans hk1)
  have hcar : (#[Value.func (.yield (D + 1)) #[] #[]] ++ #[Value.pointer (some ⟨W.heap.size + 1, 0, none⟩)] : Array Value) = #[Value.func (.yield (D + 1)) #[] #[], Value.pointer (some ⟨W.heap.size + 1, 0, none⟩)] := rfl
  rw [hcar]
  clear hcar
  have hlb := HH.out.blk.lt
  have hab := HH.out.row.lt
  have hlow := HH.out.inn.lo
  have hlow2 := HH.out.inn.lo2
  have hne : ∀ b, LkS E b → b < W.heap.size := fun b e => by rcases e with rfl | rfl <;> assumption
  have HNE := Lib.hid hne
  have HVB := Lib.hid HV.out
  refine (bwdI_in (9 - 1) (D + 1) (W.heap.size + 1) ks (.slice ao m cap) (fun b => LkS E b ∨ b = D + 1) ?hS ?hO (fun k A => LoopAt A D rec .ready none ∧ Box A W.heap.size (.pointer (some ⟨E.lb, 0, none⟩)) ∧ LkSays E W A (s.takeL (ks.drop k))) ?hY W1 (HX0.out.2.1.keeps hk1 id) (HV.out.keeps HKK.out fun _ _ => id) ?h0).mono ?_
  case hS =>
    have := HD.out
    rintro (e | e)
    · have := HNE.out _ e; omega
    · omega
  case hO =>
    rintro hlen k hk (e | e)
    · exact hO hlen k hk e
    · obtain ⟨_, n', c', e1, h1, -, -, h2⟩ := HV.out
      cases e1
      have := HD.out
      obtain ⟨b, o, rfl, hb, -⟩ := h2 (by omega)
      have hbk : b = k := by injection hk
      omega
  case h0 =>
    refine ⟨hl0, HX0.out.1.keeps hk1 id, ?_⟩
    rw [List.drop_length]
    exact ⟨HH.out.fresh HKK.out, HKK.out.mono fun _ _ e => e.elim⟩
  case hY =>
    rintro k A hkl ⟨h1, h2, h3⟩
    obtain ⟨kd, hkd⟩ : ∃ kd, kd = ks.getD k 0 := ⟨_, rfl⟩
    rw [← hkd]
    obtain ⟨t, ht⟩ : ∃ t, t = s.takeL (ks.drop (k + 1)) := ⟨_, rfl⟩
    obtain ⟨t2, ht2⟩ : ∃ t2, t2 = s.takeL (ks.drop k) := ⟨_, rfl⟩
    rw [← ht] at h3
    rw [← ht2]
    have HT1 : Hid (t2 = t.take1 kd) := Lib.hid (by rw [ht, hkd, ht2, takeL_drop s ks k hkl])
    clear hkd ht ht2 hkl
    refine yield_round HREC.out h1 hfn rfl ?_
    have H1 := Lib.hid h1
    clear h1
    gi_wp2
    refine ⟨H1.out, ?_⟩
    have HD' := HD.out
    have hkp := keeps_putObj A (D + 1) (.loop (rec .busy none))
    have HLP := Lib.hid (H1.out.turn .busy none)
    have HBX := Lib.hid (h2.keeps hkp (by omega))
    have HLK : Hid (LkSays E W (A.putObj (D + 1) (.loop (rec .busy none))) t) := Lib.hid ⟨h3.lk.keeps hkp (fun e => by have := HNE.out _ (Or.inl rfl); omega) (fun e => by have := HNE.out _ (Or.inr rfl); omega) (fun b e => by have := HNE.out _ (Or.inl rfl); have := HH.out.inn.lo; omega), h3.kp.trans' hkp fun b hb e => by omega⟩
    have HKP := Lib.hid hkp
    clear h2 h3 hkp H1 HD'
    generalize A.putObj (D + 1) (.loop (rec .busy none)) = A1 at *
    have hbc := HBX.out.cell
    have HTA := Lib.hid (takeAny_any HLK.out.lk)
    gi_wp2
    refine ⟨trivial, (CallsIn.inRound (D + 1) (callsIn_wide.2 HTA.out)).mono ?_⟩
    rintro e A2 ⟨rfl, hs2⟩
    have HS2 := Lib.hid hs2
    have HF := Lib.hid (fail_any 13 hs2.lk)
    have hbc2 := (HBX.out.keeps hs2.kp (fun e => by have := HNE.out _ e; omega)).cell
    have HBX2 := Lib.hid (HBX.out.keeps hs2.kp (fun e => by have := HNE.out _ e; omega))
    have HLP2 : Hid (LoopAt A2 D rec .busy none) := Lib.hid (HLP.out.keeps hs2.kp (fun e => by have := HNE.out _ e; have := HD.out; omega) (fun e => by have := HNE.out _ e; have := HD.out; omega))
    clear hs2 hbc
    have HEND : Hid (∀ A3, LkSays E A2 A3 (t.take1 kd) → LoopAt A3 D rec .busy none ∧ ((LoopAt (A3.putObj (D + 1) (.loop (rec .ready none))) D rec .ready none ∧ Box (A3.putObj (D + 1) (.loop (rec .ready none))) W.heap.size (.pointer (some ⟨E.lb, 0, none⟩)) ∧ LkSays E W (A3.putObj (D + 1) (.loop (rec .ready none))) t2) ∧ Keeps (fun b => LkS E b ∨ b = D + 1) A (A3.putObj (D + 1) (.loop (rec .ready none))))) := Lib.hid fun A3 h3 => by
      have hk := keeps_putObj A3 (D + 1) (.loop (rec .ready none))
      have hd := HD.out
      have hl3 : LoopAt A3 D rec .busy none := HLP2.out.keeps h3.kp (fun e => by have := HNE.out _ e; omega) (fun e => by have := HNE.out _ e; omega)
      have hb3 := HBX2.out.keeps h3.kp (fun e => by have := HNE.out _ e; omega)
      refine ⟨hl3, ⟨hl3.turn .ready none, hb3.keeps hk (by omega), ?_⟩, ?_⟩
      · rw [HT1.out]
        exact ⟨h3.lk.keeps hk (fun e => by have := HNE.out _ (Or.inl rfl); omega) (fun e => by have := HNE.out _ (Or.inr rfl); omega) (fun b e => by have := HNE.out _ (Or.inl rfl); have := HH.out.inn.lo; omega), ((HLK.out.kp.trans HS2.out.kp).trans h3.kp).trans' hk fun b hb e => by omega⟩
      · exact (((HKP.out.mono fun b _ e => Or.inr e).trans (HS2.out.kp.mono fun b _ e => Or.inl e)).trans (h3.kp.mono fun b _ e => Or.inl e)).trans (hk.mono fun b _ e => Or.inr e)
    by_cases hkk : t.take?.1 = kd
    · have HT3 : Hid (t.take1 kd = t.take?.2) := Lib.hid (by unfold VS.take1; rw [if_pos hkk])
      rw [hkk]
      clear hkk
      gi_wp2
      obtain ⟨g1, g2, g3⟩ := HEND.out A2 (by rw [HT3.out]; exact ⟨HS2.out.lk, Keeps.refl _ _⟩)
      exact ⟨g1, rfl, g2, g3⟩
    · have HT3 : Hid (t.take1 kd = t.take?.2.fail 13) := Lib.hid (by unfold VS.take1; rw [if_neg hkk])
      obtain ⟨kt, hkt⟩ : ∃ kt, kt = t.take?.1 := ⟨_, rfl⟩
      rw [← hkt] at hkk ⊢
      clear hkt
      gi_wp2
      refine ⟨trivial, (CallsIn.inRound (D + 1) (callsIn_wide.2 HF.out)).mono ?_⟩
      rintro e A3 ⟨rfl, hs3⟩
      have HS3 := Lib.hid hs3
      clear hs3
      gi_wp2
      obtain ⟨g1, g2, g3⟩ := HEND.out A3 (by rw [HT3.out]; exact HS3.out)
      exact ⟨g1, rfl, g2, g3⟩
  rintro e w5 ⟨⟨u, rfl⟩, hl5, -, hs5⟩
  refine ⟨⟨u, rfl⟩, Or.inl ⟨hl5, ?_⟩⟩
  have hk6 := keeps_putObj w5 (D + 1) (.loop (rec .exhausted none))
  have HCO := Lib.hid (hl5.turn .exhausted none).coll
  have HS6 : Hid (LkSays E W (w5.putObj (D + 1) (.loop (rec .exhausted none))) (s.takeL ks)) := Lib.hid (by
    have := HD.out
    exact ⟨hs5.lk.keeps hk6 (fun e => by have := HNE.out _ (Or.inl rfl); omega) (fun e => by have := HNE.out _ (Or.inr rfl); omega) (fun b e => by have := HNE.out _ (Or.inl rfl); have := HH.out.inn.lo; omega), hs5.kp.trans' hk6 fun b hb e => by omega⟩)
  clear hl5 hs5 hk6
  generalize w5.putObj (D + 1) (.loop (rec .exhausted none)) = w6 at *
  have hco := HCO.out
  go_wp2_with fail
  refine ⟨by simp, .inl ⟨_, _, rfl, run_takeDeferred hco, ?_⟩⟩
  have hk9 := keeps_putObj w6 D (.deferred none)
  have hd := HD.out
  refine ⟨.tuple #[], results_none rfl _ _ _, rfl, HS6.out.lk.keeps hk9 (fun e => by have := HNE.out _ (Or.inl rfl); omega) (fun e => by have := HNE.out _ (Or.inr rfl); omega) (fun b e => by have := HNE.out _ (Or.inl rfl); have := HH.out.inn.lo; omega), HS6.out.kp.trans' hk9 fun b hb e => by omega⟩
end Go.Proofs.YtlfcfaceeloedaaDoor
