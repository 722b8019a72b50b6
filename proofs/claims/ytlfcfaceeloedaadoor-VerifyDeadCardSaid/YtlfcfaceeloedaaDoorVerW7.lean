/-
  The walks of slices.Backward over instructions and of the looker's takeCases.
-/
import Derived.Test.YtlfcfaceeloedaaDoorVerW6
namespace Go.Proofs.YtlfcfaceeloedaaDoor
open Go.RowKit Go.Shelf Cd Ve
attribute [local go_sem] Oper.semAt_some
variable {E : LE} {W : World} {s : VS}

set_option maxRecDepth 100000 in
set_option maxHeartbeats 1600000 in
theorem bwdN_in (n : Nat) (l sb : Nat) (L : List In) (v : Value) (S : Nat → Prop) (hS : ¬ S sb) (hO : 0 < L.length → Off v S) (J : Nat → World → Prop)
    (hY : ∀ (k : Nat) (A : World), k < L.length → J (k + 1) A → YieldAt Fence.wide (n - 1) Tryd.prog l #[.int .i64 (k : Nat), insV (L.getD k (0, 0))] A fun e A' => e = .returned (.bool true) ∧ J k A' ∧ Keeps S A A')
    (W : World) (hb : Box W sb v) (hv : InsAt W v L) (h0 : J L.length W) :
    CallsIn Fence.wide n Tryd.prog 117 #[.func (.yield l) #[] #[], .pointer (some ⟨sb, 0, none⟩)] W fun e W' => (∃ u, e = .returned u) ∧ J 0 W' := by
  obtain ⟨ao, m, cap, rfl, hm, hmc, hcm, hx⟩ := hv
  unfold maxLen at hcm
  have HB := Lib.hid hb
  have HX : Hid (InsAt W (.slice ao m cap) L) := Lib.hid ⟨ao, m, cap, rfl, hm, hmc, hcm, hx⟩
  have HM := Lib.hid hm
  have c1 := hb.cell
  rw [← hm] at hY h0
  clear hb hx hm
  refine callsIn_of_wp Tryd.func117 rfl trivial ?_ rfl
  simp only [Tryd.ntmps117, List.size_toArray, List.length_cons, List.length_nil, Nat.reduceAdd, Nat.reduceSub, Array.replicate_succ, Array.replicate_zero, List.push_toArray, List.append_toArray, List.nil_append, List.cons_append]
  gi_wp2
  gi_loopw [3] (fun i wr => ∃ k : Nat, k ≤ m ∧ i = .int .i64 ((k : Int) - 1) ∧ J k wr ∧ Keeps S W wr) (fun i _ => (intOf i + 1).toNat)
  case atStart => exact ⟨m, Nat.le_refl _, by go_num, h0, Keeps.refl _ _⟩
  case round =>
    obtain ⟨k, hk, rfl, hJ, hkp⟩ := hrel
    rename World => wr
    have HJ := Lib.hid hJ
    have HKP := Lib.hid hkp
    cases k with
    | zero =>
      clear hJ hkp
      gi_wp2
      go_end0
      exact ⟨⟨_, rfl⟩, HJ.out⟩
    | succ k =>
      obtain ⟨fn, tmps, assign, body, hy, hR⟩ := hY k wr (by omega) hJ
      have HRR := Lib.hid hR
      have hki : ((k + 1 : Nat) : Int) - 1 = (k : Int) := by omega
      have hki2 : (0 : Int) ≤ (k : Int) ∧ (k : Int) < (m : Int) := by omega
      have hkm : k < m := by omega
      obtain ⟨b, o, c', e9, hc1, hc2⟩ := InsAt.get HX.out (k := k) (by rw [← HM.out]; omega)
      rw [Value.slice.injEq] at e9
      obtain ⟨rfl, -, rfl⟩ := e9
      have c2 := hkp.cell_of hc1 (hO (by rw [← HM.out]; omega) b rfl)
      have c3 := hkp.cell_of hc2 (hO (by rw [← HM.out]; omega) b rfl)
      have c1' := (HB.out.keeps hkp hS).cell
      rw [hki]
      generalize L.getD k (0, 0) = x at *
      obtain ⟨xo, xn⟩ := x
      unfold insV at hy
      dsimp only at c2 c3 hy
      clear hc1 hc2 hJ hkp hR
      gi_wp2
      refine ⟨fun h => (by cases h), HRR.out.mono ?_⟩
      rintro e W3 ⟨rfl, hJ3, hk3⟩
      have HJ3 := Lib.hid hJ3
      have HK3 := Lib.hid hk3
      clear hJ3 hk3
      gi_wp2
      go_roundw
      case rel => exact ⟨k, by omega, by go_num, HJ3.out, HKP.out.trans HK3.out⟩
      case measure => simp [intOf]

theorem bwdM_any (ao : Option Addr) (m cap : Nat) (W : World) : Calls Tryd.prog 114 #[.slice ao m cap] W fun e w' =>
    e = .returned (.func (.func 117) #[] #[.pointer (some ⟨W.heap.size, 0, none⟩)]) ∧ w' = W.alloc (.cells #[.slice ao m cap] 45) := by
  go_enter Tryd.func114, Tryd.ntmps114
  go_wp2_with fail
  go_ret
  exact ⟨rfl, rfl⟩
/-- What the cases from the k-th one on have come to. -/
def casesJ (cs : List In) (s : VS) (k : Nat) : Bool × VS := (cs.drop k).foldr caseS (false, s)
theorem casesJ_drop (s : VS) (cs : List In) (k : Nat) (h : k < cs.length) : caseS (cs.getD k (0, 0)) (casesJ cs s (k + 1)) = casesJ cs s k := by
  unfold casesJ
  rw [List.drop_eq_getElem_cons h, List.getD_eq_getElem?_getD, List.getElem?_eq_getElem h]
  rfl
set_option maxRecDepth 100000 in
set_option maxHeartbeats 6400000 in
theorem takeCases_any (v : Value) (cs : List In) (h : LkAt E W s) (hv : InsAt W v cs) (hO : 0 < cs.length → Off v (LkS E)) : Calls Tryd.prog 99 #[.pointer (some ⟨E.lb, 0, none⟩), v] W fun x W' => x = .returned (.tuple #[]) ∧ LkSays E W W' (casesS cs s) := by
  have HH := Lib.hid h
  have HV := Lib.hid hv
  obtain ⟨ao, m, cap, rfl, -⟩ := hv
  have HX1 := Lib.hid (two_boxes W (.pointer (some ⟨E.lb, 0, none⟩)) (.bool false) 133 4)
  obtain ⟨w0, hw0⟩ : ∃ w0, w0 = (W.alloc (.cells #[.pointer (some ⟨E.lb, 0, none⟩)] 133)).alloc (.cells #[.bool false] 4) := ⟨_, rfl⟩
  rw [← hw0] at HX1
  have HX2 : Hid (Box (w0.alloc (.cells #[.slice ao m cap] 45)) (W.heap.size + 2) (.slice ao m cap) ∧ Keeps (fun _ => False) w0 (w0.alloc (.cells #[.slice ao m cap] 45)) ∧ (w0.alloc (.cells #[.slice ao m cap] 45)).heap.size = W.heap.size + 3) := Lib.hid ⟨Box.new' _ _ _ HX1.out.2.2.2.symm, (Keeps.refl _ _).alloc _, by rw [World.size_alloc, HX1.out.2.2.2]⟩
  clear h
  refine (callsIn_wide (n := 9)).1 (callsIn_of_wp_marks Tryd.func99 rfl trivial ?_ rfl)
  simp only [Tryd.ntmps99, List.size_toArray, List.length_cons, List.length_nil, Nat.reduceAdd, Nat.reduceSub, Array.replicate_succ, Array.replicate_zero, List.push_toArray, List.append_toArray, List.nil_append, List.cons_append]
  refine wpIn_wide.2 ?_
  go_wp2_with fail
  rw [← hw0]
  refine (bwdM_any _ _ _ _).mono ?_
  rintro e w1 ⟨rfl, hw1⟩
  rw [HX1.out.2.2.2]
  rw [← hw1] at HX2
  have HK0 : Hid (Keeps (fun _ => False) W w1) := Lib.hid (HX1.out.2.2.1.trans HX2.out.2.1)
  have HB0 : Hid (Box w1 W.heap.size (.pointer (some ⟨E.lb, 0, none⟩)) ∧ Box w1 (W.heap.size + 1) (.bool false) ∧ Box w1 (W.heap.size + 2) (.slice ao m cap)) := Lib.hid ⟨HX1.out.1.keeps HX2.out.2.1 id, HX1.out.2.1.keeps HX2.out.2.1 id, HX2.out.1⟩
  have HSZ : Hid (w1.heap.size = W.heap.size + 3) := Lib.hid HX2.out.2.2
  clear hw0 hw1 HX1 HX2
  go_wp2_with fail
  refine (wpIn_wide (n := 9)).1 (wpIn_range_T rfl (by decide) (gf := 117) (lb := #[.pointer (some ⟨W.heap.size + 2, 0, none⟩)]) rfl trivial (enters_of Tryd.func117 (by kernel_rfl) rfl) ?_)
  intro fn rec W1 hfn hrec hl0 hk1 hsz1
  obtain ⟨D, hD⟩ : ∃ D, D = w1.heap.size := ⟨_, rfl⟩
  rw [← hD] at hrec hl0 hsz1 ⊢
  have HD : Hid (D = W.heap.size + 3) := Lib.hid (by rw [hD]; exact HSZ.out)
  clear hD hsz1
  have HREC := Lib.hid hrec
  clear hrec
  have HKK : Hid (Keeps (fun _ => False) W W1) := Lib.hid (HK0.out.trans hk1)
  have hcar : (#[Value.func (.yield (D + 1)) #[] #[]] ++ #[Value.pointer (some ⟨W.heap.size + 2, 0, none⟩)] : Array Value) = #[Value.func (.yield (D + 1)) #[] #[], Value.pointer (some ⟨W.heap.size + 2, 0, none⟩)] := rfl
  rw [hcar]
  clear hcar
  have hlb := HH.out.blk.lt
  have hab := HH.out.row.lt
  have hne : ∀ b, LkS E b → b < W.heap.size := fun b e => by rcases e with rfl | rfl <;> assumption
  have HNE := Lib.hid hne
  clear hlb hab
  refine (bwdN_in (9 - 1) (D + 1) (W.heap.size + 2) cs (.slice ao m cap) (fun b => LkS E b ∨ b = D + 1 ∨ b = W.heap.size + 1) ?hS ?hO (fun k A => LoopAt A D rec .ready none ∧ Box A W.heap.size (.pointer (some ⟨E.lb, 0, none⟩)) ∧ Box A (W.heap.size + 1) (.bool (casesJ cs s k).1) ∧ LkSays E W A (casesJ cs s k).2) ?hY W1 (HB0.out.2.2.keeps hk1 id) (HV.out.keeps HKK.out fun _ _ => id) ?h0).mono ?_
  case hS =>
    have := HD.out
    rintro (e | e | e)
    · have := HNE.out _ e; omega
    · omega
    · omega
  case hO =>
    rintro hlen k hk e
    rcases e with e | e
    · exact hO hlen k hk e
    · obtain ⟨_, n', c', e1, h1, -, -, h2⟩ := HV.out
      cases e1
      have := HD.out
      obtain ⟨b, o, rfl, hb, -⟩ := h2 (by omega)
      have hbk : b = k := by injection hk
      omega
  case h0 =>
    unfold casesJ
    rw [List.drop_length]
    exact ⟨hl0, HB0.out.1.keeps hk1 id, HB0.out.2.1.keeps hk1 id, HH.out.fresh HKK.out, HKK.out.mono fun _ _ e => e.elim⟩
  case hY =>
    rintro k A hkl ⟨h1, h2, h2b, h3⟩
    obtain ⟨⟨op, n⟩, hkd⟩ : ∃ kd, kd = cs.getD k (0, 0) := ⟨_, rfl⟩
    rw [← hkd]
    obtain ⟨⟨hb, t⟩, ht⟩ : ∃ t, t = casesJ cs s (k + 1) := ⟨_, rfl⟩
    obtain ⟨⟨hb2, t2⟩, ht2⟩ : ∃ t2, t2 = casesJ cs s k := ⟨_, rfl⟩
    rw [← ht] at h3 h2b
    rw [← ht2]
    have HT1 : Hid ((hb2, t2) = caseS (op, n) (hb, t)) := Lib.hid (by rw [ht, hkd, ht2, casesJ_drop s cs k hkl])
    unfold insV
    dsimp only at h3 h2b ⊢
    clear hkd ht ht2 hkl
    refine yield_round HREC.out h1 hfn rfl ?_
    have H1 := Lib.hid h1
    clear h1
    gi_wp2
    have hka : Keeps (fun _ => False) A (A.alloc (.cells #[.int .i64 op, .int .i64 n] 37)) := (Keeps.refl _ A).alloc _
    have hx := BlkO.new A #[.int .i64 op, .int .i64 n] 37
    refine ⟨H1.out.keeps hka id id, ?_⟩
    obtain ⟨ib, hib⟩ : ∃ ib, ib = A.heap.size := ⟨_, rfl⟩
    rw [← hib] at hx ⊢
    have HA0 : Hid (LoopAt (A.alloc (.cells #[.int .i64 op, .int .i64 n] 37)) D rec .ready none) := Lib.hid (H1.out.keeps hka id id)
    have h2 := h2.keeps hka id
    have h2b := h2b.keeps hka id
    have h3 : LkSays E W (A.alloc (.cells #[.int .i64 op, .int .i64 n] 37)) t := ⟨h3.lk.fresh hka, h3.kp.trans (hka.mono fun _ _ e => e.elim)⟩
    have hAib : D + 1 < ib := by rw [hib]; exact H1.out.lt
    generalize A.alloc (.cells #[.int .i64 op, .int .i64 n] 37) = A0 at *
    have HD' := HD.out
    have hkp := keeps_putObj A0 (D + 1) (.loop (rec .busy none))
    have HLP := Lib.hid (HA0.out.turn .busy none)
    have HBX := Lib.hid (h2.keeps hkp (by omega))
    have HBB := Lib.hid (h2b.keeps hkp (by omega))
    have HIC := Lib.hid (hx.keeps hkp (by omega))
    have HLK : Hid (LkSays E W (A0.putObj (D + 1) (.loop (rec .busy none))) t) := Lib.hid ⟨h3.lk.keeps hkp (fun e => by have := HNE.out _ (Or.inl rfl); omega) (fun e => by have := HNE.out _ (Or.inr rfl); omega) (fun b e => by have := HNE.out _ (Or.inl rfl); have := HH.out.inn.lo; omega), h3.kp.trans' hkp fun b hb e => by omega⟩
    have HKP : Hid (Keeps (fun b => LkS E b ∨ b = D + 1 ∨ b = W.heap.size + 1) A (A0.putObj (D + 1) (.loop (rec .busy none)))) := Lib.hid ((hka.mono fun _ _ e => e.elim).trans (hkp.mono fun b _ e => Or.inr (Or.inl e)))
    clear h2 h2b h3 hkp H1 HD' hka hx hib hAib
    generalize A0.putObj (D + 1) (.loop (rec .busy none)) = A1 at *
    have HST : Hid (∀ A3 u, LkSays E A1 A3 u → LoopAt A3 D rec .busy none ∧ Box A3 W.heap.size (.pointer (some ⟨E.lb, 0, none⟩)) ∧ Box A3 (W.heap.size + 1) (.bool hb) ∧ LkSays E W A3 u ∧ Keeps (fun b => LkS E b ∨ b = D + 1 ∨ b = W.heap.size + 1) A A3) := Lib.hid fun A3 u h3 => by
      have hd := HD.out
      exact ⟨HLP.out.keeps h3.kp (fun e => by have := HNE.out _ e; omega) (fun e => by have := HNE.out _ e; omega), HBX.out.keeps h3.kp (fun e => by have := HNE.out _ e; omega), HBB.out.keeps h3.kp (fun e => by have := HNE.out _ e; omega), HLK.out.trans h3, HKP.out.trans (h3.kp.mono fun b _ e => Or.inl e)⟩
    have HEND : Hid (∀ A3, LoopAt A3 D rec .busy none → Box A3 W.heap.size (.pointer (some ⟨E.lb, 0, none⟩)) → Box A3 (W.heap.size + 1) (.bool hb2) → LkSays E W A3 t2 → Keeps (fun b => LkS E b ∨ b = D + 1 ∨ b = W.heap.size + 1) A A3 →
        LoopAt A3 D rec .busy none ∧ ((LoopAt (A3.putObj (D + 1) (.loop (rec .ready none))) D rec .ready none ∧ Box (A3.putObj (D + 1) (.loop (rec .ready none))) W.heap.size (.pointer (some ⟨E.lb, 0, none⟩)) ∧ Box (A3.putObj (D + 1) (.loop (rec .ready none))) (W.heap.size + 1) (.bool hb2) ∧ LkSays E W (A3.putObj (D + 1) (.loop (rec .ready none))) t2) ∧ Keeps (fun b => LkS E b ∨ b = D + 1 ∨ b = W.heap.size + 1) A (A3.putObj (D + 1) (.loop (rec .ready none))))) := Lib.hid fun A3 h1 h2 h3 h4 h5 => by
      have hk := keeps_putObj A3 (D + 1) (.loop (rec .ready none))
      have hd := HD.out
      refine ⟨h1, ⟨h1.turn .ready none, h2.keeps hk (by omega), h3.keeps hk (by omega), ?_⟩, h5.trans (hk.mono fun b _ e => Or.inr (Or.inl e))⟩
      exact ⟨h4.lk.keeps hk (fun e => by have := HNE.out _ (Or.inl rfl); omega) (fun e => by have := HNE.out _ (Or.inr rfl); omega) (fun b e => by have := HNE.out _ (Or.inl rfl); have := HH.out.inn.lo; omega), h4.kp.trans' hk fun b hb e => by omega⟩
    have i0 := HIC.out.at_ 0 _ rfl
    have b0 := HBX.out.cell
    have bb0 := HBB.out.cell
    have bb1 := HBB.out.free
    have hk : op = 24 ∨ op = 25 ∨ op = 26 ∨ (¬ op = 24 ∧ ¬ op = 25 ∧ ¬ op = 26) := by omega
    rcases hk with rfl | rfl | rfl | ⟨e1, e2, e3⟩
    · have HE : Hid (hb2 = hb ∧ t2 = t.takeL [3, 1]) := Lib.hid (Prod.mk.inj HT1.out)
      clear HT1
      have HP := Lib.hid (take2_any 3 1 HLK.out.lk)
      gi_wp2
      refine ⟨trivial, (CallsIn.inRound (D + 1) (callsIn_wide.2 HP.out)).mono ?_⟩
      rintro e A3 ⟨rfl, hs3⟩
      have HS3 := Lib.hid (HST.out A3 _ hs3)
      clear hs3
      gi_wp2
      obtain ⟨q1, q2, q3, q4, q5⟩ := HS3.out
      obtain ⟨g1, g2, g3⟩ := HEND.out A3 q1 q2 (by rw [HE.out.1]; exact q3) (by rw [HE.out.2]; exact q4) q5
      exact ⟨g1, rfl, g2, g3⟩
    · have HE : Hid (hb2 = hb ∧ t2 = t.take1 3) := Lib.hid (Prod.mk.inj HT1.out)
      clear HT1
      have HP := Lib.hid (take1_any 3 HLK.out.lk)
      gi_wp2
      refine ⟨trivial, (CallsIn.inRound (D + 1) (callsIn_wide.2 HP.out)).mono ?_⟩
      rintro e A3 ⟨rfl, hs3⟩
      have HS3 := Lib.hid (HST.out A3 _ hs3)
      clear hs3
      gi_wp2
      obtain ⟨q1, q2, q3, q4, q5⟩ := HS3.out
      obtain ⟨g1, g2, g3⟩ := HEND.out A3 q1 q2 (by rw [HE.out.1]; exact q3) (by rw [HE.out.2]; exact q4) q5
      exact ⟨g1, rfl, g2, g3⟩
    · cases hb with
      | true =>
        have HE : Hid (hb2 = true ∧ t2 = t.fail 9) := Lib.hid (Prod.mk.inj HT1.out)
        clear HT1
        have HP := Lib.hid (fail_any 9 HLK.out.lk)
        gi_wp2
        refine ⟨trivial, (CallsIn.inRound (D + 1) (callsIn_wide.2 HP.out)).mono ?_⟩
        rintro e A3 ⟨rfl, hs3⟩
        have HS3 := Lib.hid (HST.out A3 _ hs3)
        clear hs3
        have k0 := HS3.out.2.2.1.cell
        have k1 := HS3.out.2.2.1.free
        gi_wp2
        obtain ⟨q1, q2, q3, q4, q5⟩ := HS3.out
        have hks := keeps_set A3 (W.heap.size + 1) (.bool true)
        have hd := HD.out
        obtain ⟨g1, g2, g3⟩ := HEND.out (A3.setCell ⟨W.heap.size + 1, 0, none⟩ (.bool true)) (q1.keeps hks (by omega) (by omega)) (q2.keeps hks (by omega)) (by rw [HE.out.1]; exact q3.set _) (by rw [HE.out.2]; exact ⟨q4.lk.keeps hks (fun e => by have := HNE.out _ (Or.inl rfl); omega) (fun e => by have := HNE.out _ (Or.inr rfl); omega) (fun b e => by have := HNE.out _ (Or.inl rfl); have := HH.out.inn.lo; omega), q4.kp.trans' hks fun b hb e => by omega⟩) (q5.trans (hks.mono fun b _ e => Or.inr (Or.inr e)))
        exact ⟨g1, rfl, g2, g3⟩
      | false =>
        have HE : Hid (hb2 = true ∧ t2 = t) := Lib.hid (Prod.mk.inj HT1.out)
        clear HT1
        have HS3 := Lib.hid (HST.out A1 t ⟨HLK.out.lk, Keeps.refl _ _⟩)
        gi_wp2
        obtain ⟨q1, q2, q3, q4, q5⟩ := HS3.out
        have hks := keeps_set A1 (W.heap.size + 1) (.bool true)
        have hd := HD.out
        obtain ⟨g1, g2, g3⟩ := HEND.out (A1.setCell ⟨W.heap.size + 1, 0, none⟩ (.bool true)) (q1.keeps hks (by omega) (by omega)) (q2.keeps hks (by omega)) (by rw [HE.out.1]; exact q3.set _) (by rw [HE.out.2]; exact ⟨q4.lk.keeps hks (fun e => by have := HNE.out _ (Or.inl rfl); omega) (fun e => by have := HNE.out _ (Or.inr rfl); omega) (fun b e => by have := HNE.out _ (Or.inl rfl); have := HH.out.inn.lo; omega), q4.kp.trans' hks fun b hb e => by omega⟩) (q5.trans (hks.mono fun b _ e => Or.inr (Or.inr e)))
        exact ⟨g1, rfl, g2, g3⟩
    · have HE : Hid (hb2 = hb ∧ t2 = t.fail 3) := Lib.hid (by
        have := HT1.out
        unfold caseS at this
        dsimp only at this
        rw [if_neg e1, if_neg e2, if_neg e3] at this
        exact Prod.mk.inj this)
      clear HT1
      have HP := Lib.hid (fail_any 3 HLK.out.lk)
      gi_wp2
      refine ⟨trivial, (CallsIn.inRound (D + 1) (callsIn_wide.2 HP.out)).mono ?_⟩
      rintro e A3 ⟨rfl, hs3⟩
      have HS3 := Lib.hid (HST.out A3 _ hs3)
      clear hs3
      gi_wp2
      obtain ⟨q1, q2, q3, q4, q5⟩ := HS3.out
      obtain ⟨g1, g2, g3⟩ := HEND.out A3 q1 q2 (by rw [HE.out.1]; exact q3) (by rw [HE.out.2]; exact q4) q5
      exact ⟨g1, rfl, g2, g3⟩
  rintro e w5 ⟨⟨u, rfl⟩, hl5, -, -, hs5⟩
  refine ⟨⟨u, rfl⟩, Or.inl ⟨hl5, ?_⟩⟩
  have hk6 := keeps_putObj w5 (D + 1) (.loop (rec .exhausted none))
  have HCO := Lib.hid (hl5.turn .exhausted none).coll
  have HS6 : Hid (LkSays E W (w5.putObj (D + 1) (.loop (rec .exhausted none))) (casesS cs s)) := Lib.hid (by
    have := HD.out
    exact ⟨hs5.lk.keeps hk6 (fun e => by have := HNE.out _ (Or.inl rfl); omega) (fun e => by have := HNE.out _ (Or.inr rfl); omega) (fun b e => by have := HNE.out _ (Or.inl rfl); have := HH.out.inn.lo; omega), hs5.kp.trans' hk6 fun b hb e => by omega⟩)
  clear hl5 hs5 hk6
  generalize w5.putObj (D + 1) (.loop (rec .exhausted none)) = w6 at *
  have hco := HCO.out
  go_wp2_with fail
  refine ⟨by simp, .inl ⟨_, _, rfl, run_takeDeferred hco, ?_⟩⟩
  have hk9 := keeps_putObj w6 D (.deferred none)
  have hd := HD.out
  refine ⟨.tuple #[], results_none rfl _ _ _, rfl, HS6.out.lk.keeps hk9 (fun e => by have := HNE.out _ (Or.inl rfl); omega) (fun e => by have := HNE.out _ (Or.inr rfl); omega) (fun b e => by have := HNE.out _ (Or.inl rfl); have := HH.out.inn.lo; omega), HS6.out.kp.trans' hk9 fun b hb e => by omega⟩
end Go.Proofs.YtlfcfaceeloedaaDoor
