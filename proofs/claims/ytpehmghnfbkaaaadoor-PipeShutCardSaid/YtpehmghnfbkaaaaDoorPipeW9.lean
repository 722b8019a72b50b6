/-
  The walk of package pipe's recv.
-/
import Derived.Test.YtpehmghnfbkaaaaDoorPipeW8
namespace Go.Proofs.YtpehmghnfbkaaaaDoor
open Go.RowKit Go.Maps Pp

theorem setNums_same {s : St} {k : Nat} {c : Ch} (hc : s.chs[k]? = some c) : setNums s k c.nums = s := by
  unfold setNums
  rw [modify_set _ hc]
  have h5 : s.chs.set k c = s.chs := by rw [← (List.getElem?_eq_some_iff.1 hc).2, List.set_getElem_self]
  show (⟨s.chs.set k c, s.asks⟩ : St) = s
  rw [h5]
theorem setNums_get {s : St} {k : Nat} {c : Ch} (hc : s.chs[k]? = some c) (nums : List Int) : (setNums s k nums).chs[k]? = some { c with nums := nums } := by
  have hk := (List.getElem?_eq_some_iff.1 hc).1
  unfold setNums
  rw [modify_set _ hc, List.getElem?_set_self hk]

set_option maxRecDepth 100000 in
set_option maxHeartbeats 12800000 in
theorem recv_any {w : World} {ρ : Nat → Role} {pb : Nat} {vch : Value} {ptr : List Nat} {mb : Option Nat} {D : DataW Value} {N M : Nat} {s : St} (h : PipesAt w ρ pb vch ptr mb D N M s) (ok : Ok s) (hM : M ≤ 1000000) {k cb : Nat} {c : Ch}
    (hcb : ptr[k]? = some cb) (hc : s.chs[k]? = some c) :
    Calls Tryd.prog 47 #[.pointer (some ⟨pb, 0, none⟩), .pointer (some ⟨cb, 0, none⟩)] w fun e w' => ∃ vw, e = .returned (.tuple #[.int .i64 (Pp.recv s k c).n, vw, errV (Pp.recv s k c).err]) ∧ GotAt w w' ρ pb vch ptr mb N M (Pp.recv s k c) vw := by
  obtain ⟨rb, sb, v1, v2, hx⟩ := h.chs k cb c hcb hc
  obtain ⟨a1, k1, rfl, _, _⟩ := hx.r1.slice
  obtain ⟨size, nums, shut, sends, recvs⟩ := c
  have c2 := hx.c2
  have c0 := hx.c0
  simp only at c2
  have HH := Lib.hid h
  have HX := Lib.hid hx
  have HCB := Lib.hid hcb
  have HC := Lib.hid hc
  have HOK := Lib.hid ok
  clear h hx hcb hc ok
  cases sends with
  | nil =>
    have c2' : w.cell? ⟨cb, 2, none⟩ = some (.slice a1 0 k1) := c2
    clear c2
    cases nums with
    | nil =>
      have hv : Pp.recv s k ⟨size, [], shut, [], recvs⟩ = ⟨s, 0, [], 0⟩ := rfl
      rw [hv]
      have HP := Lib.hid (lpopI_none HX.out.ring)
      clear hv
      go_enter Tryd.func47, Tryd.ntmps47
      go_wp2_with fail
      refine HP.out.mono ?_
      rintro e w2 ⟨rfl, hr2, hk2⟩
      have HR2 := Lib.hid hr2
      have HK2 := Lib.hid hk2
      have d2 := (HX.out.nums hk2 hr2).c2
      have d2' : w2.cell? ⟨cb, 2, none⟩ = some (.slice a1 0 k1) := d2
      clear hr2 hk2 d2
      go_wp2_with fail
      go_ret3
      have h3 := HH.out.nums HCB.out HC.out HX.out HK2.out HR2.out
      have h4 : setNums s k [] = s := setNums_same HC.out
      rw [h4] at h3
      exact ⟨_, rfl, ⟨_, h3⟩, World.ownsRow_nil _ _ _ _, keeps_two HX.out HK2.out⟩
    | cons x r =>
      have hv : Pp.recv s k ⟨size, x :: r, shut, [], recvs⟩ = ⟨setNums s k r, x, [], 0⟩ := rfl
      rw [hv]
      have HP := Lib.hid (lpopI_ok HX.out.ring)
      clear hv
      go_enter Tryd.func47, Tryd.ntmps47
      go_wp2_with fail
      refine HP.out.mono ?_
      rintro e w2 ⟨rfl, hr2, hk2⟩
      have HR2 := Lib.hid hr2
      have HK2 := Lib.hid hk2
      have d2 := (HX.out.nums hk2 hr2).c2
      have d2' : w2.cell? ⟨cb, 2, none⟩ = some (.slice a1 0 k1) := d2
      clear hr2 hk2 d2
      go_wp2_with fail
      go_ret3
      exact ⟨_, rfl, ⟨_, HH.out.nums HCB.out HC.out HX.out HK2.out HR2.out⟩, World.ownsRow_nil _ _ _ _, keeps_two HX.out HK2.out⟩
  | cons y ys =>
    obtain ⟨t, kk⟩ := y
    have hlen : ((t, kk) :: ys).length = ys.length + 1 := rfl
    simp only [hlen] at c2
    obtain ⟨l, x, hl, hlx, hx2, hx3⟩ := HOK.out.sends k _ HC.out (t, kk) List.mem_cons_self
    simp only at hl hlx
    have hsent : sent s (t, kk) = x.n := by unfold sent; simp [hl, hlx]
    have HL := Lib.hid hl
    have HLX := Lib.hid hlx
    have HSENT := Lib.hid hsent
    have hkl := (List.getElem?_eq_some_iff.1 hlx).1
    obtain ⟨g, rfl, -, -, -, hg, -⟩ := HX.out.r1.addr (by simp)
    clear hlen hl hlx hsent hx2 hx3 hg
    cases nums with
    | nil =>
      have hv : Pp.recv s k ⟨size, [], shut, (t, kk) :: ys, recvs⟩ = ⟨wake s t, sent s (t, kk), [⟨t, kk, 0⟩], 0⟩ := rfl
      rw [hv, HSENT.out]
      have HP := Lib.hid (lpopI_none HX.out.ring)
      have hcaps := HOK.out.caps k _ HC.out
      simp only at hcaps
      have HCAPS := Lib.hid hcaps
      clear hv hcaps
      go_enter Tryd.func47, Tryd.ntmps47
      go_wp2_with fail
      refine HP.out.mono ?_
      rintro e w1 ⟨rfl, hr2, hk2⟩
      have hx1 := HX.out.nums hk2 hr2
      have d2 : w1.cell? ⟨cb, 2, none⟩ = some (.slice (some ⟨g, 0, none⟩) (ys.length + 1) k1) := hx1.c2
      obtain ⟨y1, y2⟩ := hx1.r1.cell (i := 0) (x := (t, kk)) rfl
      simp only [Nat.zero_mul, Nat.zero_add] at y1 y2
      have h3 : PipesAt w1 ρ pb vch ptr mb D N M s := by
        have := HH.out.nums HCB.out HC.out HX.out hk2 hr2
        rwa [show setNums s k [] = s from setNums_same HC.out] at this
      have HK1 := Lib.hid (keeps_two HX.out hk2)
      have hpos : ¬ (((ys.length + 1 : Nat) : Int) = 0) := by omega
      have hpb : (((ys.length + 1 : Nat) : Int) == 0) = false := by rw [beq_eq_false_iff_ne]; exact hpos
      have hka : Keeps (fun _ => False) w1 (w1.alloc (.cells #[.int .i64 t, .int .i64 (kk : Int)] 90)) := (Keeps.refl _ w1).alloc _
      have h4 := h3.keeps hka fun _ _ e => e.elim
      have HLS : Hid (s.asks t = some l) := HL
      obtain ⟨b, v, rfl, hb, hwf, htk, hvo, hown, hlook⟩ := h4.look HLS.out
      obtain ⟨ao, cap, rfl, hc1, hc2⟩ := htk.slice
      obtain ⟨tb, o, rfl, htb, _, _, t3⟩ := htk.at HLX.out
      have q0 : (w1.alloc (.cells #[.int .i64 t, .int .i64 (kk : Int)] 90)).cell? ⟨w1.heap.size, 0, none⟩ = some (.int .i64 t) := by rw [World.cell?_alloc_at _ _ _ _ rfl]; rfl
      have q1 : (w1.alloc (.cells #[.int .i64 t, .int .i64 (kk : Int)] 90)).cell? ⟨w1.heap.size, 1, none⟩ = some (.int .i64 (kk : Int)) := by rw [World.cell?_alloc_at _ _ _ _ rfl]; rfl
      have p1 := h4.c1
      have hlk : ∀ z, (Instr.lookup 29 (.map (some b)) (.int .i64 t) false).run Tryd.prog ((w1.alloc (.cells #[.int .i64 t, .int .i64 (kk : Int)] 90)).drewN z) = .ok (.slice (some ⟨tb, o, none⟩) l.length cap) ((w1.alloc (.cells #[.int .i64 t, .int .i64 (kk : Int)] 90)).drewN z) :=
        fun z => hlook _ _ ((keeps_drewN (Keeps.refl (fun _ => False) _) z).map hown id)
      have H4 := Lib.hid h4
      have HKA := Lib.hid (HK1.out.trans' hka fun _ _ e => e.elim)
      have hki : (0 : Int) ≤ (kk : Int) ∧ (kk : Int) < (l.length : Int) := by omega
      clear hr2 hk2 hx1 h3 h4 htk hown hlook htb hb hvo hwf
      obtain ⟨xw, xc, xn⟩ := x
      simp only at t3 ⊢
      generalize ys.length = m at *
      go_upto_region 5 with fail
      clear d2 y1 y2 c2 c0
      obtain ⟨B1, hB1⟩ : ∃ B1, B1 = w1.heap.size := ⟨_, rfl⟩
      rw [← hB1] at q0 q1 ⊢
      clear hB1 hka
      generalize w1.alloc (.cells #[.int .i64 t, .int .i64 (kk : Int)] 90) = w3 at *
      go_quiet (fail)
      have H5 : Hid (PipesAt (w3.drewN nq) ρ pb vch ptr (some b) D N M s) := Lib.hid (H4.out.keeps (keeps_drewN (Keeps.refl (fun _ => False) w3) nq) fun _ _ e => e.elim)
      have HK5 : Hid (Keeps (fun b => ρ b ≠ Role.free) w (w3.drewN nq)) := Lib.hid (keeps_drewN HKA.out nq)
      have r0 : (w3.drewN nq).cell? ⟨B1, 0, none⟩ = some (.int .i64 t) := q0
      have r1 : (w3.drewN nq).cell? ⟨B1, 1, none⟩ = some (.int .i64 (kk : Int)) := q1
      clear H4 HKA q0 q1 p1 hlk t3
      generalize w3.drewN nq = w5 at *
      have HG5 : Hid (∀ x ∈ l, x.good s.chs.length) := Lib.hid (fun x hx => (HOK.out.talks _ _ HL.out).2 x hx)
      have HW := Lib.hid (wake_any H5.out hM t kk 0 HLS.out HG5.out (HOK.out.talks _ _ HL.out).1)
      go_wp2_with fail
      refine HW.out.mono ?_
      rintro e w6 ⟨rfl, ⟨D6, h6⟩, hk6⟩
      have hkb : Keeps (fun _ => False) w6 (w6.alloc (.cells #[.int .i64 t, .int .i64 (kk : Int), .int .i64 0] 65)) := (Keeps.refl _ w6).alloc _
      have H7 : Hid (PipesAt (w6.alloc (.cells #[.int .i64 t, .int .i64 (kk : Int), .int .i64 0] 65)) ρ pb vch ptr (some b) D6 N M (wake s t)) := Lib.hid (h6.keeps hkb fun _ _ e => e.elim)
      have HK7 : Hid (Keeps (fun b => ρ b ≠ Role.free) w (w6.alloc (.cells #[.int .i64 t, .int .i64 (kk : Int), .int .i64 0] 65))) := Lib.hid ((HK5.out.trans hk6).trans' hkb fun _ _ e => e.elim)
      have HWK : Hid ((w6.alloc (.cells #[.int .i64 t, .int .i64 (kk : Int), .int .i64 0] 65)).ownsRow w.heap.size 65 3 (.slice (some ⟨w6.heap.size, 0, none⟩) 1 1) 1 (cellsK [⟨t, kk, 0⟩])) := Lib.hid (own_one w6 (Nat.le_trans HK5.out.size hk6.size) ⟨t, kk, 0⟩)
      clear h6 hk6 hkb r0 r1
      go_wp2_with fail
      go_ret3
      exact ⟨_, rfl, ⟨D6, H7.out⟩, HWK.out, HK7.out⟩
    | cons x0 r =>
      have hv : Pp.recv s k ⟨size, x0 :: r, shut, (t, kk) :: ys, recvs⟩ = ⟨setNums (wake (setNums s k r) t) k (r ++ [sent s (t, kk)]), x0, [⟨t, kk, 0⟩], 0⟩ := rfl
      rw [hv, HSENT.out]
      have HP := Lib.hid (lpopI_ok HX.out.ring)
      have hcaps := HOK.out.caps k _ HC.out
      simp only at hcaps
      have HCAPS := Lib.hid hcaps
      clear hv hcaps
      go_enter Tryd.func47, Tryd.ntmps47
      go_wp2_with fail
      refine HP.out.mono ?_
      rintro e w1 ⟨rfl, hr2, hk2⟩
      have hx1 := HX.out.nums hk2 hr2
      have d2 : w1.cell? ⟨cb, 2, none⟩ = some (.slice (some ⟨g, 0, none⟩) (ys.length + 1) k1) := hx1.c2
      obtain ⟨y1, y2⟩ := hx1.r1.cell (i := 0) (x := (t, kk)) rfl
      simp only [Nat.zero_mul, Nat.zero_add] at y1 y2
      have h3 : PipesAt w1 ρ pb vch ptr mb D N M (setNums s k r) := HH.out.nums HCB.out HC.out HX.out hk2 hr2
      have HK1 := Lib.hid (keeps_two HX.out hk2)
      have hpos : ¬ (((ys.length + 1 : Nat) : Int) = 0) := by omega
      have hpb : (((ys.length + 1 : Nat) : Int) == 0) = false := by rw [beq_eq_false_iff_ne]; exact hpos
      have hka : Keeps (fun _ => False) w1 (w1.alloc (.cells #[.int .i64 t, .int .i64 (kk : Int)] 90)) := (Keeps.refl _ w1).alloc _
      have h4 := h3.keeps hka fun _ _ e => e.elim
      have HLS : Hid ((setNums s k r).asks t = some l) := HL
      obtain ⟨b, v, rfl, hb, hwf, htk, hvo, hown, hlook⟩ := h4.look HLS.out
      obtain ⟨ao, cap, rfl, hc1, hc2⟩ := htk.slice
      obtain ⟨tb, o, rfl, htb, _, _, t3⟩ := htk.at HLX.out
      have q0 : (w1.alloc (.cells #[.int .i64 t, .int .i64 (kk : Int)] 90)).cell? ⟨w1.heap.size, 0, none⟩ = some (.int .i64 t) := by rw [World.cell?_alloc_at _ _ _ _ rfl]; rfl
      have q1 : (w1.alloc (.cells #[.int .i64 t, .int .i64 (kk : Int)] 90)).cell? ⟨w1.heap.size, 1, none⟩ = some (.int .i64 (kk : Int)) := by rw [World.cell?_alloc_at _ _ _ _ rfl]; rfl
      have p1 := h4.c1
      have hlk : ∀ z, (Instr.lookup 29 (.map (some b)) (.int .i64 t) false).run Tryd.prog ((w1.alloc (.cells #[.int .i64 t, .int .i64 (kk : Int)] 90)).drewN z) = .ok (.slice (some ⟨tb, o, none⟩) l.length cap) ((w1.alloc (.cells #[.int .i64 t, .int .i64 (kk : Int)] 90)).drewN z) :=
        fun z => hlook _ _ ((keeps_drewN (Keeps.refl (fun _ => False) _) z).map hown id)
      have H4 := Lib.hid h4
      have HKA := Lib.hid (HK1.out.trans' hka fun _ _ e => e.elim)
      have hki : (0 : Int) ≤ (kk : Int) ∧ (kk : Int) < (l.length : Int) := by omega
      clear hr2 hk2 hx1 h3 h4 htk hown hlook htb hb hvo hwf
      obtain ⟨xw, xc, xn⟩ := x
      simp only at t3 ⊢
      generalize ys.length = m at *
      go_upto_region 5 with fail
      clear d2 y1 y2 c2 c0
      obtain ⟨B1, hB1⟩ : ∃ B1, B1 = w1.heap.size := ⟨_, rfl⟩
      rw [← hB1] at q0 q1 ⊢
      clear hB1 hka
      generalize w1.alloc (.cells #[.int .i64 t, .int .i64 (kk : Int)] 90) = w3 at *
      go_quiet (fail)
      have H5 : Hid (PipesAt (w3.drewN nq) ρ pb vch ptr (some b) D N M (setNums s k r)) := Lib.hid (H4.out.keeps (keeps_drewN (Keeps.refl (fun _ => False) w3) nq) fun _ _ e => e.elim)
      have HK5 : Hid (Keeps (fun b => ρ b ≠ Role.free) w (w3.drewN nq)) := Lib.hid (keeps_drewN HKA.out nq)
      have r0 : (w3.drewN nq).cell? ⟨B1, 0, none⟩ = some (.int .i64 t) := q0
      have r1 : (w3.drewN nq).cell? ⟨B1, 1, none⟩ = some (.int .i64 (kk : Int)) := q1
      clear H4 HKA q0 q1 p1 hlk t3
      generalize w3.drewN nq = w5 at *
      have HG5 : Hid (∀ x ∈ l, x.good (setNums s k r).chs.length) := Lib.hid (fun x hx => by
        unfold setNums
        rw [List.length_modify]
        exact (HOK.out.talks _ _ HL.out).2 x hx)
      have HW := Lib.hid (wake_any H5.out hM t kk 0 HLS.out HG5.out (HOK.out.talks _ _ HL.out).1)
      go_wp2_with fail
      refine HW.out.mono ?_
      rintro e w6 ⟨rfl, ⟨D6, h6⟩, hk6⟩
      have hkb : Keeps (fun _ => False) w6 (w6.alloc (.cells #[.int .i64 t, .int .i64 (kk : Int), .int .i64 0] 65)) := (Keeps.refl _ w6).alloc _
      have H7 : Hid (PipesAt (w6.alloc (.cells #[.int .i64 t, .int .i64 (kk : Int), .int .i64 0] 65)) ρ pb vch ptr (some b) D6 N M (wake (setNums s k r) t)) := Lib.hid (h6.keeps hkb fun _ _ e => e.elim)
      have HK7 : Hid (Keeps (fun b => ρ b ≠ Role.free) w (w6.alloc (.cells #[.int .i64 t, .int .i64 (kk : Int), .int .i64 0] 65))) := Lib.hid ((HK5.out.trans hk6).trans' hkb fun _ _ e => e.elim)
      have HWK : Hid ((w6.alloc (.cells #[.int .i64 t, .int .i64 (kk : Int), .int .i64 0] 65)).ownsRow w.heap.size 65 3 (.slice (some ⟨w6.heap.size, 0, none⟩) 1 1) 1 (cellsK [⟨t, kk, 0⟩])) := Lib.hid (own_one w6 (Nat.le_trans HK5.out.size hk6.size) ⟨t, kk, 0⟩)
      have HOFF : Hid (¬ ρ w6.heap.size ≠ .free) := Lib.hid fun e => by
        have := h6.dom _ e
        omega
      clear h6 hk6 hkb r0 r1
      obtain ⟨c7, hc7, hless⟩ := strike_get (task := t) (l := l) (fun x hx => (HG5.out x hx).1.1) (setNums_get HC.out r)
      have hc7' : (wake (setNums s k r) t).chs[k]? = some c7 := by rw [wake_some HLS.out]; exact hc7
      obtain ⟨rb7, sb7, v17, v27, hx7⟩ := H7.out.chs k cb c7 HCB.out hc7'
      have e0 := hx7.c0
      have hnums : c7.nums = r := hless.nums
      have hsize : c7.size = size := hless.size
      have hring := hx7.ring
      rw [hnums] at hring
      have HP7 := Lib.hid (lpushI_ok hring (by rw [hsize]; have := HCAPS.out.2; rw [List.length_cons] at this; omega) xn)
      have HX7 := Lib.hid hx7
      have HC7 := Lib.hid hc7'
      clear hx7 hring hnums hsize hc7 hc7' hless
      go_wp2_with fail
      refine HP7.out.mono ?_
      rintro e w8 ⟨rfl, hr8, hk8⟩
      have HR8 := Lib.hid hr8
      have HK8 := Lib.hid hk8
      clear hr8 hk8
      go_wp2_with fail
      go_ret3
      refine ⟨_, rfl, ⟨D6, H7.out.nums HCB.out HC7.out HX7.out HK8.out HR8.out⟩, ?_, HK7.out.trans (keeps_two HX7.out HK8.out)⟩
      refine HK8.out.row HWK.out fun g hg e => ?_
      cases hg
      have h9 := HOFF.out
      rcases e with e | e
      · have := HX7.out.p1; rw [← e] at this; exact h9 (by rw [this]; simp)
      · have := HX7.out.p2; rw [← e] at this; exact h9 (by rw [this]; simp)
end Go.Proofs.YtpehmghnfbkaaaaDoor
