/-
  The walk of package pipe's Close.
-/
import Derived.Test.YtpehmghnfbkaaaaDoorPipeCA
import Derived.Test.YtpehmghnfbkaaaaDoorPipeL
import Derived.Deep.Cut
import Derived.BigQuiet
namespace Go.Proofs.YtpehmghnfbkaaaaDoor
open Go.RowKit Go.Maps Pp

/-- What comes of a close. -/
structure CloseP (w w' : World) (ρ : Nat → Role) (pb N : Nat) (g : Got) (vw : Value) : Prop where
  pipes : ∃ ρ', Pipes w' ρ' pb N g.st ∧ (∀ b, ρ' b ≠ .free → ρ b ≠ .free) ∧ ∀ b, vw.ownBlock = some b → ρ' b = .free
  wk : w'.ownsRow w.heap.size 65 3 vw g.wakes.length (cellsK g.wakes)
  keep : Keeps (fun b => ρ b ≠ .free) w w'
/-- So many of a row were gone through. -/
structure CloseJ (w3 wr : World) (ρ1 : Nat → Role) (pb : Nat) (vch : Value) (ptr : List Nat) (mb : Option Nat) (N M : Nat) (s1 : St) (row : List (Int × Nat)) (i : Nat) (av : Value) : Prop where
  at_ : ∃ D', PipesAt wr ρ1 pb vch ptr mb D' N M (wakeAll s1 (row.take i)).1
  wk : wr.ownsRow w3.heap.size 65 3 av (wakeAll s1 (row.take i)).2.length (cellsK (wakeAll s1 (row.take i)).2)
  keep : Keeps (fun b => ρ1 b ≠ .free) w3 wr
theorem wakeAll_len : ∀ (r : List (Int × Nat)) (s : St), (wakeAll s r).2.length ≤ r.length := by
  intro r
  induction r with
  | nil => intro s; exact Nat.le_refl _
  | cons w r ih =>
    intro s
    rw [wakeAll]
    split
    · have := ih (wake s w.1)
      simp only [List.length_cons]
      omega
    · have := ih s
      simp only [List.length_cons]
      omega
theorem wakeAll_take {s : St} {row : List (Int × Nat)} {i : Nat} {x : Int × Nat} (hx : row[i]? = some x) : wakeAll s (row.take (i + 1)) = if ((wakeAll s (row.take i)).1.asks x.1).isSome then (wake (wakeAll s (row.take i)).1 x.1, (wakeAll s (row.take i)).2 ++ [⟨x.1, x.2, 0⟩]) else wakeAll s (row.take i) := by
  have hi := (List.getElem?_eq_some_iff.1 hx).1
  rw [List.take_succ_eq_append_getElem hi, (List.getElem?_eq_some_iff.1 hx).2, wakeAll_snoc]
theorem CloseJ.same {w3 wr w' : World} {ρ1 : Nat → Role} {pb : Nat} {vch : Value} {ptr : List Nat} {mb : Option Nat} {N M : Nat} {s1 : St} {row : List (Int × Nat)} {i : Nat} {av : Value} {x : Int × Nat} (h : CloseJ w3 wr ρ1 pb vch ptr mb N M s1 row i av) (hx : row[i]? = some x)
    (ha : ((wakeAll s1 (row.take i)).1.asks x.1).isSome = false) (hk : Keeps (fun _ => False) wr w') : CloseJ w3 w' ρ1 pb vch ptr mb N M s1 row (i + 1) av := by
  have he : wakeAll s1 (row.take (i + 1)) = wakeAll s1 (row.take i) := by rw [wakeAll_take hx, if_neg (by rw [ha]; decide)]
  obtain ⟨D', h1⟩ := h.at_
  exact ⟨⟨D', by rw [he]; exact h1.keeps hk fun _ _ e => e.elim⟩, by rw [he]; exact hk.row h.wk fun _ _ => id, h.keep.trans (hk.mono fun _ _ e => e.elim)⟩
theorem CloseJ.more {w3 w6 : World} {ρ1 : Nat → Role} {pb : Nat} {vch : Value} {ptr : List Nat} {mb : Option Nat} {N M : Nat} {s1 : St} {row : List (Int × Nat)} {i : Nat} {av' : Value} {x : Int × Nat} {D' : DataW Value} (hx : row[i]? = some x)
    (ha : ((wakeAll s1 (row.take i)).1.asks x.1).isSome = true) (hp : PipesAt w6 ρ1 pb vch ptr mb D' N M (wake (wakeAll s1 (row.take i)).1 x.1))
    (hr : w6.ownsRow w3.heap.size 65 3 av' ((wakeAll s1 (row.take i)).2 ++ [Wk.mk x.1 x.2 0]).length (cellsK ((wakeAll s1 (row.take i)).2 ++ [Wk.mk x.1 x.2 0]))) (hk : Keeps (fun b => ρ1 b ≠ .free) w3 w6) : CloseJ w3 w6 ρ1 pb vch ptr mb N M s1 row (i + 1) av' := by
  have he : wakeAll s1 (row.take (i + 1)) = (wake (wakeAll s1 (row.take i)).1 x.1, (wakeAll s1 (row.take i)).2 ++ [⟨x.1, x.2, 0⟩]) := by rw [wakeAll_take hx, if_pos ha]
  exact ⟨⟨D', by rw [he]; exact hp⟩, by rw [he]; exact hr, hk⟩
theorem CloseP.same {w : World} {ρ : Nat → Role} {pb N : Nat} {s : St} (h : Pipes w ρ pb N s) (er : Int) : CloseP w w ρ pb N ⟨s, 0, [], er⟩ (.slice none 0 0) :=
  ⟨⟨ρ, h, fun _ e => e, fun b hb => by cases hb⟩, World.ownsRow_nil _ _ _ _, Keeps.refl _ _⟩

set_option maxRecDepth 100000 in
set_option maxHeartbeats 6400000 in
theorem close_any {w : World} {ρ : Nat → Role} {pb N : Nat} {s : St} (h : Pipes w ρ pb N s) (hN : N ≤ 100000) (c : Int) :
    Calls Tryd.prog 12 #[.pointer (some ⟨pb, 0, none⟩), .int .i64 c] w fun e w' => ∃ vw, e = .returned (.tuple #[vw, errV (Pp.close s c).err]) ∧ CloseP w w' ρ pb N (Pp.close s c) vw := by
  have hrok : Ok (Pp.close s c).st := h.1.close c
  obtain ⟨r, hr⟩ : ∃ r, Pp.close s c = r := ⟨_, rfl⟩
  rw [hr] at hrok ⊢
  have HH := Lib.hid h
  obtain ⟨hok, vch, ptr, mb, D, hp⟩ := h
  have HP := Lib.hid hp
  have HROK := Lib.hid hrok
  have HOK := Lib.hid hok
  have HR := Lib.hid hr
  clear hok hp hrok hr
  cases hm : may s.chs.length c with
  | false =>
    have hre : r = ⟨s, 0, [], 2⟩ := by rw [← HR.out]; unfold Pp.close; rw [if_pos hm]
    have HC := Lib.hid (CloseP.same HH.out 2)
    subst hre
    go_enter Tryd.func12, Tryd.ntmps12
    go_wp2_with fail
    refine (may_any HP.out c).mono ?_
    rintro e w' ⟨rfl, rfl⟩
    rw [hm]
    go_wp2_with fail
    go_ret2
    exact ⟨_, rfl, HC.out⟩
  | true =>
    have HM := Lib.hid hm
    rcases HP.out.chan hm with ⟨h0, hn0, hc0⟩ | ⟨k, cb, rb, sb, v1, v2, x, hck, hx, hcb, hcp, hcx, hch⟩
    · have hre : r = ⟨s, 0, [], 1⟩ := by rw [← HR.out]; unfold Pp.close; rw [if_neg (by rw [hm]; decide), hc0]
      have HC := Lib.hid (CloseP.same HH.out 1)
      have HN0 := Lib.hid hn0
      subst hre
      clear hm h0 hn0 hc0
      go_enter Tryd.func12, Tryd.ntmps12
      go_wp2_with fail
      refine (may_any HP.out c).mono ?_
      rintro e w' ⟨rfl, rfl⟩
      rw [HM.out]
      go_wp2_with fail
      refine (channel_any HP.out c HM.out).mono ?_
      rintro e w' ⟨rfl, rfl⟩
      rw [HN0.out]
      go_wp2_with fail
      go_ret2
      exact ⟨_, rfl, HC.out⟩
    · have hre1 : x.shut = true → r = ⟨s, 0, [], 1⟩ := fun e => by rw [← HR.out]; unfold Pp.close; rw [if_neg (by rw [hm]; decide), hcx]; simp only; rw [if_pos e]
      have hre2 : x.shut = false → 0 < x.sends.length → r = ⟨s, 0, [], 13⟩ := fun e e2 => by rw [← HR.out]; unfold Pp.close; rw [if_neg (by rw [hm]; decide), hcx]; simp only; rw [if_neg (by rw [e]; decide), if_pos e2]
      have hre3 : x.shut = false → ¬ 0 < x.sends.length → r = ⟨(wakeAll ⟨s.chs.modify k fun c => { c with shut := true, recvs := [] }, s.asks⟩ x.recvs).1, 0, (wakeAll ⟨s.chs.modify k fun c => { c with shut := true, recvs := [] }, s.asks⟩ x.recvs).2, 0⟩ := fun e e2 => by
        rw [← HR.out]; unfold Pp.close; rw [if_neg (by rw [hm]; decide), hcx]; simp only; rw [if_neg (by rw [e]; decide), if_neg e2, show (c - 1).toNat = k by omega]
      have HCP := Lib.hid hcp
      obtain ⟨a1, k1, hv1, _, _⟩ := hch.r1.slice
      obtain ⟨a2, k2, hv2, _, _⟩ := hch.r2.slice
      subst hv1
      subst hv2
      have c1 := hch.c1
      have c2 := hch.c2
      have c3 := hch.c3
      have z1 := hch.z 1
      have z3 := hch.z 3
      have HCH := Lib.hid hch
      have HX := Lib.hid hx
      have HCB := Lib.hid hcb
      have HROWS := Lib.hid (HP.out.rows k x hx)
      clear hm hch hx hcb hcp hcx hck
      cases hs : x.shut with
      | true =>
        have hre := hre1 hs
        have HC := Lib.hid (CloseP.same HH.out 1)
        subst hre
        rw [hs] at c1
        clear hre1 hre2 hre3 hs z1 z3
        go_enter Tryd.func12, Tryd.ntmps12
        go_wp2_with fail
        refine (may_any HP.out c).mono ?_
        rintro e w' ⟨rfl, rfl⟩
        rw [HM.out]
        go_wp2_with fail
        refine (channel_any HP.out c HM.out).mono ?_
        rintro e w' ⟨rfl, rfl⟩
        rw [HCP.out]
        go_wp2_with fail
        go_ret2
        exact ⟨_, rfl, HC.out⟩
      | false =>
        rw [hs] at c1
        rcases Nat.eq_zero_or_pos x.sends.length with h0 | h0
        · have hre := hre3 hs (by omega)
          have hsh := HP.out.shuts HCB.out HX.out HCH.out
          have HSH := Lib.hid hsh
          have HRE := Lib.hid hre
          rw [h0] at c2
          have z0 : ¬ (0 : Int) < ((0 : Nat) : Int) := by decide
          have c3' : (w.setCell ⟨cb, 1, none⟩ (.bool true)).cell? ⟨cb, 3, none⟩ = some (.slice a2 x.recvs.length k2) := by rw [cell_set_other (off_ne (by decide) cb)]; exact c3
          have z3' : (w.setCell ⟨cb, 1, none⟩ (.bool true)).frozen? ⟨cb, 3, none⟩ = false := by rw [World.frozen?_setCell]; exact z3
          have hszw : (shutW w cb).heap.size = w.heap.size := by unfold shutW; simp
          have HSZW := Lib.hid hszw
          obtain ⟨row, hrow⟩ : ∃ row, row = x.recvs := ⟨_, rfl⟩
          have HROW := Lib.hid hrow
          obtain ⟨n, hn⟩ : ∃ n, n = row.length := ⟨_, rfl⟩
          have HNR := Lib.hid hn
          rw [← hrow, ← hn] at c3 c3'
          have hnl : n ≤ 600000 := by rw [hn, hrow]; have := HROWS.out.2; omega
          obtain ⟨s1, hs1⟩ : ∃ s1 : St, s1 = ⟨s.chs.modify k fun c => { c with shut := true, recvs := [] }, s.asks⟩ := ⟨_, rfl⟩
          have HS1 := Lib.hid hs1
          have HOK1 : Hid (Ok s1) := Lib.hid (by
            rw [hs1]
            exact HOK.out.modify k (fun c => { c with shut := true, recvs := [] }) (fun _ _ e => e) (fun _ _ e => absurd e List.not_mem_nil) fun c' hc' => ⟨rfl, (HOK.out.caps _ c' hc').2⟩)
          have HP1 : Hid (PipesAt (shutW w cb) (freeOf ρ (.slice a2 x.recvs.length k2)) pb vch ptr mb D N (6 * N) s1) := Lib.hid (by rw [hs1]; exact hsh.1)
          have HRW1 : Hid (RowW (shutW w cb) (.slice a2 n k2) row) := Lib.hid (by
            rw [hn, hrow]
            exact HCH.out.r2.keeps hsh.2 fun b hb e => by
              have h1 := HCH.out.p4 b hb
              rw [e, HCH.out.p0] at h1
              cases h1)
          have HFR : Hid (∀ b, (Value.slice a2 n k2).ownBlock = some b → freeOf ρ (.slice a2 x.recvs.length k2) b = .free) := Lib.hid fun b hb => freeOf_own (by rw [← hrow, ← hn]; exact hb)
          have HSUBR : Hid (∀ b, freeOf ρ (.slice a2 x.recvs.length k2) b ≠ .free → ρ b ≠ .free) := Lib.hid fun b hb => freeOf_sub hb
          have HRE2 : Hid (r = ⟨(wakeAll s1 row).1, 0, (wakeAll s1 row).2, 0⟩) := Lib.hid (by rw [hre, hs1, hrow])
          have HSUB : Hid (∀ b, freeOf ρ (.slice a2 x.recvs.length k2) b ≠ .free → b < w.heap.size) := Lib.hid fun b hb => HP.out.dom b (freeOf_sub hb)
          clear hre hre1 hre2 hre3 hs hsh h0 hrow hn hs1 hszw
          go_enter Tryd.func12, Tryd.ntmps12
          go_wp2_with fail
          refine (may_any HP.out c).mono ?_
          rintro e w' ⟨rfl, rfl⟩
          rw [HM.out]
          go_wp2_with fail
          refine (channel_any HP.out c HM.out).mono ?_
          rintro e w' ⟨rfl, rfl⟩
          rw [HCP.out]
          go_wp2_with fail
          change Code.wp _ _ _ _ (shutW w cb)
          generalize freeOf ρ (.slice a2 x.recvs.length k2) = ρ1 at *
          obtain ⟨w3, hw3⟩ : ∃ w3, w3 = shutW w cb := ⟨_, rfl⟩
          rw [← hw3] at HSH HP1 HRW1 HSZW ⊢
          clear hw3 c1 c2 c3 c3' z1 z3 z3' z0
          have HJ0 : Hid (CloseJ w3 w3 ρ1 pb vch ptr mb N (6 * N) s1 row 0 (.slice none 0 0)) := Lib.hid ⟨⟨D, HP1.out⟩, World.ownsRow_nil _ _ _ _, Keeps.refl _ _⟩
          go_loopw [8, 49] (fun av iv wr => ∃ i : Nat, i ≤ n ∧ iv = .int .i64 i ∧ CloseJ w3 wr ρ1 pb vch ptr mb N (6 * N) s1 row i av) (fun _ iv _ => n - (intOf iv).toNat)
          case atStart => exact ⟨0, Nat.zero_le _, rfl, HJ0.out⟩
          case round =>
            obtain ⟨i, hi, rfl, hJ⟩ := hrel
            rename World => wr
            obtain ⟨aw, kw, hav⟩ := own_sliceK hJ.wk
            subst hav
            have HJ := Lib.hid hJ
            have hwl := wakeAll_len (row.take i) s1
            rw [List.length_take] at hwl
            have hwl2 : (wakeAll s1 (row.take i)).2.length ≤ 600000 := by omega
            clear hJ HJ0 hwl
            by_cases hin : i < n
            · obtain ⟨⟨xt, xk⟩, hxi⟩ : ∃ y, row[i]? = some y := ⟨_, List.getElem?_eq_getElem (by rw [← HNR.out]; exact hin)⟩
              have hrw : RowW wr (.slice a2 n k2) row := HRW1.out.keeps HJ.out.keep fun b hb e => e (HFR.out b hb)
              obtain ⟨g, rfl, -, -, -, hgl, -⟩ := hrw.addr (by rw [← HNR.out]; omega)
              obtain ⟨y1, y2⟩ := hrw.cell hxi
              simp only at y1 y2
              obtain ⟨D', hpa⟩ := HJ.out.at_
              have hka := alloc_new wr (.cells #[.int .i64 xt, .int .i64 (xk : Nat)] 90)
              have hpa2 := hpa.keeps hka fun _ _ e => e.elim
              have hwf : (Lit.int .i64 xt).wf = true := by
                by_cases e : x.recvs = row
                · obtain ⟨l, y, h1, _⟩ := HOK.out.recvs k x HX.out (xt, xk) (by rw [e]; exact List.mem_of_getElem? hxi)
                  exact (HP.out.talk xt l h1).1
                · exact absurd HROW.out.symm e
              obtain ⟨u, hlk⟩ := hpa2.waitsN hwf
              have p1 := hpa2.c1
              have q0 : (wr.alloc (.cells #[.int .i64 xt, .int .i64 (xk : Nat)] 90)).cell? ⟨wr.heap.size, 0, none⟩ = some (.int .i64 xt) := by rw [World.cell?_alloc_at _ _ _ _ rfl]; rfl
              have q1 : (wr.alloc (.cells #[.int .i64 xt, .int .i64 (xk : Nat)] 90)).cell? ⟨wr.heap.size, 1, none⟩ = some (.int .i64 (xk : Nat)) := by rw [World.cell?_alloc_at _ _ _ _ rfl]; rfl
              have HPA := Lib.hid hpa2
              have HKA := Lib.hid hka
              have HXI := Lib.hid hxi
              have hii : (0 : Int) ≤ (i : Int) ∧ (i : Int) < (n : Int) := by omega
              have HBW : Hid (w3.heap.size ≤ wr.heap.size) := Lib.hid HJ.out.keep.size
              have HOKI : Hid (Ok (wakeAll s1 (row.take i)).1) := Lib.hid (HOK1.out.wakeAll _)
              have HTK := Lib.hid (wakeAll_take (s := s1) hxi)
              clear hpa hpa2 hka hwf hxi hrw
              cases hask : ((wakeAll s1 (row.take i)).1.asks xt).isSome with
              | true =>
                rw [hask] at hlk
                have HASK := Lib.hid hask
                clear hask
                go_wp2_with fail
                go_quiet (fail)
                clear hlk
                go_upto_region 17 with fail
                have HPQ : Hid (PipesAt ((wr.alloc (.cells #[.int .i64 xt, .int .i64 (xk : Nat)] 90)).drewN nq) ρ1 pb vch ptr mb D' N (6 * N) (wakeAll s1 (row.take i)).1) := Lib.hid (HPA.out.keeps (keeps_drewN (Keeps.refl (fun _ => False) _) nq) fun _ _ e => e.elim)
                have HKQ : Hid (Keeps (fun _ => False) wr ((wr.alloc (.cells #[.int .i64 xt, .int .i64 (xk : Nat)] 90)).drewN nq)) := Lib.hid (keeps_drewN HKA.out nq)
                have r0 : ((wr.alloc (.cells #[.int .i64 xt, .int .i64 (xk : Nat)] 90)).drewN nq).cell? ⟨wr.heap.size, 0, none⟩ = some (.int .i64 xt) := q0
                have r1 : ((wr.alloc (.cells #[.int .i64 xt, .int .i64 (xk : Nat)] 90)).drewN nq).cell? ⟨wr.heap.size, 1, none⟩ = some (.int .i64 (xk : Nat)) := q1
                clear q0 q1 p1 HPA HKA
                generalize (wr.alloc (.cells #[.int .i64 xt, .int .i64 (xk : Nat)] 90)).drewN nq = wq at *
                obtain ⟨l, hl⟩ := Option.isSome_iff_exists.1 HASK.out
                have HWK := Lib.hid (wake_any HPQ.out (by omega) xt xk 0 hl (fun x hx => (HOKI.out.talks _ _ hl).2 x hx) (HOKI.out.talks _ _ hl).1)
                clear hl
                go_wp2_with fail
                refine HWK.out.mono ?_
                rintro e w5 ⟨rfl, ⟨D5, h5⟩, hk5⟩
                have HP5 := Lib.hid h5
                have HOWN : Hid (∀ b, (Value.slice aw (wakeAll s1 (row.take i)).2.length kw).ownBlock = some b → ρ1 b = .free) := Lib.hid fun b hb => Classical.byContradiction fun e => by
                  have h7 := HSUB.out b e
                  have h8 := (World.ownsRow.lt HJ.out.wk b hb).1
                  have h9 := HSZW.out
                  omega
                have HK5 : Hid (Keeps (fun b => ρ1 b ≠ .free) wr w5) := Lib.hid ((HKQ.out.mono fun _ _ e => e.elim).trans hk5)
                have HW5 := Lib.hid (HK5.out.row HJ.out.wk fun b hb e => e (HOWN.out b hb))
                have HB5 : Hid (w3.heap.size ≤ w5.heap.size) := Lib.hid (Nat.le_trans HBW.out HK5.out.size)
                clear h5 hk5 r0 r1
                go_wp2_with (at_builtin; refine wpList_appendK rfl _ _ rfl w5 w3.heap.size _ (wakeAll s1 (row.take i)).2 ⟨xt, xk, 0⟩ HW5.out rfl rfl rfl (by omega) HB5.out ?_; intro a6 c6 w6 hO6 hK6; have HO6 := Lib.hid hO6; have HK6 := Lib.hid hK6; clear hO6 hK6)
                have HJ6 : Hid (CloseJ w3 w6 ρ1 pb vch ptr mb N (6 * N) s1 row (i + 1) (.slice a6 ((wakeAll s1 (row.take i)).2 ++ [Wk.mk xt xk 0]).length c6)) := Lib.hid (CloseJ.more HXI.out HASK.out (HP5.out.keeps HK6.out fun b _ e => HOWN.out b e) HO6.out ((HJ.out.keep.trans HK5.out).trans' HK6.out fun b hb e => by
                  have h8 := (World.ownsRow.lt HJ.out.wk b e).1
                  omega))
                go_roundw
                case rel =>
                  have := HJ6.out
                  rw [List.length_append] at this
                  exact ⟨i + 1, by omega, by go_num, this⟩
                case measure => simp [intOf]; omega
              | false =>
                rw [hask] at hlk
                have HASK := Lib.hid hask
                clear hask
                go_wp2_with fail
                go_quiet (fail)
                clear hlk
                have HJ6 := Lib.hid (HJ.out.same HXI.out HASK.out (keeps_drewN HKA.out nq))
                go_wp2_with fail
                go_roundw
                case rel => exact ⟨i + 1, by omega, by go_num, HJ6.out⟩
                case measure => simp [intOf]; omega
            · obtain rfl : i = n := by omega
              have hii : ¬ (i : Int) < (i : Int) := by omega
              go_wp2_with fail
              go_ret2
              have ht : row.take i = row := by rw [HNR.out]; exact List.take_length
              obtain ⟨⟨D', hp9⟩, hw9, hk9⟩ := HJ.out
              rw [ht] at hp9 hw9 ⊢
              have hro := HROK.out
              have hre := HRE2.out
              subst hre
              refine ⟨_, rfl, ⟨ρ1, ⟨hro, vch, ptr, mb, D', hp9⟩, HSUBR.out, fun b hb => Classical.byContradiction fun e => ?_⟩, ?_, ?_⟩
              · have h7 := HSUB.out b e
                have h8 := (World.ownsRow.lt hw9 b hb).1
                have h9 := HSZW.out
                omega
              · rw [← HSZW.out]; exact hw9
              · exact (HSH.out.2.mono fun b _ e => by rw [e, HCH.out.p0]; simp).trans (hk9.mono fun b _ e => HSUBR.out b e)
        · have hre := hre2 hs h0
          have HC := Lib.hid (CloseP.same HH.out 13)
          subst hre
          have h0i : (0 : Int) < (x.sends.length : Int) := by omega
          clear hre1 hre2 hre3 hs z1 z3
          go_enter Tryd.func12, Tryd.ntmps12
          go_wp2_with fail
          refine (may_any HP.out c).mono ?_
          rintro e w' ⟨rfl, rfl⟩
          rw [HM.out]
          go_wp2_with fail
          refine (channel_any HP.out c HM.out).mono ?_
          rintro e w' ⟨rfl, rfl⟩
          rw [HCP.out]
          go_wp2_with fail
          go_ret2
          exact ⟨_, rfl, HC.out⟩
end Go.Proofs.YtpehmghnfbkaaaaDoor
