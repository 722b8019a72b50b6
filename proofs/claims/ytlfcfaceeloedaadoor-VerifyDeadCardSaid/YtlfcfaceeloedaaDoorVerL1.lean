/-
  The fact that the laws of package verify ask first ('fitted').
-/
import Derived.Test.YtlfcfaceeloedaaDoorVerWE
import Derived.Test.YtlfcfaceeloedaaDoorCodeL3b
import Derived.Test.YtlfcfaceeloedaaDoorTellAt
namespace Go.Proofs.YtlfcfaceeloedaaDoor
open Go.RowKit Go.Shelf Cd Ve

def tinyQ : Pg := ⟨1, [⟨0, [1], 0, [(1, -7), (5, 0), (4, 0), (19, 0), (14, 0)]⟩]⟩
theorem look_tiny : lookA tinyP = .ok [[some [], some [1], some [], some [1], some []]] := by kernel_rfl
theorem look_tinyQ : lookA tinyQ = .at_ 13 3 := by kernel_rfl
/-- The small program, block by block. -/
structure TinyB (w w' : World) (fb lb cb : Nat) : Prop where
  f : BlkO w' fb [.int .i64 0, .slice (some ⟨lb, 0, none⟩) 1 1, .int .i64 0, .slice (some ⟨cb, 0, none⟩) 5 5]
  l : BlkO w' lb [.int .i64 1]
  c : BlkO w' cb [.int .i64 1, .int .i64 (-7), .int .i64 5, .int .i64 0, .int .i64 4, .int .i64 0, .int .i64 21, .int .i64 0, .int .i64 14, .int .i64 0]
  lof : w.heap.size ≤ fb
  lol : w.heap.size ≤ lb
  loc : w.heap.size ≤ cb
  ne1 : fb ≠ cb
  ne2 : lb ≠ cb
  bel : Below w.heap.size w w'
theorem TinyB.fresh {w w' w2 : World} {fb lb cb : Nat} (h : TinyB w w' fb lb cb) (hb : Below w'.heap.size w' w2) : TinyB w w2 fb lb cb :=
  ⟨h.f.below hb, h.l.below hb, h.c.below hb, h.lof, h.lol, h.loc, h.ne1, h.ne2, h.bel.trans (hb.mono h.bel.size)⟩
set_option maxRecDepth 100000 in
set_option maxHeartbeats 1600000 in
theorem tinyB_any (w : World) : Calls Tryd.prog 34 #[] w fun e w' => ∃ fb lb cb, e = .returned (.agg #[.int .i64 1, .slice (some ⟨fb, 0, none⟩) 1 1]) ∧ TinyB w w' fb lb cb := by
  obtain ⟨c0, -, -, -⟩ := four_cells w #[.int .i64 1, .slice (some ⟨w.heap.size + 1 + 1 + 1, 0, none⟩) 1 1] #[.int .i64 1] #[.int .i64 1, .int .i64 (-7), .int .i64 5, .int .i64 0, .int .i64 4, .int .i64 0, .int .i64 21, .int .i64 0, .int .i64 14, .int .i64 0]
    #[.int .i64 0, .slice (some ⟨w.heap.size + 1, 0, none⟩) 1 1, .int .i64 0, .slice (some ⟨w.heap.size + 1 + 1, 0, none⟩) 5 5] 24 3 37 47
  have q0 := c0 0 _ rfl
  have q1 := c0 1 _ rfl
  have HB : Hid (TinyB w ((((w.alloc (.cells #[.int .i64 1, .slice (some ⟨w.heap.size + 1 + 1 + 1, 0, none⟩) 1 1] 24)).alloc (.cells #[.int .i64 1] 3)).alloc (.cells #[.int .i64 1, .int .i64 (-7), .int .i64 5, .int .i64 0, .int .i64 4, .int .i64 0, .int .i64 21, .int .i64 0, .int .i64 14, .int .i64 0] 37)).alloc (.cells #[.int .i64 0, .slice (some ⟨w.heap.size + 1, 0, none⟩) 1 1, .int .i64 0, .slice (some ⟨w.heap.size + 1 + 1, 0, none⟩) 5 5] 47))
      (w.heap.size + 1 + 1 + 1) (w.heap.size + 1) (w.heap.size + 1 + 1)) := Lib.hid (by
    have k : ∀ (V : World) (o : Obj), Keeps (fun _ => False) V (V.alloc o) := fun V o => (Keeps.refl _ V).alloc o
    refine ⟨?_, ?_, ?_, by omega, by omega, by omega, by omega, by omega, ?_⟩
    · have := BlkO.new (((w.alloc (.cells #[.int .i64 1, .slice (some ⟨w.heap.size + 1 + 1 + 1, 0, none⟩) 1 1] 24)).alloc (.cells #[.int .i64 1] 3)).alloc (.cells #[.int .i64 1, .int .i64 (-7), .int .i64 5, .int .i64 0, .int .i64 4, .int .i64 0, .int .i64 21, .int .i64 0, .int .i64 14, .int .i64 0] 37)) #[.int .i64 0, .slice (some ⟨w.heap.size + 1, 0, none⟩) 1 1, .int .i64 0, .slice (some ⟨w.heap.size + 1 + 1, 0, none⟩) 5 5] 47
      simp only [World.size_alloc] at this
      exact this
    · have := BlkO.new (w.alloc (.cells #[.int .i64 1, .slice (some ⟨w.heap.size + 1 + 1 + 1, 0, none⟩) 1 1] 24)) #[.int .i64 1] 3
      simp only [World.size_alloc] at this
      exact (this.keeps (k _ _) id).keeps (k _ _) id
    · have := BlkO.new ((w.alloc (.cells #[.int .i64 1, .slice (some ⟨w.heap.size + 1 + 1 + 1, 0, none⟩) 1 1] 24)).alloc (.cells #[.int .i64 1] 3)) #[.int .i64 1, .int .i64 (-7), .int .i64 5, .int .i64 0, .int .i64 4, .int .i64 0, .int .i64 21, .int .i64 0, .int .i64 14, .int .i64 0] 37
      simp only [World.size_alloc] at this
      exact this.keeps (k _ _) id
    · exact ((((Below.refl w.heap.size w).alloc (Nat.le_refl _) _).alloc (by simp) _).alloc (by simp; omega) _).alloc (by simp; omega) _)
  clear c0
  go_enter Tryd.func34, Tryd.ntmps34
  go_wp2_with fail
  refine bodyPost_ret (v := .agg #[.int .i64 1, .slice (some ⟨w.heap.size + 1 + 1 + 1, 0, none⟩) 1 1]) (by simp [results, Tryd.results34, go_sem] <;> rfl) rfl ?_
  exact ⟨_, _, _, rfl, HB.out⟩
theorem TinyB.prog {w w' : World} {fb lb cb : Nat} (h : TinyB w w' fb lb cb) : ProgAt w' (.agg #[.int .i64 1, .slice (some ⟨fb, 0, none⟩) 1 1]) tinyP := by
  refine ⟨_, rfl, _, 1, 1, rfl, rfl, Nat.le_refl _, by decide, fun _ => ⟨fb, 0, rfl, h.f.lt, fun i f hi => ?_⟩⟩
  match i, hi with
  | 0, hi =>
    cases hi
    refine ⟨h.f.at_ 0 _ rfl, ⟨_, h.f.at_ 1 _ rfl, _, 1, 1, rfl, rfl, Nat.le_refl _, by decide, fun _ => ⟨lb, 0, rfl, h.l.lt, fun i hi => ?_⟩⟩, h.f.at_ 2 _ rfl, _, h.f.at_ 3 _ rfl, _, 5, 5, rfl, rfl, Nat.le_refl _, by decide, fun _ => ⟨cb, 0, rfl, h.c.lt, fun i x hi => ?_⟩⟩
    · match i, hi with
      | 0, _ => exact h.l.at_ 0 _ rfl
    · match i, hi with
      | 0, hi => cases hi; exact ⟨h.c.at_ 0 _ rfl, h.c.at_ 1 _ rfl⟩
      | 1, hi => cases hi; exact ⟨h.c.at_ 2 _ rfl, h.c.at_ 3 _ rfl⟩
      | 2, hi => cases hi; exact ⟨h.c.at_ 4 _ rfl, h.c.at_ 5 _ rfl⟩
      | 3, hi => cases hi; exact ⟨h.c.at_ 6 _ rfl, h.c.at_ 7 _ rfl⟩
      | 4, hi => cases hi; exact ⟨h.c.at_ 8 _ rfl, h.c.at_ 9 _ rfl⟩
/-- With another instruction in its fourth place. -/
theorem TinyB.other {w w' : World} {fb lb cb : Nat} (h : TinyB w w' fb lb cb) : ProgAt ((w'.setCell ⟨cb, 6, none⟩ (.int .i64 19)).setCell ⟨cb, 7, none⟩ (.int .i64 0)) (.agg #[.int .i64 1, .slice (some ⟨fb, 0, none⟩) 1 1]) tinyQ ∧ Below w.heap.size w ((w'.setCell ⟨cb, 6, none⟩ (.int .i64 19)).setCell ⟨cb, 7, none⟩ (.int .i64 0)) := by
  have hk := (own_set w' cb 6 (.int .i64 19)).trans (own_set _ cb 7 (.int .i64 0))
  have hf := h.f.keeps hk h.ne1
  have hl := h.l.keeps hk h.ne2
  have hc := (h.c.set 6 (.int .i64 19) (show 6 < 10 by decide)).set 7 (.int .i64 0) (show 7 < 10 by decide)
  refine ⟨⟨_, rfl, _, 1, 1, rfl, rfl, Nat.le_refl _, by decide, fun _ => ⟨fb, 0, rfl, hf.lt, fun i f hi => ?_⟩⟩, h.bel.trans (hk.below h.bel.size fun b _ e => by rw [e]; exact h.loc)⟩
  match i, hi with
  | 0, hi =>
    cases hi
    refine ⟨hf.at_ 0 _ rfl, ⟨_, hf.at_ 1 _ rfl, _, 1, 1, rfl, rfl, Nat.le_refl _, by decide, fun _ => ⟨lb, 0, rfl, hl.lt, fun i hi => ?_⟩⟩, hf.at_ 2 _ rfl, _, hf.at_ 3 _ rfl, _, 5, 5, rfl, rfl, Nat.le_refl _, by decide, fun _ => ⟨cb, 0, rfl, hc.lt, fun i x hi => ?_⟩⟩
    · match i, hi with
      | 0, _ => exact hl.at_ 0 _ rfl
    · match i, hi with
      | 0, hi => cases hi; exact ⟨hc.at_ 0 _ rfl, hc.at_ 1 _ rfl⟩
      | 1, hi => cases hi; exact ⟨hc.at_ 2 _ rfl, hc.at_ 3 _ rfl⟩
      | 2, hi => cases hi; exact ⟨hc.at_ 4 _ rfl, hc.at_ 5 _ rfl⟩
      | 3, hi => cases hi; exact ⟨hc.at_ 6 _ rfl, hc.at_ 7 _ rfl⟩
      | 4, hi => cases hi; exact ⟨hc.at_ 8 _ rfl, hc.at_ 9 _ rfl⟩

set_option maxRecDepth 100000 in
set_option maxHeartbeats 6400000 in
theorem fitted_any (w : World) (hE : ErrT w) : Calls Tryd.prog 13 #[] w fun e w' => e = .returned (.bool true) ∧ Below w.heap.size w w' := by
  have HE := Lib.hid hE
  clear hE
  go_enter Tryd.func13, Tryd.ntmps13
  go_wp2_with fail
  refine (tinyB_any w).mono ?_
  rintro e w1 ⟨fb, lb, cb, rfl, ht⟩
  have HB1 := Lib.hid ht.bel
  have HSH := Lib.hid (shapes_any tinyP _ w1 ht.prog)
  rw [look_tiny] at HSH
  clear ht
  go_wp2_with fail
  refine HSH.out.mono ?_
  rintro e w2 ⟨⟨v, rfl, htl⟩, hb2⟩
  have HB2 := Lib.hid (HB1.out.trans (hb2.mono HB1.out.size))
  have HTL := Lib.hid htl
  obtain ⟨ao, n, cap, rfl, hn, -⟩ := htl
  obtain rfl : n = 1 := hn
  clear hb2 HSH
  go_wp2_with fail
  refine (tinyB_any w2).mono ?_
  rintro e w3 ⟨fb3, lb3, cb3, rfl, ht3⟩
  have h4 := ht3.fresh (w2 := w3.alloc (.cells #[.int .i64 1, .slice (some ⟨fb3, 0, none⟩) 1 1] 24)) ((Below.refl _ _).alloc (Nat.le_refl _) _)
  have hp4 := BlkO.new w3 #[.int .i64 1, .slice (some ⟨fb3, 0, none⟩) 1 1] 24
  have hlt3 : cb3 ≠ w3.heap.size := fun e => by have := ht3.c.lt; omega
  obtain ⟨pb3, hpb3⟩ : ∃ pb3, pb3 = w3.heap.size := ⟨_, rfl⟩
  rw [← hpb3] at hp4 hlt3
  go_upto_region 3 with fail
  rw [← hpb3]
  generalize w3.alloc (.cells #[.int .i64 1, .slice (some ⟨fb3, 0, none⟩) 1 1] 24) = W4 at *
  have p1 := hp4.at_ 1 _ rfl
  have f3 := h4.f.at_ 3 _ rfl
  have c6 := h4.c.at_ 6 _ rfl
  have c7 := h4.c.at_ 7 _ rfl
  have z6 := h4.c.free 6
  have z7 := h4.c.free 7
  obtain ⟨hpq, hbq⟩ := h4.other
  have hp5 := hp4.keeps ((own_set W4 cb3 6 (.int .i64 19)).trans (own_set _ cb3 7 (.int .i64 0))) (fun e => hlt3 e.symm)
  have HP5 := Lib.hid hp5
  have HPQ := Lib.hid hpq
  have HBQ := Lib.hid hbq
  have hk5 := keeps_none hbq
  obtain ⟨ao', n', cap', e0, -, -, -, hx0⟩ := HTL.out
  cases e0
  obtain ⟨b, o, sv, rfl, x0, a2, n2, cap2, rfl, hn2, -, hm2, hx2⟩ := hx0 0 _ rfl
  obtain rfl : n2 = 5 := hn2
  obtain ⟨b2, o2, kv, rfl, -, x2, x3, ⟨a3, n3, cap3, rfl, hn3, -, hm3, hx3⟩, -⟩ := hx2 3 (true, [1]) rfl
  obtain rfl : n3 = 1 := hn3
  obtain ⟨b3, o3, rfl, -, hx4⟩ := hx3 (by decide)
  have x4 := hx4 0 (by decide)
  have y0 := hk5.cell_of x0 id
  have y2 := hk5.cell_of x2 id
  have y3 := hk5.cell_of x3 id
  have y4 := hk5.cell_of x4 id
  rw [Nat.add_zero] at y0 y4
  simp only [List.getD_cons_zero] at y4
  clear hpq hbq hk5 hp5 h4 ht3 hp4 hlt3 hpb3 x0 x2 x3 x4 hx2 hx3 hx4
  go_upto_region 4 with fail
  clear p1 f3 c6 c7 z6 z7
  generalize (W4.setCell ⟨cb3, 6, none⟩ (.int .i64 19)).setCell ⟨cb3, 7, none⟩ (.int .i64 0) = W5 at *
  have p0 := HP5.out.at_ 0 _ rfl
  have p1 := HP5.out.at_ 1 _ rfl
  have HVE := Lib.hid (verify_any tinyQ _ W5 HPQ.out)
  rw [look_tinyQ] at HVE
  have HB5 := Lib.hid (HB2.out.trans (HBQ.out.mono HB2.out.size))
  go_wp2_with fail
  refine HVE.out.mono ?_
  rintro e w6 ⟨⟨eb, rfl, -, -, hc0, hc1⟩, hb6⟩
  have HB6 := Lib.hid (HB5.out.trans (hb6.mono HB5.out.size))
  have HTE := Lib.hid (tell_at 13 eb w6 (HE.out.below HB6.out (block_lt_of_cell HE.out)) hc0)
  clear hc0 hc1 hb6 HVE
  go_wp2_with fail
  refine HTE.out.mono ?_
  rintro e w7 ⟨rfl, hb7⟩
  have HB7 := Lib.hid (HB6.out.trans (hb7.mono HB6.out.size))
  clear hb7
  go_wp2_with fail
  go_ret
  exact ⟨rfl, HB7.out⟩
end Go.Proofs.YtlfcfaceeloedaaDoor
