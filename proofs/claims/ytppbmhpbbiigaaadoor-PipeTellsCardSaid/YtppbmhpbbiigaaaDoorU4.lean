/-
  Texts of one proof, in build order: The walk of the law's comparison of all that is to be seen; where both are the same. | The walk of the reference's Look. | What the reference's Talk appends: talks of its own; one more that waits; and what then is in memory. | A channel's numbers turn: 'c.nums = append(c.nums, n)', 'c.nums = all[1:]'; and which one a draw stands for.
-/
import Derived.Test.YtppbmhpbbiigaaaDoorU3
import Derived.Deep.Cut
import Derived.BigQuiet
import Derived.StillTailTactics
import Derived.Deep.RegionHeld
import Derived.Deep.RegionLaw
namespace Go.Proofs.YtppbmhpbbiigaaaDoor
open Go.RowKit Go.Maps Pp

theorem cellsP_at : ∀ (l : List Sn) (i : Nat) (x : Sn), l[i]? = some x → (cellsP l)[i * 5]? = some (.int .i64 (x.c.size : Int)) ∧ (cellsP l)[i * 5 + 1]? = some x.vn ∧ (cellsP l)[i * 5 + 2]? = some (.bool x.c.shut) ∧ (cellsP l)[i * 5 + 3]? = some x.u1 ∧ (cellsP l)[i * 5 + 4]? = some x.u2 := by
  intro l
  induction l with
  | nil => intro i x h; cases h
  | cons p r ih =>
    intro i x h
    have e : cellsP (p :: r) = .int .i64 (p.c.size : Int) :: p.vn :: .bool p.c.shut :: p.u1 :: p.u2 :: cellsP r := rfl
    cases i with
    | zero => cases h; exact ⟨rfl, rfl, rfl, rfl, rfl⟩
    | succ i =>
      have := ih i x (by simpa using h)
      rw [e]
      refine ⟨?_, ?_, ?_, ?_, ?_⟩
      · rw [show (i + 1) * 5 = i * 5 + 1 + 1 + 1 + 1 + 1 by omega]; simpa using this.1
      · rw [show (i + 1) * 5 + 1 = i * 5 + 1 + 1 + 1 + 1 + 1 + 1 by omega]; simpa using this.2.1
      · rw [show (i + 1) * 5 + 2 = i * 5 + 2 + 1 + 1 + 1 + 1 + 1 by omega]; simpa using this.2.2.1
      · rw [show (i + 1) * 5 + 3 = i * 5 + 3 + 1 + 1 + 1 + 1 + 1 by omega]; simpa using this.2.2.2.1
      · rw [show (i + 1) * 5 + 4 = i * 5 + 4 + 1 + 1 + 1 + 1 + 1 by omega]; simpa using this.2.2.2.2
/-- All that was looked at, to be read whole. -/
def ReadP (w : World) (v : Value) (chs : List Ch) : Prop :=
  ∃ ao cap, v = .slice ao chs.length cap ∧ chs.length ≤ cap ∧ cap ≤ maxLen ∧ (0 < chs.length → ∃ g, ao = some ⟨g, 0, none⟩ ∧ g < w.heap.size ∧ ∀ (i : Nat) c, chs[i]? = some c → ∃ a0 k0 a1 k1 a2 k2, w.cell? ⟨g, i * 5, none⟩ = some (.int .i64 (c.size : Int)) ∧ w.cell? ⟨g, i * 5 + 1, none⟩ = some (.slice a0 c.nums.length k0) ∧
    w.cell? ⟨g, i * 5 + 2, none⟩ = some (.bool c.shut) ∧ w.cell? ⟨g, i * 5 + 3, none⟩ = some (.slice a1 c.sends.length k1) ∧ w.cell? ⟨g, i * 5 + 4, none⟩ = some (.slice a2 c.recvs.length k2) ∧ IntsAt w (.slice a0 c.nums.length k0) c.nums ∧ RowW w (.slice a1 c.sends.length k1) c.sends ∧ RowW w (.slice a2 c.recvs.length k2) c.recvs)
theorem readP_of {w : World} {B : Nat} {v : Value} {L : List Sn} {chs : List Ch} (hm : L.map Sn.c = chs) (h : Looked w B v L) : ReadP w v chs := by
  have hr := h.row
  have hl : L.length = chs.length := by rw [← hm, List.length_map]
  rcases h.row.2 with ⟨rfl, h0⟩ | ⟨g, cap, cur, rfl, hb, hg, h3, h4, h5, h6⟩
  · exact ⟨none, 0, by rw [← hl, h0], by omega, Nat.zero_le _, fun h => by omega⟩
  · refine ⟨_, _, by rw [hl], by omega, h4, fun _ => ⟨g, rfl, (Array.getElem?_eq_some_iff.1 hg).1, fun i c hc => ?_⟩⟩
    rw [← hm, List.getElem?_map] at hc
    obtain ⟨x, hx, rfl⟩ := Option.map_eq_some_iff.1 hc
    obtain ⟨e1, e2, e5, e3, e4⟩ := cellsP_at L i x hx
    have hs := h.seen x (List.mem_of_getElem? hx)
    obtain ⟨a0, k0, e0⟩ := OwnI.slice hs.nums
    obtain ⟨a1, k1, u1⟩ := own_slice hs.sends
    obtain ⟨a2, k2, u2⟩ := own_slice hs.recvs
    have f1 := World.ownsRow.cells hr (g := g) rfl _ _ e1
    have f2 := World.ownsRow.cells hr (g := g) rfl _ _ e2
    have f5 := World.ownsRow.cells hr (g := g) rfl _ _ e5
    have f3 := World.ownsRow.cells hr (g := g) rfl _ _ e3
    have f4 := World.ownsRow.cells hr (g := g) rfl _ _ e4
    rw [addr_addP, Nat.zero_add] at f1 f2 f3 f4 f5
    have hn := hs.nums.ints
    have h1 := own_lower hs.sends (Nat.zero_le _)
    have h2 := own_lower hs.recvs (Nat.zero_le _)
    rw [e0] at f2 hn
    rw [u1] at f3 h1
    rw [u2] at f4 h2
    exact ⟨a0, k0, a1, k1, a2, k2, f1, f2, f5, f3, f4, hn, h1, h2⟩
theorem ReadP.keeps {S : Nat → Prop} {w w' : World} {v : Value} {chs : List Ch} (h : ReadP w v chs) (hk : Keeps S w w') (hS : ∀ b, ¬ S b) : ReadP w' v chs := by
  obtain ⟨ao, cap, hv, h1, h2, h3⟩ := h
  refine ⟨ao, cap, hv, h1, h2, fun h0 => ?_⟩
  obtain ⟨g, h4, h5, h6⟩ := h3 h0
  refine ⟨g, h4, Nat.lt_of_lt_of_le h5 hk.size, fun i c hc => ?_⟩
  obtain ⟨a0, k0, a1, k1, a2, k2, e1, e2, e3, e4, e5, e6, e7, e8⟩ := h6 i c hc
  exact ⟨a0, k0, a1, k1, a2, k2, hk.cell_of e1 (hS _), hk.cell_of e2 (hS _), hk.cell_of e3 (hS _), hk.cell_of e4 (hS _), hk.cell_of e5 (hS _), e6.keeps hk fun _ _ => hS _, e7.keeps hk fun _ _ => hS _, e8.keeps hk fun _ _ => hS _⟩

set_option maxRecDepth 100000 in
set_option maxHeartbeats 6400000 in
theorem samePipes_any {w : World} {v1 v2 : Value} {chs : List Ch} (h1 : ReadP w v1 chs) (h2 : ReadP w v2 chs) :
    Calls Tryd.prog 17 #[v1, v2] w fun e w' => e = .returned (.bool true) ∧ Below w.heap.size w w' := by
  obtain ⟨a1, k1, rfl, hc1, hm1, hx1⟩ := h1
  obtain ⟨a2, k2, rfl, hc2, hm2, hx2⟩ := h2
  have HX1 := Lib.hid hx1
  have HX2 := Lib.hid hx2
  obtain ⟨n, hn⟩ : ∃ n, n = chs.length := ⟨_, rfl⟩
  have HN := Lib.hid hn
  rw [← hn] at hc1 hc2 HX1 HX2 ⊢
  unfold maxLen at hm1
  clear hx1 hx2 hn hm2
  go_enter Tryd.func17, Tryd.ntmps17
  go_wp2_with fail
  go_loopw [5] (fun iv wr => ∃ i : Nat, i ≤ n ∧ iv = .int .i64 i ∧ Below w.heap.size w wr) (fun iv _ => n - (intOf iv).toNat)
  case atStart => exact ⟨0, Nat.zero_le _, rfl, Below.refl _ _⟩
  case round =>
    obtain ⟨i, hi, rfl, hb⟩ := hrel
    rename World => wr
    have HB := Lib.hid hb
    clear hb
    by_cases hin : i < n
    · obtain ⟨⟨sz, nums, sh, ss, rs⟩, hx⟩ : ∃ x, chs[i]? = some x := ⟨_, List.getElem?_eq_getElem (by rw [← HN.out]; exact hin)⟩
      obtain ⟨b1, rfl, hb1, g1⟩ := HX1.out (by omega)
      obtain ⟨b2, rfl, hb2, g2⟩ := HX2.out (by omega)
      obtain ⟨aa0, kk0, aa1, kk1, aa2, kk2, f0, f1, f2, f3, f4, hi1, hs1, hr1⟩ := g1 i _ hx
      obtain ⟨bb0, ll0, bb1, ll1, bb2, ll2, j0, j1, j2, j3, j4, hi2, hs2, hr2⟩ := g2 i _ hx
      simp only at f0 f1 f2 f3 f4 j0 j1 j2 j3 j4 hi1 hi2 hs1 hs2 hr1 hr2
      have q0 := (HB.out.cell (p := ⟨b1, i * 5, none⟩) hb1).trans f0
      have q1 := (HB.out.cell (p := ⟨b1, i * 5 + 1, none⟩) hb1).trans f1
      have q2 := (HB.out.cell (p := ⟨b1, i * 5 + 2, none⟩) hb1).trans f2
      have q3 := (HB.out.cell (p := ⟨b1, i * 5 + 3, none⟩) hb1).trans f3
      have q4 := (HB.out.cell (p := ⟨b1, i * 5 + 4, none⟩) hb1).trans f4
      have r0 := (HB.out.cell (p := ⟨b2, i * 5, none⟩) hb2).trans j0
      have r1 := (HB.out.cell (p := ⟨b2, i * 5 + 1, none⟩) hb2).trans j1
      have r2 := (HB.out.cell (p := ⟨b2, i * 5 + 2, none⟩) hb2).trans j2
      have r3 := (HB.out.cell (p := ⟨b2, i * 5 + 3, none⟩) hb2).trans j3
      have r4 := (HB.out.cell (p := ⟨b2, i * 5 + 4, none⟩) hb2).trans j4
      have hii : (0 : Int) ≤ (i : Int) ∧ (i : Int) < (n : Int) := by omega
      have HI1 := Lib.hid hi1
      have HI2 := Lib.hid hi2
      have HS1 := Lib.hid hs1
      have HS2 := Lib.hid hs2
      have HR1 := Lib.hid hr1
      have HR2 := Lib.hid hr2
      clear f0 f1 f2 f3 f4 j0 j1 j2 j3 j4 hi1 hi2 hs1 hs2 hr1 hr2 hx hb1 hb2 g1 g2
      go_upto_region 6 with fail
      obtain ⟨oz, hoz⟩ : ∃ o : Obj, o = .cells #[.int .i64 0, .slice none 0 0, .bool false, .slice none 0 0, .slice none 0 0] 101 := ⟨_, rfl⟩
      obtain ⟨ox, hox⟩ : ∃ o : Obj, o = .cells #[.int .i64 (sz : Nat), .slice aa0 nums.length kk0, .bool sh, .slice aa1 ss.length kk1, .slice aa2 rs.length kk2] 101 := ⟨_, rfl⟩
      have up1 : ∀ {a : Addr} {u : Value}, wr.cell? a = some u → (wr.alloc oz).cell? a = some u ∧ (wr.alloc ox).cell? a = some u ∧ ((wr.alloc oz).alloc oz).cell? a = some u ∧ ((wr.alloc oz).alloc ox).cell? a = some u ∧ ((wr.alloc ox).alloc oz).cell? a = some u := fun h =>
        ⟨Go.Lib.cell?_alloc_some _ h, Go.Lib.cell?_alloc_some _ h, Go.Lib.cell?_alloc_some _ (Go.Lib.cell?_alloc_some _ h), Go.Lib.cell?_alloc_some _ (Go.Lib.cell?_alloc_some _ h), Go.Lib.cell?_alloc_some _ (Go.Lib.cell?_alloc_some _ h)⟩
      obtain ⟨q0a, q0b, q0c, q0d, q0e⟩ := up1 q0
      obtain ⟨q1a, q1b, q1c, q1d, q1e⟩ := up1 q1
      obtain ⟨q2a, q2b, q2c, q2d, q2e⟩ := up1 q2
      obtain ⟨q3a, q3b, q3c, q3d, q3e⟩ := up1 q3
      obtain ⟨q4a, q4b, q4c, q4d, q4e⟩ := up1 q4
      obtain ⟨r0a, r0b, r0c, r0d, r0e⟩ := up1 r0
      obtain ⟨r1a, r1b, r1c, r1d, r1e⟩ := up1 r1
      obtain ⟨r2a, r2b, r2c, r2d, r2e⟩ := up1 r2
      obtain ⟨r3a, r3b, r3c, r3d, r3e⟩ := up1 r3
      obtain ⟨r4a, r4b, r4c, r4d, r4e⟩ := up1 r4
      clear up1
      subst hoz hox
      go_region
      · have hbz : Below w.heap.size w ((wr.alloc (.cells #[.int .i64 (sz : Nat), .slice aa0 nums.length kk0, .bool sh, .slice aa1 ss.length kk1, .slice aa2 rs.length kk2] 101)).alloc (.cells #[.int .i64 (sz : Nat), .slice bb0 nums.length ll0, .bool sh, .slice bb1 ss.length ll1, .slice bb2 rs.length ll2] 101)) := (HB.out.alloc HB.out.size _).alloc (by simp; have := HB.out.size; omega) _
        have x0 : ((wr.alloc (.cells #[.int .i64 (sz : Nat), .slice aa0 nums.length kk0, .bool sh, .slice aa1 ss.length kk1, .slice aa2 rs.length kk2] 101)).alloc (.cells #[.int .i64 (sz : Nat), .slice bb0 nums.length ll0, .bool sh, .slice bb1 ss.length ll1, .slice bb2 rs.length ll2] 101)).cell? ⟨wr.heap.size, 0, none⟩ = some (.int .i64 (sz : Nat)) := by rw [World.cell?_alloc_past _ _ _ (by simp), World.cell?_alloc_at _ _ _ _ rfl]; rfl
        have x1 : ((wr.alloc (.cells #[.int .i64 (sz : Nat), .slice aa0 nums.length kk0, .bool sh, .slice aa1 ss.length kk1, .slice aa2 rs.length kk2] 101)).alloc (.cells #[.int .i64 (sz : Nat), .slice bb0 nums.length ll0, .bool sh, .slice bb1 ss.length ll1, .slice bb2 rs.length ll2] 101)).cell? ⟨wr.heap.size, 1, none⟩ = some (.slice aa0 nums.length kk0) := by rw [World.cell?_alloc_past _ _ _ (by simp), World.cell?_alloc_at _ _ _ _ rfl]; rfl
        have x2 : ((wr.alloc (.cells #[.int .i64 (sz : Nat), .slice aa0 nums.length kk0, .bool sh, .slice aa1 ss.length kk1, .slice aa2 rs.length kk2] 101)).alloc (.cells #[.int .i64 (sz : Nat), .slice bb0 nums.length ll0, .bool sh, .slice bb1 ss.length ll1, .slice bb2 rs.length ll2] 101)).cell? ⟨wr.heap.size, 2, none⟩ = some (.bool sh) := by rw [World.cell?_alloc_past _ _ _ (by simp), World.cell?_alloc_at _ _ _ _ rfl]; rfl
        have x3 : ((wr.alloc (.cells #[.int .i64 (sz : Nat), .slice aa0 nums.length kk0, .bool sh, .slice aa1 ss.length kk1, .slice aa2 rs.length kk2] 101)).alloc (.cells #[.int .i64 (sz : Nat), .slice bb0 nums.length ll0, .bool sh, .slice bb1 ss.length ll1, .slice bb2 rs.length ll2] 101)).cell? ⟨wr.heap.size, 3, none⟩ = some (.slice aa1 ss.length kk1) := by rw [World.cell?_alloc_past _ _ _ (by simp), World.cell?_alloc_at _ _ _ _ rfl]; rfl
        have x4 : ((wr.alloc (.cells #[.int .i64 (sz : Nat), .slice aa0 nums.length kk0, .bool sh, .slice aa1 ss.length kk1, .slice aa2 rs.length kk2] 101)).alloc (.cells #[.int .i64 (sz : Nat), .slice bb0 nums.length ll0, .bool sh, .slice bb1 ss.length ll1, .slice bb2 rs.length ll2] 101)).cell? ⟨wr.heap.size, 4, none⟩ = some (.slice aa2 rs.length kk2) := by rw [World.cell?_alloc_past _ _ _ (by simp), World.cell?_alloc_at _ _ _ _ rfl]; rfl
        have y0 : ((wr.alloc (.cells #[.int .i64 (sz : Nat), .slice aa0 nums.length kk0, .bool sh, .slice aa1 ss.length kk1, .slice aa2 rs.length kk2] 101)).alloc (.cells #[.int .i64 (sz : Nat), .slice bb0 nums.length ll0, .bool sh, .slice bb1 ss.length ll1, .slice bb2 rs.length ll2] 101)).cell? ⟨wr.heap.size + 1, 0, none⟩ = some (.int .i64 (sz : Nat)) := by rw [World.cell?_alloc_at _ _ _ _ (by simp)]; rfl
        have y1 : ((wr.alloc (.cells #[.int .i64 (sz : Nat), .slice aa0 nums.length kk0, .bool sh, .slice aa1 ss.length kk1, .slice aa2 rs.length kk2] 101)).alloc (.cells #[.int .i64 (sz : Nat), .slice bb0 nums.length ll0, .bool sh, .slice bb1 ss.length ll1, .slice bb2 rs.length ll2] 101)).cell? ⟨wr.heap.size + 1, 1, none⟩ = some (.slice bb0 nums.length ll0) := by rw [World.cell?_alloc_at _ _ _ _ (by simp)]; rfl
        have y2 : ((wr.alloc (.cells #[.int .i64 (sz : Nat), .slice aa0 nums.length kk0, .bool sh, .slice aa1 ss.length kk1, .slice aa2 rs.length kk2] 101)).alloc (.cells #[.int .i64 (sz : Nat), .slice bb0 nums.length ll0, .bool sh, .slice bb1 ss.length ll1, .slice bb2 rs.length ll2] 101)).cell? ⟨wr.heap.size + 1, 2, none⟩ = some (.bool sh) := by rw [World.cell?_alloc_at _ _ _ _ (by simp)]; rfl
        have y3 : ((wr.alloc (.cells #[.int .i64 (sz : Nat), .slice aa0 nums.length kk0, .bool sh, .slice aa1 ss.length kk1, .slice aa2 rs.length kk2] 101)).alloc (.cells #[.int .i64 (sz : Nat), .slice bb0 nums.length ll0, .bool sh, .slice bb1 ss.length ll1, .slice bb2 rs.length ll2] 101)).cell? ⟨wr.heap.size + 1, 3, none⟩ = some (.slice bb1 ss.length ll1) := by rw [World.cell?_alloc_at _ _ _ _ (by simp)]; rfl
        have y4 : ((wr.alloc (.cells #[.int .i64 (sz : Nat), .slice aa0 nums.length kk0, .bool sh, .slice aa1 ss.length kk1, .slice aa2 rs.length kk2] 101)).alloc (.cells #[.int .i64 (sz : Nat), .slice bb0 nums.length ll0, .bool sh, .slice bb1 ss.length ll1, .slice bb2 rs.length ll2] 101)).cell? ⟨wr.heap.size + 1, 4, none⟩ = some (.slice bb2 rs.length ll2) := by rw [World.cell?_alloc_at _ _ _ _ (by simp)]; rfl
        have hsz : ((wr.alloc (.cells #[.int .i64 (sz : Nat), .slice aa0 nums.length kk0, .bool sh, .slice aa1 ss.length kk1, .slice aa2 rs.length kk2] 101)).alloc (.cells #[.int .i64 (sz : Nat), .slice bb0 nums.length ll0, .bool sh, .slice bb1 ss.length ll1, .slice bb2 rs.length ll2] 101)).heap.size = wr.heap.size + 2 := by simp
        obtain ⟨Z, hZ⟩ : ∃ Z, Z = ((wr.alloc (.cells #[.int .i64 (sz : Nat), .slice aa0 nums.length kk0, .bool sh, .slice aa1 ss.length kk1, .slice aa2 rs.length kk2] 101)).alloc (.cells #[.int .i64 (sz : Nat), .slice bb0 nums.length ll0, .bool sh, .slice bb1 ss.length ll1, .slice bb2 rs.length ll2] 101)) := ⟨_, rfl⟩
        rw [← hZ] at hbz hsz x0 x1 x2 x3 x4 y0 y1 y2 y3 y4 ⊢
        have HF : Hid (∀ V, Below Z.heap.size Z V → (V.cell? ⟨wr.heap.size, 3, none⟩ = some (.slice aa1 ss.length kk1) ∧ V.cell? ⟨wr.heap.size, 4, none⟩ = some (.slice aa2 rs.length kk2)) ∧ V.cell? ⟨wr.heap.size + 1, 3, none⟩ = some (.slice bb1 ss.length ll1) ∧ V.cell? ⟨wr.heap.size + 1, 4, none⟩ = some (.slice bb2 rs.length ll2)) := Lib.hid fun V hV =>
          ⟨⟨(hV.cell (p := ⟨wr.heap.size, 3, none⟩) (by show wr.heap.size < _; omega)).trans x3, (hV.cell (p := ⟨wr.heap.size, 4, none⟩) (by show wr.heap.size < _; omega)).trans x4⟩, (hV.cell (p := ⟨wr.heap.size + 1, 3, none⟩) (by show wr.heap.size + 1 < _; omega)).trans y3, (hV.cell (p := ⟨wr.heap.size + 1, 4, none⟩) (by show wr.heap.size + 1 < _; omega)).trans y4⟩
        have HBZ := Lib.hid hbz
        have z1 : (sh != sh) = false := by simp
        clear hbz hsz hZ q0 q1 q2 q3 q4 r0 r1 r2 r3 r4
        clear q0a q0b q0c q0d q0e q1a q1b q1c q1d q1e q2a q2b q2c q2d q2e q3a q3b q3c q3d q3e q4a q4b q4c q4d q4e r0a r0b r0c r0d r0e r1a r1b r1c r1d r1e r2a r2b r2c r2d r2e r3a r3b r3c r3d r3e r4a r4b r4c r4d r4e
        go_wp2_with fail
        refine (sameInts_any (HI1.out.below (Below.drew HBZ.out)) (HI2.out.below (Below.drew HBZ.out))).mono ?_
        rintro e V1 ⟨rfl, hb1⟩
        have HB1 : Hid (Below Z.heap.size Z V1) := Lib.hid (bel_step' (Below.refl _ _) hb1)
        obtain ⟨⟨m1, m2⟩, m3, m4⟩ := HF.out V1 HB1.out
        have hk1 := Keeps.of_new (S := fun _ => False) (HBZ.out.trans (HB1.out.mono HBZ.out.size))
        have HSA := Lib.hid (sameWaits_any (HS1.out.keeps hk1 fun _ _ => id) (HS2.out.keeps hk1 fun _ _ => id))
        clear hb1 hk1
        go_wp2_with fail
        refine HSA.out.mono ?_
        rintro e V2 ⟨rfl, hb2⟩
        have HB2 : Hid (Below Z.heap.size Z V2) := Lib.hid (bel_step HB1.out hb2)
        obtain ⟨⟨p1, p2⟩, p3, p4⟩ := HF.out V2 HB2.out
        have hk2 := Keeps.of_new (S := fun _ => False) (HBZ.out.trans (HB2.out.mono HBZ.out.size))
        have HSB := Lib.hid (sameWaits_any (HR1.out.keeps hk2 fun _ _ => id) (HR2.out.keeps hk2 fun _ _ => id))
        clear hb2 hk2
        go_wp2_with fail
        refine HSB.out.mono ?_
        rintro e V3 ⟨rfl, hb3⟩
        have HB3 : Hid (Below w.heap.size w V3) := Lib.hid (HBZ.out.trans ((bel_step HB2.out hb3).mono HBZ.out.size))
        clear hb3
        go_wp2_with fail
        go_roundw
        case rel => exact ⟨i + 1, by omega, by go_num, HB3.out⟩
        case measure => simp [intOf]; omega
      · have hbz : Below w.heap.size w ((wr.alloc (.cells #[.int .i64 (sz : Nat), .slice bb0 nums.length ll0, .bool sh, .slice bb1 ss.length ll1, .slice bb2 rs.length ll2] 101)).alloc (.cells #[.int .i64 (sz : Nat), .slice aa0 nums.length kk0, .bool sh, .slice aa1 ss.length kk1, .slice aa2 rs.length kk2] 101)) := (HB.out.alloc HB.out.size _).alloc (by simp; have := HB.out.size; omega) _
        have x0 : ((wr.alloc (.cells #[.int .i64 (sz : Nat), .slice bb0 nums.length ll0, .bool sh, .slice bb1 ss.length ll1, .slice bb2 rs.length ll2] 101)).alloc (.cells #[.int .i64 (sz : Nat), .slice aa0 nums.length kk0, .bool sh, .slice aa1 ss.length kk1, .slice aa2 rs.length kk2] 101)).cell? ⟨wr.heap.size + 1, 0, none⟩ = some (.int .i64 (sz : Nat)) := by rw [World.cell?_alloc_at _ _ _ _ (by simp)]; rfl
        have x1 : ((wr.alloc (.cells #[.int .i64 (sz : Nat), .slice bb0 nums.length ll0, .bool sh, .slice bb1 ss.length ll1, .slice bb2 rs.length ll2] 101)).alloc (.cells #[.int .i64 (sz : Nat), .slice aa0 nums.length kk0, .bool sh, .slice aa1 ss.length kk1, .slice aa2 rs.length kk2] 101)).cell? ⟨wr.heap.size + 1, 1, none⟩ = some (.slice aa0 nums.length kk0) := by rw [World.cell?_alloc_at _ _ _ _ (by simp)]; rfl
        have x2 : ((wr.alloc (.cells #[.int .i64 (sz : Nat), .slice bb0 nums.length ll0, .bool sh, .slice bb1 ss.length ll1, .slice bb2 rs.length ll2] 101)).alloc (.cells #[.int .i64 (sz : Nat), .slice aa0 nums.length kk0, .bool sh, .slice aa1 ss.length kk1, .slice aa2 rs.length kk2] 101)).cell? ⟨wr.heap.size + 1, 2, none⟩ = some (.bool sh) := by rw [World.cell?_alloc_at _ _ _ _ (by simp)]; rfl
        have x3 : ((wr.alloc (.cells #[.int .i64 (sz : Nat), .slice bb0 nums.length ll0, .bool sh, .slice bb1 ss.length ll1, .slice bb2 rs.length ll2] 101)).alloc (.cells #[.int .i64 (sz : Nat), .slice aa0 nums.length kk0, .bool sh, .slice aa1 ss.length kk1, .slice aa2 rs.length kk2] 101)).cell? ⟨wr.heap.size + 1, 3, none⟩ = some (.slice aa1 ss.length kk1) := by rw [World.cell?_alloc_at _ _ _ _ (by simp)]; rfl
        have x4 : ((wr.alloc (.cells #[.int .i64 (sz : Nat), .slice bb0 nums.length ll0, .bool sh, .slice bb1 ss.length ll1, .slice bb2 rs.length ll2] 101)).alloc (.cells #[.int .i64 (sz : Nat), .slice aa0 nums.length kk0, .bool sh, .slice aa1 ss.length kk1, .slice aa2 rs.length kk2] 101)).cell? ⟨wr.heap.size + 1, 4, none⟩ = some (.slice aa2 rs.length kk2) := by rw [World.cell?_alloc_at _ _ _ _ (by simp)]; rfl
        have y0 : ((wr.alloc (.cells #[.int .i64 (sz : Nat), .slice bb0 nums.length ll0, .bool sh, .slice bb1 ss.length ll1, .slice bb2 rs.length ll2] 101)).alloc (.cells #[.int .i64 (sz : Nat), .slice aa0 nums.length kk0, .bool sh, .slice aa1 ss.length kk1, .slice aa2 rs.length kk2] 101)).cell? ⟨wr.heap.size, 0, none⟩ = some (.int .i64 (sz : Nat)) := by rw [World.cell?_alloc_past _ _ _ (by simp), World.cell?_alloc_at _ _ _ _ rfl]; rfl
        have y1 : ((wr.alloc (.cells #[.int .i64 (sz : Nat), .slice bb0 nums.length ll0, .bool sh, .slice bb1 ss.length ll1, .slice bb2 rs.length ll2] 101)).alloc (.cells #[.int .i64 (sz : Nat), .slice aa0 nums.length kk0, .bool sh, .slice aa1 ss.length kk1, .slice aa2 rs.length kk2] 101)).cell? ⟨wr.heap.size, 1, none⟩ = some (.slice bb0 nums.length ll0) := by rw [World.cell?_alloc_past _ _ _ (by simp), World.cell?_alloc_at _ _ _ _ rfl]; rfl
        have y2 : ((wr.alloc (.cells #[.int .i64 (sz : Nat), .slice bb0 nums.length ll0, .bool sh, .slice bb1 ss.length ll1, .slice bb2 rs.length ll2] 101)).alloc (.cells #[.int .i64 (sz : Nat), .slice aa0 nums.length kk0, .bool sh, .slice aa1 ss.length kk1, .slice aa2 rs.length kk2] 101)).cell? ⟨wr.heap.size, 2, none⟩ = some (.bool sh) := by rw [World.cell?_alloc_past _ _ _ (by simp), World.cell?_alloc_at _ _ _ _ rfl]; rfl
        have y3 : ((wr.alloc (.cells #[.int .i64 (sz : Nat), .slice bb0 nums.length ll0, .bool sh, .slice bb1 ss.length ll1, .slice bb2 rs.length ll2] 101)).alloc (.cells #[.int .i64 (sz : Nat), .slice aa0 nums.length kk0, .bool sh, .slice aa1 ss.length kk1, .slice aa2 rs.length kk2] 101)).cell? ⟨wr.heap.size, 3, none⟩ = some (.slice bb1 ss.length ll1) := by rw [World.cell?_alloc_past _ _ _ (by simp), World.cell?_alloc_at _ _ _ _ rfl]; rfl
        have y4 : ((wr.alloc (.cells #[.int .i64 (sz : Nat), .slice bb0 nums.length ll0, .bool sh, .slice bb1 ss.length ll1, .slice bb2 rs.length ll2] 101)).alloc (.cells #[.int .i64 (sz : Nat), .slice aa0 nums.length kk0, .bool sh, .slice aa1 ss.length kk1, .slice aa2 rs.length kk2] 101)).cell? ⟨wr.heap.size, 4, none⟩ = some (.slice bb2 rs.length ll2) := by rw [World.cell?_alloc_past _ _ _ (by simp), World.cell?_alloc_at _ _ _ _ rfl]; rfl
        have hsz : ((wr.alloc (.cells #[.int .i64 (sz : Nat), .slice bb0 nums.length ll0, .bool sh, .slice bb1 ss.length ll1, .slice bb2 rs.length ll2] 101)).alloc (.cells #[.int .i64 (sz : Nat), .slice aa0 nums.length kk0, .bool sh, .slice aa1 ss.length kk1, .slice aa2 rs.length kk2] 101)).heap.size = wr.heap.size + 2 := by simp
        obtain ⟨Z, hZ⟩ : ∃ Z, Z = ((wr.alloc (.cells #[.int .i64 (sz : Nat), .slice bb0 nums.length ll0, .bool sh, .slice bb1 ss.length ll1, .slice bb2 rs.length ll2] 101)).alloc (.cells #[.int .i64 (sz : Nat), .slice aa0 nums.length kk0, .bool sh, .slice aa1 ss.length kk1, .slice aa2 rs.length kk2] 101)) := ⟨_, rfl⟩
        rw [← hZ] at hbz hsz x0 x1 x2 x3 x4 y0 y1 y2 y3 y4 ⊢
        have HF : Hid (∀ V, Below Z.heap.size Z V → (V.cell? ⟨wr.heap.size + 1, 3, none⟩ = some (.slice aa1 ss.length kk1) ∧ V.cell? ⟨wr.heap.size + 1, 4, none⟩ = some (.slice aa2 rs.length kk2)) ∧ V.cell? ⟨wr.heap.size, 3, none⟩ = some (.slice bb1 ss.length ll1) ∧ V.cell? ⟨wr.heap.size, 4, none⟩ = some (.slice bb2 rs.length ll2)) := Lib.hid fun V hV =>
          ⟨⟨(hV.cell (p := ⟨wr.heap.size + 1, 3, none⟩) (by show wr.heap.size + 1 < _; omega)).trans x3, (hV.cell (p := ⟨wr.heap.size + 1, 4, none⟩) (by show wr.heap.size + 1 < _; omega)).trans x4⟩, (hV.cell (p := ⟨wr.heap.size, 3, none⟩) (by show wr.heap.size < _; omega)).trans y3, (hV.cell (p := ⟨wr.heap.size, 4, none⟩) (by show wr.heap.size < _; omega)).trans y4⟩
        have HBZ := Lib.hid hbz
        have z1 : (sh != sh) = false := by simp
        clear hbz hsz hZ q0 q1 q2 q3 q4 r0 r1 r2 r3 r4
        clear q0a q0b q0c q0d q0e q1a q1b q1c q1d q1e q2a q2b q2c q2d q2e q3a q3b q3c q3d q3e q4a q4b q4c q4d q4e r0a r0b r0c r0d r0e r1a r1b r1c r1d r1e r2a r2b r2c r2d r2e r3a r3b r3c r3d r3e r4a r4b r4c r4d r4e
        go_wp2_with fail
        refine (sameInts_any (HI1.out.below (Below.drew HBZ.out)) (HI2.out.below (Below.drew HBZ.out))).mono ?_
        rintro e V1 ⟨rfl, hb1⟩
        have HB1 : Hid (Below Z.heap.size Z V1) := Lib.hid (bel_step' (Below.refl _ _) hb1)
        obtain ⟨⟨m1, m2⟩, m3, m4⟩ := HF.out V1 HB1.out
        have hk1 := Keeps.of_new (S := fun _ => False) (HBZ.out.trans (HB1.out.mono HBZ.out.size))
        have HSA := Lib.hid (sameWaits_any (HS1.out.keeps hk1 fun _ _ => id) (HS2.out.keeps hk1 fun _ _ => id))
        clear hb1 hk1
        go_wp2_with fail
        refine HSA.out.mono ?_
        rintro e V2 ⟨rfl, hb2⟩
        have HB2 : Hid (Below Z.heap.size Z V2) := Lib.hid (bel_step HB1.out hb2)
        obtain ⟨⟨p1, p2⟩, p3, p4⟩ := HF.out V2 HB2.out
        have hk2 := Keeps.of_new (S := fun _ => False) (HBZ.out.trans (HB2.out.mono HBZ.out.size))
        have HSB := Lib.hid (sameWaits_any (HR1.out.keeps hk2 fun _ _ => id) (HR2.out.keeps hk2 fun _ _ => id))
        clear hb2 hk2
        go_wp2_with fail
        refine HSB.out.mono ?_
        rintro e V3 ⟨rfl, hb3⟩
        have HB3 : Hid (Below w.heap.size w V3) := Lib.hid (HBZ.out.trans ((bel_step HB2.out hb3).mono HBZ.out.size))
        clear hb3
        go_wp2_with fail
        go_roundw
        case rel => exact ⟨i + 1, by omega, by go_num, HB3.out⟩
        case measure => simp [intOf]; omega
    · obtain rfl : i = n := by omega
      have hnn : ¬ (i : Int) < (i : Int) := by omega
      go_wp2_with fail
      go_ret
      exact ⟨rfl, HB.out⟩
end Go.Proofs.YtppbmhpbbiigaaaDoor

namespace Go.Proofs.YtppbmhpbbiigaaaDoor
open Go.RowKit Go.Maps Pp

/-- 'append([]int(nil), other...)'. -/
theorem run_appendN {w : World} {u : Value} {xs : List Int} (hu : MidI w 0 u xs) (hl : xs.length ≤ 1000000) (t : TypeId) : ∃ v' w', (Builtin.append_ #[70, 70] t #[.slice none 0 0, u]).run Tryd.prog w = .ok v' w' ∧ OwnI w' w.heap.size v' xs ∧ Below w.heap.size w w' := by
  obtain ⟨i0, hi, hz0, hz1, hz2⟩ := info_parts info_int
  have hnil := ownI_nil w w.heap.size
  rcases hu with ⟨rfl, rfl⟩ | ⟨b, off, cap, rfl, h1, h2, h3, h4, h5, h6⟩
  · exact ⟨_, w, run_append_owned_none (P := Tryd.prog) (w := w) w.heap.size 70 t 3 i0 1 Tryd.underlying70 hi (.slice none 0 0) 0 [] hnil, hnil, Below.refl _ _⟩
  · obtain ⟨v', w', hr, g1, g2, _, g4⟩ := run_append_own_at (P := Tryd.prog) w w.heap.size 70 t 3 i0 (.int .i64 0) 1 8 Tryd.underlying70 hi hz0 hz1 hz2 rfl (by decide) (.slice none 0 0) 0 [] hnil ⟨b, off, none⟩ xs.length cap (xs.map (Value.int .i64)) (by simp)
      (fun j u hu => by
        rw [addr_addP]
        rw [List.getElem?_map] at hu
        obtain ⟨z, hz, rfl⟩ := Option.map_eq_some_iff.1 hu
        exact h5 j z hz) (fun u hu => by obtain ⟨y, _, rfl⟩ := List.mem_map.1 hu; rfl) (by unfold maxLen; omega) (by omega) (Nat.le_refl _)
    refine ⟨v', w', hr, by simpa [OwnI] using g1, (Keeps.of_grownBy (S := fun _ => False) g2 fun k _ e => by cases e).below (Nat.le_refl _) fun _ _ e => e.elim⟩
theorem wpList_appendN {ops : Array Oper} {rest : List Oper} {o : Oper} {a : Act} {Q : Exit → Act → World → Prop} (hgd : o.guard = none) (x : Operand)
    (ho : o.op = .call { callee := .builtin .append, args := #[.const (.slice none 0 0), x], argTypes := #[70, 70] }) (w : World) (u : Value) (xs : List Int) (hu : MidI w 0 u xs) (hx : a.eval x = u) (hl : xs.length ≤ 1000000)
    (h : ∀ ao cap w', OwnI w' w.heap.size (.slice ao xs.length cap) xs → Below w.heap.size w w' → wpList Tryd.prog ops Q rest (a.put o.dst (.slice ao xs.length cap)) w') : wpList Tryd.prog ops Q (o :: rest) a w := by
  refine wpList_plain hgd fun K hK => ?_
  obtain ⟨v', w', hr, h1, h2⟩ := run_appendN hu hl o.type
  obtain ⟨ao, cap, rfl⟩ := h1.slice
  unfold Oper.wp execOp
  have hs0 : a.eval (.const (.slice none 0 0)) = .slice none 0 0 := rfl
  simp only [ho, resolve, invoke, builtin, Sem.run_bind, Sem.run_pure, Result.andThen_ok, List.map_toArray, List.map_cons, List.map_nil, hs0, hx, hr]
  exact hK _ _ (h _ _ _ h1 h2)
theorem step_appendN {ops : Array Oper} {o : Oper} {a : Act} {w : World} {K : Act → World → Prop} {Q : Exit → Act → World → Prop} {F : Prop} (hgd : o.guard = none) (x : Operand)
    (ho : o.op = .call { callee := .builtin .append, args := #[.const (.slice none 0 0), x], argTypes := #[70, 70] }) (u : Value) (xs : List Int) (hu : MidI w 0 u xs) (hl : xs.length ≤ 1000000) (hx : a.eval x = u)
    (h : ∀ ao cap w', OwnI w' w.heap.size (.slice ao xs.length cap) xs → Below w.heap.size w w' → K (a.put o.dst (.slice ao xs.length cap)) w') : if Region.wanted o (yielded ops a.tmps) = true then Oper.wp Tryd.prog o a w K Q else F := by
  have hw : Region.wanted o (yielded ops a.tmps) = true := by simp [Region.wanted, hgd]
  rw [if_pos hw]
  obtain ⟨v', w', hr, h1, h2⟩ := run_appendN hu hl o.type
  obtain ⟨ao, cap, rfl⟩ := h1.slice
  unfold Oper.wp
  have hs0 : a.eval (.const (.slice none 0 0)) = .slice none 0 0 := rfl
  simp [execOp, ho, resolve, invoke, builtin, hs0, hx, hr, Result.andThen]
  exact h _ _ _ h1 h2
/-- 'l = append(l, x)', as one step of a region that draws. -/
theorem step_appendSn {ops : Array Oper} {o : Oper} {a : Act} {w : World} {K : Act → World → Prop} {Q : Exit → Act → World → Prop} {F : Prop} (hgd : o.guard = none) (s x : Operand)
    (ho : o.op = .call { callee := .builtin .append, args := #[s, x], argTypes := #[57, 57] }) (B : Nat) (v : Value) (L : List Sn) (c : Ch) {a0 a1 a2 : Option Addr} {n0 n1 n2 k0 k1 k2 : Nat} (hown : Looked w B v L) {b : Nat} (hb : b = w.heap.size)
    (hseen : SeenC w B c (.slice a0 n0 k0) (.slice a1 n1 k1) (.slice a2 n2 k2)) (hl : L.length ≤ 1000000) (hB : B ≤ w.heap.size) (hs : a.eval s = v) (hx : a.eval x = .slice (some ⟨b, 0, none⟩) 1 1)
    (h : ∀ ao' cap' w', Looked w' B (.slice ao' (L.length + 1) cap') (L ++ [Sn.mk c (.slice a0 n0 k0) (.slice a1 n1 k1) (.slice a2 n2 k2)]) → Keeps (fun b => v.ownBlock = some b) w w' → K (a.put o.dst (.slice ao' (L.length + 1) cap')) w') :
    if Region.wanted o (yielded ops a.tmps) = true then Oper.wp Tryd.prog o a (w.alloc (.cells #[.int .i64 (c.size : Int), .slice a0 n0 k0, .bool c.shut, .slice a1 n1 k1, .slice a2 n2 k2] 101)) K Q else F := by
  have hw : Region.wanted o (yielded ops a.tmps) = true := by simp [Region.wanted, hgd]
  rw [if_pos hw]
  subst hb
  obtain ⟨i0, hi, hz0, hz1, hz2⟩ := tinfoP info_pipe
  have hnew : ∀ j u, [Value.int .i64 (c.size : Int), .slice a0 n0 k0, .bool c.shut, .slice a1 n1 k1, .slice a2 n2 k2][j]? = some u → (w.alloc (.cells #[.int .i64 (c.size : Int), .slice a0 n0 k0, .bool c.shut, .slice a1 n1 k1, .slice a2 n2 k2] 101)).cell? ((⟨w.heap.size, 0, none⟩ : Addr).add j) = some u := fun j u hu => by
    rw [addr_addP, World.cell?_alloc_at _ _ _ _ rfl]
    rcases j with _ | _ | _ | _ | _ | j
    · exact hu
    · exact hu
    · exact hu
    · exact hu
    · exact hu
    · simp at hu
  obtain ⟨v', w', hr, h1, h2, _, h4⟩ := run_append_own_at (P := Tryd.prog) _ B 57 o.type 101 i0 _ 5 88 Tryd.underlying57 hi hz0 hz1 hz2 rfl (by decide) v L.length (cellsP L) (World.ownsRow.alloc hown.row (.cells #[.int .i64 (c.size : Int), .slice a0 n0 k0, .bool c.shut, .slice a1 n1 k1, .slice a2 n2 k2] 101)) ⟨w.heap.size, 0, none⟩ 1 1 [.int .i64 (c.size : Int), .slice a0 n0 k0, .bool c.shut, .slice a1 n1 k1, .slice a2 n2 k2] rfl
    hnew (fun u hu => by simp at hu; rcases hu with rfl | rfl | rfl | rfl | rfl <;> rfl) (by unfold maxLen; omega) (by omega) (by simp; omega)
  have hk := keeps_append h2 (S := fun b => v.ownBlock = some b) fun k e => e
  have hO : w'.ownsRow B 101 5 v' (L ++ [Sn.mk c (.slice a0 n0 k0) (.slice a1 n1 k1) (.slice a2 n2 k2)]).length (cellsP (L ++ [Sn.mk c (.slice a0 n0 k0) (.slice a1 n1 k1) (.slice a2 n2 k2)])) := by
    rw [cellsP_append, List.length_append]
    exact h1
  have hsl : ∃ ao' cap', v' = .slice ao' (L.length + 1) cap' := by
    obtain ⟨ao', cap', e⟩ := own_slice hO
    exact ⟨ao', cap', by rw [e, List.length_append]; rfl⟩
  obtain ⟨ao', cap', rfl⟩ := hsl
  unfold Oper.wp
  simp [execOp, ho, resolve, invoke, builtin, hs, hx, hr, Result.andThen]
  refine h _ _ _ ⟨hO, fun y hy => ?_⟩ hk
  rcases List.mem_append.1 hy with hy | hy
  · exact (hown.seen y hy).far hown.row hk
  · rw [List.mem_singleton.1 hy]
    exact hseen.far hown.row hk
section
variable {w : World} {σ : Nat → RRole} {rb : Nat} {vl : Value} {ptr : List Nat} {vw : Value} {us : List (Int × Value)} {s : St} {ws : List (Int × List Tk)}
set_option maxRecDepth 100000 in
set_option maxHeartbeats 6400000 in
theorem rlook_any (h : RefsAt w σ rb vl ptr vw us s ws) (hN : ws.length ≤ 10000) : Calls Tryd.prog 19 #[.pointer (some ⟨rb, 0, none⟩)] w fun e w' =>
    ∃ ao cap, e = .returned (.slice ao s.chs.length cap) ∧ ∃ L, L.map Sn.c = s.chs ∧ Looked w' w.heap.size (.slice ao s.chs.length cap) L ∧ Below w.heap.size w w' := by
  obtain ⟨av, capv, rfl, hcap⟩ := h.vls
  have HH := Lib.hid h
  have c0 := h.c0
  have hm32 := h.ok.many
  obtain ⟨m, hm⟩ : ∃ m, m = s.chs.length := ⟨_, rfl⟩
  have HM := Lib.hid hm
  rw [← hm] at c0 hcap HH hm32 ⊢
  clear h hm
  go_enter Tryd.func19, Tryd.ntmps19
  go_wp2_with fail
  go_loopw [3, 11] (fun l i W => ∃ (k : Nat) (a : Option Addr) (cap : Nat) (L : List Sn), k ≤ m ∧ i = .int .i64 k ∧ l = .slice a k cap ∧ L.map Sn.c = s.chs.take k ∧ Looked W w.heap.size (.slice a k cap) L ∧ Below w.heap.size w W) (fun _ i _ => m - (intOf i).toNat)
  case atStart => exact ⟨0, none, 0, [], Nat.zero_le _, rfl, rfl, rfl, ⟨World.ownsRow_nil _ _ _ _, fun _ h => by cases h⟩, Below.refl _ _⟩
  case round =>
    obtain ⟨k, a, cap, L, hk, rfl, rfl, hm, hlk, hb⟩ := hrel
    rename World => wr
    have HMM := Lib.hid hm
    have HLK := Lib.hid hlk
    have HB := Lib.hid hb
    have hLl : Hid (L.length = k) := Lib.hid (by
      have := congrArg List.length HMM.out
      rw [List.length_map, List.length_take] at this
      have := HM.out
      omega)
    clear hm hlk hb
    by_cases hlt : k < m
    · obtain ⟨x, hx⟩ : ∃ x, s.chs[k]? = some x := ⟨_, List.getElem?_eq_getElem (by rw [← HM.out]; exact hlt)⟩
      obtain ⟨g, cap', cb, v, hv, hgl, -, hcb, f1, hch⟩ := HH.out.at hx
      rw [Value.slice.injEq] at hv
      obtain ⟨rfl, -, rfl⟩ := hv
      obtain ⟨an, kn, rfl⟩ := hch.nums.slice
      have d1 := (HB.out.cell (p := ⟨g, k, none⟩) hgl).trans f1
      have hki : (0 : Int) ≤ (k : Int) ∧ (k : Int) < (m : Int) := by omega
      obtain ⟨hr3, hr10⟩ := HH.out.rel.rows k x hx
      have hcaps := HH.out.ok.caps k x hx
      have HX := Lib.hid hx
      have HRS : Hid (∀ V, Below w.heap.size w V → ∀ what u, rowR ws what ((k : Int) + 1) = u → Calls Tryd.prog 30 #[.pointer (some ⟨rb, 0, none⟩), .int .i64 ((k : Int) + 1), .int .i64 what] V fun e V' => ∃ au cu, e = .returned (.slice au u.length cu) ∧ V'.ownsRow V.heap.size 90 2 (.slice au u.length cu) u.length (cellsW u) ∧ Below V.heap.size V V') := Lib.hid fun V hV what u hu => by
        subst hu
        refine (rrow_any (HH.out.keeps (Keeps.of_new (S := fun _ => False) hV) fun _ _ e => e.elim) hN _ _).mono ?_
        rintro e w' ⟨u, rfl, h1, h2⟩
        obtain ⟨au, cu, rfl⟩ := own_slice h1
        exact ⟨au, cu, rfl, h1, h2⟩
      have HF : Hid (∀ V, Below w.heap.size w V → V.cell? ⟨cb, 0, none⟩ = some (.int .i64 (x.size : Nat)) ∧ V.cell? ⟨cb, 1, none⟩ = some (.slice an x.nums.length kn) ∧ V.cell? ⟨cb, 2, none⟩ = some (.bool x.shut)) := Lib.hid fun V hV =>
        ⟨(hV.cell (p := ⟨cb, 0, none⟩) hch.lt).trans hch.c0, (hV.cell (p := ⟨cb, 1, none⟩) hch.lt).trans hch.c1, (hV.cell (p := ⟨cb, 2, none⟩) hch.lt).trans hch.c2⟩
      have HNM : Hid (∀ V, Below w.heap.size w V → MidI V 0 (.slice an x.nums.length kn) x.nums) := Lib.hid fun V hV => hch.nums.keeps (Keeps.of_new (S := fun _ => False) hV) fun _ _ => id
      have HR3 := Lib.hid hr3.symm
      have HR10 := Lib.hid hr10.symm
      have HNL : Hid (x.nums.length ≤ 8) := Lib.hid (by omega)
      have hsum : IntKind.i64.wrap ((k : Int) + 1) = (k : Int) + 1 := by rw [IntKind.wrap_i64]; omega
      clear f1 hch hr3 hr10 hcaps hx hgl hcb
      go_upto_region 5 with fail

      have HBD : Hid (Below w.heap.size w wr.drew) := Lib.hid (Below.drew HB.out)
      refine wp_region_held_drew (S := (fun W : World => W.cell? ⟨cb, 0, none⟩ = some (.int .i64 (x.size : Nat)) ∧ W.cell? ⟨cb, 1, none⟩ = some (.slice an x.nums.length kn) ∧ W.cell? ⟨cb, 2, none⟩ = some (.bool x.shut))) (by kernel_rfl) (HF.out _ HBD.out) (fun hHeld => ?_)
      refine wpAnyH_take (i := 0) (oi := { dst := some 16, op := _, type := _, pos := _, after := _, guard := _ }) (v := .slice a k cap) rfl (by kernel_rfl) (by kernel_rfl) (by kernel_rfl) (fun _ _ _ h => h) (Or.inl ⟨by rfl, ?_⟩) hHeld ?_
      · intro W9 hSW
        (try dsimp only at hSW)
        go_simp
      try simp only [Act.put, List.setIfInBounds_toArray, List.set_cons_zero, List.set_cons_succ]
      refine wpAnyH_take (i := 1) (oi := { dst := some 17, op := _, type := _, pos := _, after := _, guard := _ }) (v := .pointer (some ⟨cb, 0, none⟩)) rfl (by kernel_rfl) (by kernel_rfl) (by kernel_rfl) (fun _ _ _ h => h) (Or.inl ⟨by rfl, ?_⟩) hHeld ?_
      · intro W9 hSW
        (try dsimp only at hSW)
        go_simp
      try simp only [Act.put, List.setIfInBounds_toArray, List.set_cons_zero, List.set_cons_succ]
      refine wpAnyH_take (i := 2) (oi := { dst := some 18, op := _, type := _, pos := _, after := _, guard := _ }) (v := .pointer (some ⟨cb, 0, none⟩)) rfl (by kernel_rfl) (by kernel_rfl) (by kernel_rfl) (fun _ _ _ h => h) (Or.inl ⟨by rfl, ?_⟩) hHeld ?_
      · intro W9 hSW
        (try dsimp only at hSW)
        go_simp
      try simp only [Act.put, List.setIfInBounds_toArray, List.set_cons_zero, List.set_cons_succ]
      refine wpAnyH_take (i := 3) (oi := { dst := some 19, op := _, type := _, pos := _, after := _, guard := _ }) (v := .pointer (some ⟨cb, 0, none⟩)) rfl (by kernel_rfl) (by kernel_rfl) (by kernel_rfl) (fun _ _ _ h => h) (Or.inl ⟨by rfl, ?_⟩) hHeld ?_
      · intro W9 hSW
        (try dsimp only at hSW)
        go_simp
      try simp only [Act.put, List.setIfInBounds_toArray, List.set_cons_zero, List.set_cons_succ]
      refine wpAnyH_take (i := 4) (oi := { dst := some 20, op := _, type := _, pos := _, after := _, guard := _ }) (v := .int .i64 (x.size : Nat)) rfl (by kernel_rfl) (by kernel_rfl) (by kernel_rfl) (fun _ _ _ h => h) (Or.inl ⟨by rfl, ?_⟩) hHeld ?_
      · intro W9 hSW
        (try dsimp only at hSW)
        go_simp
      try simp only [Act.put, List.setIfInBounds_toArray, List.set_cons_zero, List.set_cons_succ]
      refine wpAnyH_take (i := 5) (oi := { dst := some 21, op := _, type := _, pos := _, after := _, guard := _ }) (v := .pointer (some ⟨cb, 0, none⟩)) rfl (by kernel_rfl) (by kernel_rfl) (by kernel_rfl) (fun _ _ _ h => h) (Or.inl ⟨by rfl, ?_⟩) hHeld ?_
      · intro W9 hSW
        (try dsimp only at hSW)
        go_simp
      try simp only [Act.put, List.setIfInBounds_toArray, List.set_cons_zero, List.set_cons_succ]
      refine wpAnyH_take (i := 6) (oi := { dst := some 22, op := _, type := _, pos := _, after := _, guard := _ }) (v := .pointer (some ⟨cb, 0, none⟩)) rfl (by kernel_rfl) (by kernel_rfl) (by kernel_rfl) (fun _ _ _ h => h) (Or.inl ⟨by rfl, ?_⟩) hHeld ?_
      · intro W9 hSW
        (try dsimp only at hSW)
        go_simp
      try simp only [Act.put, List.setIfInBounds_toArray, List.set_cons_zero, List.set_cons_succ]
      refine wpAnyH_take (i := 7) (oi := { dst := some 23, op := _, type := _, pos := _, after := _, guard := _ }) (v := .pointer (some ⟨cb, 1, none⟩)) rfl (by kernel_rfl) (by kernel_rfl) (by kernel_rfl) (fun _ _ _ h => h) (Or.inl ⟨by rfl, ?_⟩) hHeld ?_
      · intro W9 hSW
        (try dsimp only at hSW)
        go_simp
      try simp only [Act.put, List.setIfInBounds_toArray, List.set_cons_zero, List.set_cons_succ]
      refine wpAnyH_take (i := 8) (oi := { dst := some 24, op := _, type := _, pos := _, after := _, guard := _ }) (v := .slice an x.nums.length kn) rfl (by kernel_rfl) (by kernel_rfl) (by kernel_rfl) (fun _ _ _ h => h) (Or.inl ⟨by rfl, ?_⟩) hHeld ?_
      · intro W9 hSW
        (try dsimp only at hSW)
        go_simp
      try simp only [Act.put, List.setIfInBounds_toArray, List.set_cons_zero, List.set_cons_succ]
      refine wpAnyH_take (i := 10) (oi := { dst := some 26, op := _, type := _, pos := _, after := _, guard := _ }) (v := .pointer (some ⟨cb, 0, none⟩)) rfl (by kernel_rfl) (by kernel_rfl) (by kernel_rfl) (fun _ _ _ h => h) (Or.inl ⟨by rfl, ?_⟩) hHeld ?_
      · intro W9 hSW
        (try dsimp only at hSW)
        go_simp
      try simp only [Act.put, List.setIfInBounds_toArray, List.set_cons_zero, List.set_cons_succ]
      refine wpAnyH_take (i := 11) (oi := { dst := some 27, op := _, type := _, pos := _, after := _, guard := _ }) (v := .pointer (some ⟨cb, 0, none⟩)) rfl (by kernel_rfl) (by kernel_rfl) (by kernel_rfl) (fun _ _ _ h => h) (Or.inl ⟨by rfl, ?_⟩) hHeld ?_
      · intro W9 hSW
        (try dsimp only at hSW)
        go_simp
      try simp only [Act.put, List.setIfInBounds_toArray, List.set_cons_zero, List.set_cons_succ]
      refine wpAnyH_take (i := 12) (oi := { dst := some 28, op := _, type := _, pos := _, after := _, guard := _ }) (v := .pointer (some ⟨cb, 2, none⟩)) rfl (by kernel_rfl) (by kernel_rfl) (by kernel_rfl) (fun _ _ _ h => h) (Or.inl ⟨by rfl, ?_⟩) hHeld ?_
      · intro W9 hSW
        (try dsimp only at hSW)
        go_simp
      try simp only [Act.put, List.setIfInBounds_toArray, List.set_cons_zero, List.set_cons_succ]
      refine wpAnyH_take (i := 13) (oi := { dst := some 29, op := _, type := _, pos := _, after := _, guard := _ }) (v := .bool x.shut) rfl (by kernel_rfl) (by kernel_rfl) (by kernel_rfl) (fun _ _ _ h => h) (Or.inl ⟨by rfl, ?_⟩) hHeld ?_
      · intro W9 hSW
        (try dsimp only at hSW)
        go_simp
      try simp only [Act.put, List.setIfInBounds_toArray, List.set_cons_zero, List.set_cons_succ]
      refine wpAnyH_take (i := 14) (oi := { dst := some 30, op := _, type := _, pos := _, after := _, guard := _ }) (v := .pointer (some ⟨rb, 0, none⟩)) rfl (by kernel_rfl) (by kernel_rfl) (by kernel_rfl) (fun _ _ _ h => h) (Or.inl ⟨by rfl, ?_⟩) hHeld ?_
      · intro W9 hSW
        (try dsimp only at hSW)
        go_simp
      try simp only [Act.put, List.setIfInBounds_toArray, List.set_cons_zero, List.set_cons_succ]
      refine wpAnyH_take (i := 15) (oi := { dst := some 31, op := _, type := _, pos := _, after := _, guard := _ }) (v := .int .i64 (k : Nat)) rfl (by kernel_rfl) (by kernel_rfl) (by kernel_rfl) (fun _ _ _ h => h) (Or.inl ⟨by rfl, ?_⟩) hHeld ?_
      · intro W9 hSW
        (try dsimp only at hSW)
        go_simp
      try simp only [Act.put, List.setIfInBounds_toArray, List.set_cons_zero, List.set_cons_succ]
      refine wpAnyH_take (i := 16) (oi := { dst := some 32, op := _, type := _, pos := _, after := _, guard := _ }) (v := .int .i64 ((k : Int) + 1)) rfl (by kernel_rfl) (by kernel_rfl) (by kernel_rfl) (fun _ _ _ h => h) (Or.inl ⟨by rfl, ?_⟩) hHeld ?_
      · intro W9 hSW
        (try dsimp only at hSW)
        go_simp
      try simp only [Act.put, List.setIfInBounds_toArray, List.set_cons_zero, List.set_cons_succ]
      refine wpAnyH_take (i := 18) (oi := { dst := some 34, op := _, type := _, pos := _, after := _, guard := _ }) (v := .pointer (some ⟨rb, 0, none⟩)) rfl (by kernel_rfl) (by kernel_rfl) (by kernel_rfl) (fun _ _ _ h => h) (Or.inl ⟨by rfl, ?_⟩) hHeld ?_
      · intro W9 hSW
        (try dsimp only at hSW)
        go_simp
      try simp only [Act.put, List.setIfInBounds_toArray, List.set_cons_zero, List.set_cons_succ]
      refine wpAnyH_take (i := 19) (oi := { dst := some 35, op := _, type := _, pos := _, after := _, guard := _ }) (v := .int .i64 (k : Nat)) rfl (by kernel_rfl) (by kernel_rfl) (by kernel_rfl) (fun _ _ _ h => h) (Or.inl ⟨by rfl, ?_⟩) hHeld ?_
      · intro W9 hSW
        (try dsimp only at hSW)
        go_simp
      try simp only [Act.put, List.setIfInBounds_toArray, List.set_cons_zero, List.set_cons_succ]
      refine wpAnyH_take (i := 20) (oi := { dst := some 36, op := _, type := _, pos := _, after := _, guard := _ }) (v := .int .i64 ((k : Int) + 1)) rfl (by kernel_rfl) (by kernel_rfl) (by kernel_rfl) (fun _ _ _ h => h) (Or.inl ⟨by rfl, ?_⟩) hHeld ?_
      · intro W9 hSW
        (try dsimp only at hSW)
        go_simp
      try simp only [Act.put, List.setIfInBounds_toArray, List.set_cons_zero, List.set_cons_succ]
      refine wpAnyH_ready (rs := [9]) (by kernel_rfl) (by simp) ?_
      refine AllReadyH.cons (o := { dst := some 25, op := _, type := _, pos := _, after := _, guard := _ }) rfl (fun K hK => ?_) AllReadyH.nil
      refine step_appendN rfl (.tmp 24) rfl _ x.nums (HNM.out _ HBD.out) (by have := HNL.out; omega) (by simp [Act.eval]) ?_
      intro a1 k1 w1 ho1 hb1
      have HO1 := Lib.hid ho1
      have HB1 : Hid (Below wr.heap.size wr w1) := Lib.hid (bel_step' (Below.refl _ _) hb1)
      have HW1 : Hid (Below w.heap.size w w1) := Lib.hid (HB.out.trans (HB1.out.mono HB.out.size))
      have HZ1 : Hid (wr.heap.size ≤ wr.drew.heap.size) := Lib.hid (Nat.le_refl _)
      have hg1 := HF.out w1 HW1.out
      clear ho1 hb1
      refine hK.out _ _ hg1 (fun hHeld => ?_)
      clear hK K hg1
      refine wpAnyH_ready (rs := [17]) (by kernel_rfl) (by simp) ?_
      refine AllReadyH.cons (o := { dst := some 33, op := _, type := _, pos := _, after := _, guard := _ }) rfl (fun K hK => ?_) AllReadyH.nil
      go_simp
      go_at_call 30
      refine (HRS.out w1 HW1.out 3 x.sends HR3.out).mono ?_
      rintro e w2 ⟨a2, k2, rfl, ho2, hb2⟩
      have HO2 := Lib.hid ho2
      have HB2 := Lib.hid hb2
      have HW2 : Hid (Below w.heap.size w w2) := Lib.hid (bel_step HW1.out hb2)
      have hg2 := HF.out w2 HW2.out
      clear ho2 hb2
      refine hK.out _ _ hg2 (fun hHeld => ?_)
      clear hK K hg2
      refine wpAnyH_ready (rs := [21]) (by kernel_rfl) (by simp) ?_
      refine AllReadyH.cons (o := { dst := some 37, op := _, type := _, pos := _, after := _, guard := _ }) rfl (fun K hK => ?_) AllReadyH.nil
      go_simp
      go_at_call 30
      refine (HRS.out w2 HW2.out 10 x.recvs HR10.out).mono ?_
      rintro e w3 ⟨a3, k3, rfl, ho3, hb3⟩
      have HO3 := Lib.hid ho3
      have HB3 := Lib.hid hb3
      have HW3 : Hid (Below w.heap.size w w3) := Lib.hid (bel_step HW2.out hb3)
      have hg3 := HF.out w3 HW3.out
      clear ho3 hb3
      refine hK.out _ _ hg3 (fun hHeld => ?_)
      clear hK K hg3
      refine wpAnyH_take (i := 22) (oi := { dst := some 38, op := _, type := _, pos := _, after := _, guard := _ }) (v := .agg #[.int .i64 (x.size : Nat), .slice a1 x.nums.length k1, .bool x.shut, .slice a2 x.sends.length k2, .slice a3 x.recvs.length k3]) rfl (by kernel_rfl) (by kernel_rfl) (by kernel_rfl) (fun _ _ _ h => h) (Or.inl ⟨by rfl, ?_⟩) hHeld ?_
      · intro W9 hSW
        (try dsimp only at hSW)
        go_simp
      try simp only [Act.put, List.setIfInBounds_toArray, List.set_cons_zero, List.set_cons_succ]
      refine wpAnyH_ready (rs := [23]) (by kernel_rfl) (by simp) ?_
      refine AllReadyH.cons (o := { dst := some 39, op := _, type := _, pos := _, after := _, guard := _ }) rfl (fun K hK => ?_) AllReadyH.nil
      go_simp
      have hg4 := HF.out _ (HW3.out.alloc HW3.out.size (.cells #[.int .i64 (x.size : Nat), .slice a1 x.nums.length k1, .bool x.shut, .slice a2 x.sends.length k2, .slice a3 x.recvs.length k3] 101))
      refine hK.out _ _ hg4 (fun hHeld => ?_)
      clear hK K hg4
      have HLK3 : Hid (Looked w3 w.heap.size (.slice a k cap) L) := Lib.hid ((HLK.out.new HB1.out).new (bel_step (bel_step (Below.refl _ _) HB2.out) HB3.out))
      have HSEEN : Hid (SeenC w3 w.heap.size x (.slice a1 x.nums.length k1) (.slice a2 x.sends.length k2) (.slice a3 x.recvs.length k3)) := Lib.hid ⟨own_lower (((Keeps.of_new (S := fun _ => False) HB2.out).trans (Keeps.of_new HB3.out)).row HO1.out fun _ _ => id) HB.out.size, own_lower ((Keeps.of_new (S := fun _ => False) HB3.out).row HO2.out fun _ _ => id) HW1.out.size, own_lower HO3.out HW2.out.size⟩
      refine wpAnyH_ready (rs := [24]) (by kernel_rfl) (by simp) ?_
      refine AllReadyH.cons (o := { dst := some 40, op := _, type := _, pos := _, after := _, guard := _ }) rfl (fun K hK => ?_) AllReadyH.nil
      refine step_appendSn rfl (.tmp 16) (.tmp 39) rfl w.heap.size _ L x HLK3.out rfl HSEEN.out (by have := hLl.out; omega) HW3.out.size (by simp [Act.eval]) (by simp [Act.eval]) ?_
      intro a5 k5 w5 hlk5 hk5
      have HLK5 := Lib.hid hlk5
      have HW5 : Hid (Below w.heap.size w w5) := Lib.hid (HW3.out.trans (hk5.below HW3.out.size fun b _ e => (World.ownsRow.lt HLK3.out.row b e).1))
      have hg5 := HF.out _ HW5.out
      clear hlk5 hk5
      refine hK.out _ _ hg5 (fun hHeld => ?_)
      clear hK K hg5
      refine wpAnyH_take (i := 25) (oi := { dst := some 3, op := _, type := _, pos := _, after := _, guard := _ }) (v := .slice a5 (L.length + 1) k5) rfl (by kernel_rfl) (by kernel_rfl) (by kernel_rfl) (fun _ _ _ h => h) (Or.inl ⟨by rfl, ?_⟩) hHeld ?_
      · intro W9 hSW
        (try dsimp only at hSW)
        go_simp
      try simp only [Act.put, List.setIfInBounds_toArray, List.set_cons_zero, List.set_cons_succ]
      refine wpAnyH_done (by kernel_rfl) ?_ _
      go_wp2_with fail
      go_roundw
      case rel =>
        have h5 := HLK5.out
        rw [hLl.out] at h5
        exact ⟨k + 1, _, _, _, by omega, by go_num, by rw [hLl.out], by rw [List.map_append, HMM.out, List.take_succ_eq_append_getElem (List.getElem?_eq_some_iff.1 HX.out).1, (List.getElem?_eq_some_iff.1 HX.out).2]; rfl, h5, HW5.out⟩
      case measure => simp [intOf]; omega
    · obtain rfl : k = m := by omega
      have hkk : ¬ (k : Int) < (k : Int) := by omega
      have HTL : Hid (s.chs.take k = s.chs) := Lib.hid (by rw [HM.out]; exact List.take_length)
      go_wp2_with fail
      go_ret
      exact ⟨_, _, rfl, L, by rw [HMM.out, HTL.out], HLK.out, HB.out⟩
end
end Go.Proofs.YtppbmhpbbiigaaaDoor

namespace Go.Proofs.YtppbmhpbbiigaaaDoor
open Go.RowKit Go.Maps Pp

theorem cellsL_one (l : List Tk) : ∀ u ∈ cellsL l, u.oneCell' = true := fun u hu => by
  obtain ⟨j, hj⟩ := List.mem_iff_getElem?.1 hu
  obtain ⟨i, x, _, e2⟩ := get_cellsL l j u hj
  rcases e2 with ⟨_, rfl⟩ | ⟨_, rfl⟩ | ⟨_, rfl⟩ <;> rfl
/-- 'append([]api.Talk(nil), l...)'. -/
theorem run_appendTk {w : World} {u : Value} {l : List Tk} (hu : TalksAt w u l) (hl : l.length ≤ 1000000) (t : TypeId) : ∃ v' w', (Builtin.append_ #[32, 32] t #[.slice none 0 0, u]).run Tryd.prog w = .ok v' w' ∧ w'.ownsRow w.heap.size 85 3 v' l.length (cellsL l) ∧ Below w.heap.size w w' := by
  obtain ⟨i0, hi, hz0, hz1, hz2⟩ := tinfoP info_talk
  have hnil : w.ownsRow w.heap.size 85 3 (.slice none 0 0) 0 [] := World.ownsRow_nil _ _ _ _
  obtain ⟨ao, n, cap, rfl, hn, h1, h2, h3⟩ := hu
  cases ao with
  | none =>
    have h0 : n = 0 := by
      rcases Nat.eq_zero_or_pos n with h | h
      · exact h
      · obtain ⟨b, o, e, _⟩ := h3 h
        cases e
    have hx0 : l = [] := List.eq_nil_of_length_eq_zero (by omega)
    subst hx0
    subst h0
    refine ⟨.slice none 0 0, w, ?_, hnil, Below.refl _ _⟩
    have ht := Tryd.underlying32
    simp [Builtin.append_, run_underlying ht, sizeOf, typeInfo, hi, Builtin.lenOf, Builtin.firstCells]
  | some ad =>
    have hcell : ∀ j u, (cellsL l)[j]? = some u → w.cell? (ad.add j) = some u := fun j u hu => by
      obtain ⟨i, x, e1, e2⟩ := get_cellsL l j u hu
      have hi2 := (List.getElem?_eq_some_iff.1 e1).1
      obtain ⟨b, o, e3, _, e4⟩ := h3 (by omega)
      cases e3
      obtain ⟨f1, f2, f3⟩ := e4 i x e1
      rw [addr_addP]
      rcases e2 with ⟨rfl, rfl⟩ | ⟨rfl, rfl⟩ | ⟨rfl, rfl⟩
      · exact f1
      · rw [← Nat.add_assoc]; exact f2
      · rw [← Nat.add_assoc]; exact f3
    subst hn
    obtain ⟨v', w', hr, g1, g2, _, g4⟩ := run_append_own_at (P := Tryd.prog) w w.heap.size 32 t 85 i0 (.agg #[.int .i64 0, .int .i64 0, .int .i64 0]) 3 24 Tryd.underlying32 hi hz0 hz1 hz2 rfl (by decide) (.slice none 0 0) 0 [] hnil ad l.length cap (cellsL l) (cellsL_len l) hcell (cellsL_one l) (by unfold maxLen; omega) (by omega) (Nat.le_refl _)
    refine ⟨v', w', hr, by simpa using g1, (Keeps.of_grownBy (S := fun _ => False) g2 fun k _ e => by cases e).below (Nat.le_refl _) fun _ _ e => e.elim⟩
theorem step_appendTk {ops : Array Oper} {o : Oper} {a : Act} {w : World} {K : Act → World → Prop} {Q : Exit → Act → World → Prop} {F : Prop} (hgd : o.guard = none) (x : Operand)
    (ho : o.op = .call { callee := .builtin .append, args := #[.const (.slice none 0 0), x], argTypes := #[32, 32] }) (u : Value) (l : List Tk) (hu : TalksAt w u l) (hl : l.length ≤ 1000000) (hx : a.eval x = u)
    (h : ∀ ao cap w', w'.ownsRow w.heap.size 85 3 (.slice ao l.length cap) l.length (cellsL l) → Below w.heap.size w w' → K (a.put o.dst (.slice ao l.length cap)) w') : if Region.wanted o (yielded ops a.tmps) = true then Oper.wp Tryd.prog o a w K Q else F := by
  have hw : Region.wanted o (yielded ops a.tmps) = true := by simp [Region.wanted, hgd]
  rw [if_pos hw]
  obtain ⟨v', w', hr, h1, h2⟩ := run_appendTk hu hl o.type
  obtain ⟨ao, cap, rfl⟩ := own_slice h1
  have hs0 : a.eval (.const (.slice none 0 0)) = .slice none 0 0 := rfl
  unfold Oper.wp
  simp [execOp, ho, resolve, invoke, builtin, hs0, hx, hr, Result.andThen]
  exact h _ _ _ h1 h2
/-- 'append(p.waiters, x)', as one step of a region that draws. -/
theorem step_appendU {ops : Array Oper} {o : Oper} {a : Act} {w : World} {K : Act → World → Prop} {Q : Exit → Act → World → Prop} {F : Prop} (hgd : o.guard = none) (s x : Operand)
    (ho : o.op = .call { callee := .builtin .append, args := #[s, x], argTypes := #[24, 24] }) (B : Nat) (v : Value) (l : List (Int × Value)) (y1 : Int) {ao : Option Addr} {n c : Nat} (hown : w.ownsRow B 83 2 v l.length (cellsU l)) {b : Nat} (hb : b = w.heap.size)
    (hl : l.length ≤ 100000000) (hB : B ≤ w.heap.size) (hs : a.eval s = v) (hx : a.eval x = .slice (some ⟨b, 0, none⟩) 1 1)
    (h : ∀ ao' cap' w', w'.ownsRow B 83 2 (.slice ao' (l ++ [(y1, Value.slice ao n c)]).length cap') (l ++ [(y1, Value.slice ao n c)]).length (cellsU (l ++ [(y1, Value.slice ao n c)])) → Keeps (fun b => v.ownBlock = some b) w w' → (∀ k, (Value.slice ao' (l ++ [(y1, Value.slice ao n c)]).length cap').ownBlock = some k → v.ownBlock = some k ∨ w.heap.size < k) →
      K (a.put o.dst (.slice ao' (l ++ [(y1, Value.slice ao n c)]).length cap')) w') : if Region.wanted o (yielded ops a.tmps) = true then Oper.wp Tryd.prog o a (w.alloc (.cells #[.int .i64 y1, .slice ao n c] 83)) K Q else F := by
  have hw : Region.wanted o (yielded ops a.tmps) = true := by simp [Region.wanted, hgd]
  rw [if_pos hw]
  subst hb
  obtain ⟨i0, hi, hz0, hz1, hz2⟩ := tinfoP info_waiter
  have hnew : ∀ j u, [Value.int .i64 y1, Value.slice ao n c][j]? = some u → (w.alloc (.cells #[.int .i64 y1, .slice ao n c] 83)).cell? ((⟨w.heap.size, 0, none⟩ : Addr).add j) = some u := fun j u hu => by
    rw [addr_addP, World.cell?_alloc_at _ _ _ _ rfl]
    rcases j with _ | _ | j
    · exact hu
    · exact hu
    · simp at hu
  obtain ⟨v', w', hr, h1, h2, _, h4⟩ := run_append_own_at (P := Tryd.prog) _ B 24 o.type 83 i0 (.agg #[.int .i64 0, .slice none 0 0]) 2 32 Tryd.underlying24 hi hz0 hz1 hz2 rfl (by decide) v l.length (cellsU l) (World.ownsRow.alloc hown (.cells #[.int .i64 y1, .slice ao n c] 83)) ⟨w.heap.size, 0, none⟩ 1 1 [.int .i64 y1, .slice ao n c] rfl
    hnew (fun u hu => by simp at hu; rcases hu with rfl | rfl <;> rfl) (by unfold maxLen; omega) (by omega) (by simp; omega)
  have hO : w'.ownsRow B 83 2 v' (l ++ [(y1, Value.slice ao n c)]).length (cellsU (l ++ [(y1, Value.slice ao n c)])) := by
    rw [cellsU_append, List.length_append]
    exact h1
  obtain ⟨ao', cap', rfl⟩ := own_slice hO
  unfold Oper.wp
  simp [execOp, ho, resolve, invoke, builtin, hs, hx, hr, Result.andThen]
  have := h _ _ _ hO (keeps_append h2 fun k e => e) fun k hk => by
    rcases h4 with e | e
    · exact Or.inl (by rw [← e]; exact hk)
    · rw [e] at hk
      cases hk
      exact Or.inr (by simp)
  rw [List.length_append] at this
  exact this
section
variable {w w' : World} {σ : Nat → RRole} {rb : Nat} {vl : Value} {ptr : List Nat} {vw : Value} {us : List (Int × Value)} {s : St} {ws : List (Int × List Tk)}
theorem Wts.snoc {w : World} {σ : Nat → RRole} {us : List (Int × Value)} {ws : List (Int × List Tk)} (h : Wts w σ us ws) {t : Int} {v : Value} {l : List Tk} (hl : TalksAt w v l) (hv : ∀ b, v.ownBlock = some b → σ b = .talks) : Wts w σ (us ++ [(t, v)]) (ws ++ [(t, l)]) := by
  refine ⟨by rw [List.length_append, List.length_append, h.1]; rfl, fun i u x hu hx => ?_⟩
  rcases Nat.lt_or_ge i us.length with h1 | h1
  · rw [List.getElem?_append_left h1] at hu
    rw [List.getElem?_append_left (by rw [← h.1]; exact h1)] at hx
    exact h.2 i u x hu hx
  · have hi : i = us.length := by
      have := (List.getElem?_eq_some_iff.1 hu).1
      rw [List.length_append, List.length_singleton] at this
      omega
    subst hi
    rw [List.getElem?_append_right (Nat.le_refl _), Nat.sub_self] at hu
    rw [h.1, List.getElem?_append_right (Nat.le_refl _), Nat.sub_self] at hx
    cases hu
    cases hx
    exact ⟨rfl, hl, hv⟩
theorem wait_same {s : St} {task : Int} {l : List Tk} (hl : ∀ x ∈ l, x.good s.chs.length) : ∀ (k : Nat) c', (Pp.wait s task l).chs[k]? = some c' → ∃ c, s.chs[k]? = some c ∧ c'.size = c.size ∧ c'.nums = c.nums ∧ c'.shut = c.shut := fun k c' h => by
  obtain ⟨c, h1, rfl⟩ := get_lay hl h
  exact ⟨c, h1, rfl, rfl, rfl⟩
/-- One more waits. -/
theorem RefsAt.waitS {w w7 w9 : World} (h : RefsAt w σ rb vl ptr vw us s ws) {task : Int} {l : List Tk} (hn : s.asks task = none) (hl : ∀ x ∈ l, x.good s.chs.length) (h6 : l.length ≤ 6) {tv : Value} {B : Nat} (hB : w.heap.size ≤ B) (hb7 : Below w.heap.size w w7) (ht : w7.ownsRow B 85 3 tv l.length (cellsL l)) {v' : Value}
    (hr : w9.ownsRow 0 83 2 v' (us ++ [(task, tv)]).length (cellsU (us ++ [(task, tv)]))) (hk : Keeps (fun b => vw.ownBlock = some b) w7 w9) (hnb : ∀ k, v'.ownBlock = some k → vw.ownBlock = some k ∨ w7.heap.size < k) :
    RefsX w (w9.setCell ⟨rb, 1, none⟩ v') σ rb (Pp.wait s task l) (ws ++ [(task, l)]) ∧ Keeps (fun b => σ b ≠ .free) w (w9.setCell ⟨rb, 1, none⟩ v') := by
  have hvw : ∀ b, vw.ownBlock = some b → b < w.heap.size := fun b hb => (World.ownsRow.lt h.wrow b hb).2
  have htl : ∀ b, tv.ownBlock = some b → w.heap.size ≤ b ∧ b < w7.heap.size := fun b hb => by
    have := World.ownsRow.lt ht b hb
    omega
  have hold : ∀ b, b < w.heap.size → asOf (asOf σ tv .talks) v' .waiters b = σ b := fun b hb => by
    by_cases e : v'.ownBlock = some b
    · rw [asOf_own e]
      rcases hnb b e with h1 | h1
      · exact (h.p2 b h1).symm
      · have := hb7.size
        omega
    · rw [asOf_old e, asOf_old fun e2 => by have := htl b e2; omega]
  have htv : ∀ b, tv.ownBlock = some b → asOf (asOf σ tv .talks) v' .waiters b = .talks := fun b hb => by
    have h1 := htl b hb
    rw [asOf_old fun e => ?_, asOf_own hb]
    rcases hnb b e with h2 | h2
    · have := hvw b h2
      omega
    · omega
  have hkw : Keeps (fun b => vw.ownBlock = some b) w w9 := (Keeps.of_new (S := fun b => vw.ownBlock = some b) hb7).trans hk
  have hk7 : ∀ b, tv.ownBlock = some b → ¬ vw.ownBlock = some b := fun b hb e => by
    have := htl b hb
    have := hvw b e
    omega
  have hT9 : TalksAt w9 tv l := (talks_of_own ht).keeps hk fun b hb => hk7 b hb
  have hw9 : Wts w9 (asOf (asOf σ tv .talks) v' .waiters) us ws := h.wts.keeps hkw (fun b hb e => by rw [h.p2 b e] at hb; cases hb) fun b hb => hold b (h.dom b hb)
  have hdom : ∀ b, asOf (asOf σ tv .talks) v' .waiters b ≠ .free → b < w9.heap.size := asOf_dom (asOf_dom h.dom hb7.size fun b hb => (htl b hb).2) hk.size fun b hb => (World.ownsRow.lt hr b hb).2
  refine ⟨⟨_, _, _, _, _, h.turn hkw hold (fun b e => Or.inr (h.p2 b e)) (lay_len _ _ _ _) (wait_same hl) hr (hw9.snoc hT9 htv) (fun b hb => asOf_own hb) hdom (h.ok.wait hn hl h6) (h.rel.wait hn hl) fun b hb e => ?_, hold⟩, ?_⟩
  · rw [e, hold rb h.lt, h.p0] at hb
    cases hb
  · refine (hkw.mono fun b _ e => by rw [h.p2 b e]; simp).trans ((keeps_set1 w9 ⟨rb, 1, none⟩ v').mono fun b _ e => ?_)
    have e' : b = rb := e
    rw [e', h.p0]
    simp
end
end Go.Proofs.YtppbmhpbbiigaaaDoor

namespace Go.Proofs.YtppbmhpbbiigaaaDoor
open Go.RowKit Go.Maps Pp

theorem run_appendM {w : World} {v : Value} {xs : List Int} (hown : MidI w 0 v xs) (y : Int) (hl : xs.length ≤ 1000000) (t : TypeId) : ∃ ao cap w', (Builtin.append_ #[70, 70] t #[v, .slice (some ⟨w.heap.size, 0, none⟩) 1 1]).run Tryd.prog (w.alloc (.cells #[.int .i64 y] 3)) = .ok (.slice ao (xs.length + 1) cap) w' ∧
    MidI w' 0 (.slice ao (xs.length + 1) cap) (xs ++ [y]) ∧ Keeps (fun b => v.ownBlock = some b) w w' ∧ ∀ k, (Value.slice ao (xs.length + 1) cap).ownBlock = some k → v.ownBlock = some k ∨ w.heap.size ≤ k := by
  obtain ⟨i0, hi, hz0, hz1, hz2⟩ := info_parts info_int
  have hka : Keeps (fun _ => False) w (w.alloc (.cells #[.int .i64 y] 3)) := (Keeps.refl _ w).alloc _
  have hown1 : ∀ u ∈ [Value.int .i64 y], u.oneCell' = true := fun u hu => by simp at hu; subst hu; rfl
  have grown : ∀ {v' : Value} {w' : World} {B : Nat}, w.heap.size ≤ B → w'.ownsRow B 3 1 v' (xs.length + 1) (xs.map (Value.int .i64) ++ [Value.int .i64 y]) → ∃ ao cap, v' = .slice ao (xs.length + 1) cap ∧ MidI w' 0 v' (xs ++ [y]) ∧ ∀ k, v'.ownBlock = some k → w.heap.size ≤ k := fun {v' w' B} hB hO => by
    have hO' : OwnI w' B v' (xs ++ [y]) := OwnI.mk _ y rfl hO
    obtain ⟨ao', cap', e⟩ := hO'.slice
    rw [List.length_append] at e
    exact ⟨ao', cap', e, (MidI.of_own hO').mono (Nat.zero_le _), fun k hk => by have := hO'.le k hk; omega⟩
  rcases hown with ⟨rfl, rfl⟩ | ⟨b, off, cap, rfl, h1, h2, h3, h4, h5, h6⟩
  · obtain ⟨v', w', hr, g1, g2, _, _⟩ := run_append_own_at (P := Tryd.prog) (w.alloc (.cells #[.int .i64 y] 3)) w.heap.size 70 t 3 i0 (.int .i64 0) 1 8 Tryd.underlying70 hi hz0 hz1 hz2 rfl (by decide) (.slice none 0 0) 0 [] (World.ownsRow_nil _ _ _ _) ⟨w.heap.size, 0, none⟩ 1 1 [.int .i64 y] rfl (cell_one_new _ _ _) hown1 (by unfold maxLen; omega) (by omega) (by simp)
    obtain ⟨ao, cap, rfl, g3, g4⟩ := grown (Nat.le_refl _) g1
    exact ⟨ao, cap, w', hr, g3, hka.trans (Keeps.of_grownBy g2 fun k _ e => by cases e) |>.mono fun _ _ (e : False) => e.elim, fun k hk => Or.inr (g4 k hk)⟩
  · have hcell : ∀ j u, xs[j]? = some u → (w.alloc (.cells #[.int .i64 y] 3)).cell? ⟨b, off + j, none⟩ = some (.int .i64 u) := fun j u hu => hka.cell_of (h5 j u hu) id
    have hfree : ∀ j, j < cap → ((w.alloc (.cells #[.int .i64 y] 3)).cell? ⟨b, off + j, none⟩).isSome = true ∧ (w.alloc (.cells #[.int .i64 y] 3)).frozen? ⟨b, off + j, none⟩ = false := fun j hj =>
      ⟨by rw [hka.cell (p := ⟨b, off + j, none⟩) h4 id]; exact (h6 j hj).1, by rw [hka.frozen (p := ⟨b, off + j, none⟩) h4 id]; exact (h6 j hj).2⟩
    rcases Nat.lt_or_ge cap (xs.length + 1) with hg | hr
    · obtain ⟨v', w', hrun, g1, g2⟩ := run_append_arg_grows (P := Tryd.prog) (w.alloc (.cells #[.int .i64 y] 3)) 70 t 3 i0 (.int .i64 0) 1 8 Tryd.underlying70 hi hz0 hz1 hz2 rfl (by decide) ⟨b, off, none⟩ xs.length cap (xs.map (Value.int .i64)) (by simp)
        (fun j u hu => by
          rw [addr_addP]
          rw [List.getElem?_map] at hu
          obtain ⟨z, hz, rfl⟩ := Option.map_eq_some_iff.1 hu
          exact hcell j z hz) ⟨w.heap.size, 0, none⟩ 1 1 [.int .i64 y] rfl (cell_one_new _ _ _) hg (by unfold maxLen; omega) (by omega)
      obtain ⟨ao, cap', rfl, g3, g4⟩ := grown (by simp) g1
      exact ⟨ao, cap', w', hrun, g3, (hka.trans (Keeps.of_grownBy g2 fun k _ e => by cases e)).mono fun _ _ (e : False) => e.elim, fun k hk => Or.inr (g4 k hk)⟩
    · have hrun := run_append_room_cells (P := Tryd.prog) (w.alloc (.cells #[.int .i64 y] 3)) 70 t 3 i0 Tryd.underlying70 hi b off xs.length cap ⟨w.heap.size, 0, none⟩ 1 1 [.int .i64 y] (by rw [hz1]; rfl) (cell_one_new _ _ _) hown1 hr
        (fun j hj => by
          have hj0 : j = 0 := by simpa using hj
          subst hj0
          rw [hz1, Nat.mul_one, Nat.add_zero]
          exact (hfree xs.length (by omega)).1)
        (fun j hj => by
          have hj0 : j = 0 := by simpa using hj
          subst hj0
          rw [hz1, Nat.mul_one, Nat.add_zero]
          exact (hfree xs.length (by omega)).2)
      rw [hz1, Nat.mul_one] at hrun
      have hks := keeps_setCells1 (w.alloc (.cells #[.int .i64 y] 3)) b (off + xs.length) (.int .i64 y)
      refine ⟨_, _, _, hrun, Or.inr ⟨b, off, cap, by simp, by simpa using hr, h2, h3, Nat.lt_of_lt_of_le h4 (Nat.le_trans hka.size hks.size), fun j u hu => ?_, fun j hj => ?_⟩, (hka.mono fun _ _ e => e.elim).trans (hks.mono fun k _ e => by rw [e]; rfl), fun k hk => Or.inl hk⟩
      · show (World.setCell _ ⟨b, off + xs.length, none⟩ (.int .i64 y)).cell? ⟨b, off + j, none⟩ = _
        by_cases e : j = xs.length
        · subst e
          obtain ⟨u0, hu0⟩ := Option.isSome_iff_exists.1 (hfree xs.length (by omega)).1
          rw [World.cell?_setCell_same _ _ _ hu0]
          rw [List.getElem?_append_right (Nat.le_refl _), Nat.sub_self] at hu
          cases hu
          rfl
        · rw [World.cell?_setCell_other _ _ _ _ (by intro e2; injection e2 with _ e3; omega)]
          have hjl := (List.getElem?_eq_some_iff.1 hu).1
          rw [List.length_append, List.length_singleton] at hjl
          rw [List.getElem?_append_left (by omega)] at hu
          exact hcell j u hu
      · show ((World.setCell _ ⟨b, off + xs.length, none⟩ (.int .i64 y)).cell? ⟨b, off + j, none⟩).isSome = true ∧ (World.setCell _ ⟨b, off + xs.length, none⟩ (.int .i64 y)).frozen? ⟨b, off + j, none⟩ = false
        refine ⟨?_, by rw [World.frozen?_setCell]; exact (hfree j hj).2⟩
        by_cases e : j = xs.length
        · subst e
          obtain ⟨u0, hu0⟩ := Option.isSome_iff_exists.1 (hfree xs.length hj).1
          rw [World.cell?_setCell_same _ _ _ hu0]; rfl
        · rw [World.cell?_setCell_other _ _ _ _ (by intro e2; injection e2 with _ e3; omega)]
          exact (hfree j hj).1
theorem step_appendM {ops : Array Oper} {o : Oper} {a : Act} {w : World} {K : Act → World → Prop} {Q : Exit → Act → World → Prop} {F : Prop} (hgd : o.guard = none) (s x : Operand)
    (ho : o.op = .call { callee := .builtin .append, args := #[s, x], argTypes := #[70, 70] }) (v : Value) (xs : List Int) (y : Int) (hown : MidI w 0 v xs) (hl : xs.length ≤ 1000000) {b : Nat} (hb : b = w.heap.size) (hs : a.eval s = v) (hx : a.eval x = .slice (some ⟨b, 0, none⟩) 1 1)
    (h : ∀ ao cap w', MidI w' 0 (.slice ao (xs.length + 1) cap) (xs ++ [y]) → Keeps (fun b => v.ownBlock = some b) w w' → (∀ k, (Value.slice ao (xs.length + 1) cap).ownBlock = some k → v.ownBlock = some k ∨ w.heap.size ≤ k) → K (a.put o.dst (.slice ao (xs.length + 1) cap)) w') :
    if Region.wanted o (yielded ops a.tmps) = true then Oper.wp Tryd.prog o a (w.alloc (.cells #[.int .i64 y] 3)) K Q else F := by
  have hw : Region.wanted o (yielded ops a.tmps) = true := by simp [Region.wanted, hgd]
  rw [if_pos hw]
  subst hb
  obtain ⟨ao, cap, w', hr, h1, h2, h3⟩ := run_appendM hown y hl o.type
  unfold Oper.wp
  simp [execOp, ho, resolve, invoke, builtin, hs, hx, hr, Result.andThen]
  exact h _ _ _ h1 h2 h3
section
variable {w w9 : World} {σ : Nat → RRole} {rb : Nat} {vl : Value} {ptr : List Nat} {vw : Value} {us : List (Int × Value)} {s : St} {ws : List (Int × List Tk)}
/-- A channel of other numbers. -/
theorem RefsAt.numsS {k cb : Nat} {v : Value} {x : Ch} (h : RefsAt w σ rb vl ptr vw us s ws) (hcb : ptr[k]? = some cb) (hx : s.chs[k]? = some x) (hc : RCh w σ k cb v x) (hk : Keeps (fun b => v.ownBlock = some b) w w9) {v' : Value} {nums' : List Int} (hm : MidI w9 0 v' nums') (hnb : ∀ b, v'.ownBlock = some b → v.ownBlock = some b ∨ w.heap.size ≤ b) (hl : nums'.length ≤ x.size) :
    RefsX w (w9.setCell ⟨cb, 1, none⟩ v') σ rb (setNums s k nums') ws ∧ Keeps (fun b => σ b ≠ .free) w (w9.setCell ⟨cb, 1, none⟩ v') := by
  have hold : ∀ b, b < w.heap.size → asOf σ v' (.nums k) b = σ b := fun b hb => by
    by_cases e : v'.ownBlock = some b
    · rw [asOf_own e]
      rcases hnb b e with h1 | h1
      · exact (hc.p1 b h1).symm
      · omega
    · exact asOf_old e
  have hcl := hc.lt
  have hcv : ¬ v.ownBlock = some cb := fun e => by have h1 := hc.p1 cb e; rw [hc.p0] at h1; cases h1
  have hcv' : ∀ b, v'.ownBlock = some b → ¬ b = cb := fun b hb e => by
    rcases hnb b hb with h1 | h1
    · exact hcv (by rw [← e]; exact h1)
    · omega
  have hs := keeps_set1 w9 ⟨cb, 1, none⟩ v'
  have hk2 : Keeps (fun b => v.ownBlock = some b ∨ b = cb) w (w9.setCell ⟨cb, 1, none⟩ v') := (hk.mono fun _ _ e => Or.inl e).trans (hs.mono fun _ _ e => Or.inr e)
  have he : setNums s k nums' = ⟨s.chs.set k { x with nums := nums' }, s.asks⟩ := by unfold setNums; rw [modify_set _ hx]
  have hok : Ok (setNums s k nums') := h.ok.nums k nums' fun c hc' => by rw [hx] at hc'; cases hc'; exact hl
  have hrel := h.rel.nums k nums'
  rw [he] at hok hrel ⊢
  refine ⟨⟨_, _, _, _, _, h.put hk2 hold (fun b hb => ?_) k (fun b e => Or.inr ?_) (fun cb' hcb' => ?_) hok hrel, hold⟩, hk2.mono fun b _ e => ?_⟩
  · rw [World.size_setCell]
    exact asOf_dom h.dom hk.size (fun b hb => (hm.le b hb).2) b hb
  · rcases e with e | e
    · rw [hc.p1 b e]; rfl
    · rw [e, hc.p0]; rfl
  · rw [hcb] at hcb'
    cases hcb'
    refine ⟨v', ?_, World.cell?_setCell_same _ _ _ (hk.cell_of hc.c1 hcv), ?_, fun j => by rw [World.frozen?_setCell, hk.frozen (p := ⟨cb, j, none⟩) hcl hcv]; exact hc.z j, hm.keeps hs fun b hb => hcv' b hb, by rw [hold _ hcl]; exact hc.p0, fun b hb => asOf_own hb⟩
    · rw [cell_set_other (off_ne (by decide) cb)]; exact hk.cell_of hc.c0 hcv
    · rw [cell_set_other (off_ne (by decide) cb)]; exact hk.cell_of hc.c2 hcv
  · rcases e with e | e
    · rw [hc.p1 b e]; simp
    · rw [e, hc.p0]; simp
end
set_option maxRecDepth 100000 in
set_option maxHeartbeats 1600000 in
theorem rmodulo_any (w : World) (draw : Int) (m : Nat) (hm : 0 < m) (hd : -9223372036854775808 ≤ draw ∧ draw ≤ 9223372036854775807) (h64 : m ≤ 10000) : Calls Tryd.prog 29 #[.int .i64 draw, .int .i64 (m : Nat)] w fun e w' =>
    e = .returned (.int .i64 (drawn draw m : Nat)) ∧ w = w' := by
  have hr : ((drawn draw m : Nat) : Int) = draw % (m : Int) := by unfold drawn; exact Int.toNat_of_nonneg (Int.emod_nonneg _ (by omega))
  rw [hr]
  have e0 : ((m : Int) == 0) = false := by rw [beq_eq_false_iff_ne]; omega
  have e1 : ¬ ((m : Int) = 0) := by omega
  have hlt : draw % (m : Int) < m := Int.emod_lt_of_pos _ (by omega)
  have hge : 0 ≤ draw % (m : Int) := Int.emod_nonneg _ (by omega)
  have ht : draw.tmod (m : Int) = if draw < 0 ∧ draw % (m : Int) ≠ 0 then draw % (m : Int) - m else draw % (m : Int) := by
    rw [Int.tmod_eq_emod]
    split <;> split <;> simp_all [Int.dvd_iff_emod_eq_zero] <;> omega
  generalize draw % (m : Int) = r at *
  have hfin : ∀ x : Int, x = r ∨ x = r + m → x.tmod (m : Int) = r := fun x hx => by
    rw [Int.tmod_eq_emod_of_nonneg (by omega)]
    rcases hx with rfl | rfl
    · exact Int.emod_eq_of_lt hge hlt
    · rw [Int.add_emod_right]; exact Int.emod_eq_of_lt hge hlt
  by_cases hn : draw < 0 ∧ r ≠ 0
  · rw [if_pos hn] at ht
    have e2 : IntKind.i64.wrap (r - m + m) = r := by rw [IntKind.wrap_i64]; omega
    have e3 := hfin r (Or.inl rfl)
    clear hfin hn
    go_enter Tryd.func29, Tryd.ntmps29
    go_wp2_with fail
    go_ret
    exact ⟨rfl, rfl⟩
  · rw [if_neg hn] at ht
    have e2 : IntKind.i64.wrap (r + m) = r + m := by rw [IntKind.wrap_i64]; omega
    have e3 := hfin (r + m) (Or.inr rfl)
    clear hfin hn
    go_enter Tryd.func29, Tryd.ntmps29
    go_wp2_with fail
    go_ret
    exact ⟨rfl, rfl⟩
end Go.Proofs.YtppbmhpbbiigaaaDoor
