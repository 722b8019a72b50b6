/-
  What the laws of package code ask of programs: sameProgram.
-/
import Derived.Test.YtjdihgmngiplkaaDoorCodeL1
namespace Go.Proofs.YtjdihgmngiplkaaDoor
open Go.RowKit Cd

/-- Two functions in blocks of their own. -/
def TwoF (w wx : World) (v6 v7 pa vl1 ki vc1 vl2 vc2 : Value) : Prop :=
  ∃ b1 b2, v6 = .pointer (some ⟨b1, 0, none⟩) ∧ v7 = .pointer (some ⟨b2, 0, none⟩) ∧ wx.cell? ⟨b1, 0, none⟩ = some pa ∧ wx.cell? ⟨b1, 1, none⟩ = some vl1 ∧ wx.cell? ⟨b1, 2, none⟩ = some ki ∧ wx.cell? ⟨b1, 3, none⟩ = some vc1 ∧
    wx.cell? ⟨b2, 0, none⟩ = some pa ∧ wx.cell? ⟨b2, 1, none⟩ = some vl2 ∧ wx.cell? ⟨b2, 2, none⟩ = some ki ∧ wx.cell? ⟨b2, 3, none⟩ = some vc2 ∧ Below w.heap.size w wx

theorem two_cells (wr : World) (X Y : Array Value) (t : TypeId) :
    (∀ (j : Nat) u, X[j]? = some u → ((wr.alloc (.cells X t)).alloc (.cells Y t)).drew.cell? ⟨wr.heap.size, j, none⟩ = some u) ∧ (∀ (j : Nat) u, Y[j]? = some u → ((wr.alloc (.cells X t)).alloc (.cells Y t)).drew.cell? ⟨wr.heap.size + 1, j, none⟩ = some u) ∧
    Below wr.heap.size wr ((wr.alloc (.cells X t)).alloc (.cells Y t)).drew := by
  refine ⟨fun j u hj => ?_, fun j u hj => ?_, (((Below.refl wr.heap.size wr).alloc (Nat.le_refl _) _).alloc (by simp) _).drew⟩
  · have h1 := cell_of_row (wr.alloc (.cells X t)) wr.heap.size j _ _ _ (heap_alloc_new _ _)
    exact ((Keeps.refl (fun _ : Nat => False) _).alloc _).drew.cell_of (h1.trans hj) id
  · have h1 := cell_of_row ((wr.alloc (.cells X t)).alloc (.cells Y t)) (wr.alloc (.cells X t)).heap.size j _ _ _ (heap_alloc_new _ _)
    rw [show (wr.alloc (.cells X t)).heap.size = wr.heap.size + 1 by simp] at h1
    exact h1.trans hj

set_option maxRecDepth 100000 in
set_option maxHeartbeats 6400000 in
theorem sameP_any (p : Pg) (v u : Value) (w : World) (hp : ProgAt w v p) (hu : ProgAt w u p) :
    Calls Tryd.prog 19 #[v, u] w fun e w' => e = .returned (.bool true) ∧ Below w.heap.size w w' := by
  obtain ⟨vf, rfl, ao, n, cap, rfl, hn, hnc, hcm, hx⟩ := hp
  obtain ⟨uf, rfl, ao2, n2, cap2, rfl, hn2, hnc2, hcm2, hx2⟩ := hu
  obtain rfl : n2 = n := by omega
  unfold maxLen at hcm hcm2
  have hb0 := ((Below.refl w.heap.size w).alloc (Nat.le_refl _) (.cells #[.int .i64 p.globals, .slice ao n2 cap] 24)).alloc (by simp) (.cells #[.int .i64 p.globals, .slice ao2 n2 cap2] 24)
  have HB0 := Lib.hid hb0
  have HN := Lib.hid hn
  have HX : Hid (∀ W, Below w.heap.size w W → 0 < n2 → ∃ b o, ao = some ⟨b, o, none⟩ ∧ b < w.heap.size ∧ ∀ i f, p.fns[i]? = some f → FnAt W b (o + i * 4) f) := Lib.hid fun W hW h0 => by
    obtain ⟨b, o, h1, h2, h3⟩ := hx h0
    exact ⟨b, o, h1, h2, fun i f hi => (h3 i f hi).below hW⟩
  have HX2 : Hid (∀ W, Below w.heap.size w W → 0 < n2 → ∃ b o, ao2 = some ⟨b, o, none⟩ ∧ b < w.heap.size ∧ ∀ i f, p.fns[i]? = some f → FnAt W b (o + i * 4) f) := Lib.hid fun W hW h0 => by
    obtain ⟨b, o, h1, h2, h3⟩ := hx2 h0
    exact ⟨b, o, h1, h2, fun i f hi => (h3 i f hi).below hW⟩
  obtain ⟨gl, hgl⟩ : ∃ gl, gl = p.globals := ⟨_, rfl⟩
  rw [← hgl] at HB0 ⊢
  have hc0 : ∀ j u, #[Value.int .i64 gl, .slice ao n2 cap][j]? = some u → ((w.alloc (.cells #[.int .i64 gl, .slice ao n2 cap] 24)).alloc (.cells #[.int .i64 gl, .slice ao2 n2 cap2] 24)).cell? ⟨w.heap.size, j, none⟩ = some u := fun j u hj => by
    have h1 := cell_of_row (w.alloc (.cells #[.int .i64 gl, .slice ao n2 cap] 24)) w.heap.size j _ _ _ (heap_alloc_new _ _)
    exact ((Keeps.refl (fun _ : Nat => False) _).alloc _).cell_of (h1.trans hj) id
  have hd0 : ∀ j u, #[Value.int .i64 gl, .slice ao2 n2 cap2][j]? = some u → ((w.alloc (.cells #[.int .i64 gl, .slice ao n2 cap] 24)).alloc (.cells #[.int .i64 gl, .slice ao2 n2 cap2] 24)).cell? ⟨w.heap.size + 1, j, none⟩ = some u := fun j u hj => by
    have h1 := cell_of_row ((w.alloc (.cells #[.int .i64 gl, .slice ao n2 cap] 24)).alloc (.cells #[.int .i64 gl, .slice ao2 n2 cap2] 24)) (w.alloc (.cells #[.int .i64 gl, .slice ao n2 cap] 24)).heap.size j _ _ _ (heap_alloc_new _ _)
    rw [show (w.alloc (.cells #[.int .i64 gl, .slice ao n2 cap] 24)).heap.size = w.heap.size + 1 by simp] at h1
    exact h1.trans hj
  have hsz1 : w.heap.size + 1 < ((w.alloc (.cells #[.int .i64 gl, .slice ao n2 cap] 24)).alloc (.cells #[.int .i64 gl, .slice ao2 n2 cap2] 24)).heap.size := by simp
  clear hb0 hx hx2 hn hn2 hgl
  go_enter Tryd.func19, Tryd.ntmps19
  go_upto_region 1 with fail
  generalize (w.alloc (.cells #[.int .i64 gl, .slice ao n2 cap] 24)).alloc (.cells #[.int .i64 gl, .slice ao2 n2 cap2] 24) = W1 at *
  have HC : Hid (∀ V, Below W1.heap.size W1 V → V.cell? ⟨w.heap.size, 0, none⟩ = some (.int .i64 gl) ∧ V.cell? ⟨w.heap.size, 1, none⟩ = some (.slice ao n2 cap) ∧ V.cell? ⟨w.heap.size + 1, 0, none⟩ = some (.int .i64 gl) ∧ V.cell? ⟨w.heap.size + 1, 1, none⟩ = some (.slice ao2 n2 cap2)) := Lib.hid fun V hV =>
    have hk := Keeps.of_new (S := fun _ => False) hV
    ⟨hk.cell_of (hc0 0 _ rfl) id, hk.cell_of (hc0 1 _ rfl) id, hk.cell_of (hd0 0 _ rfl) id, hk.cell_of (hd0 1 _ rfl) id⟩
  clear hc0 hd0
  obtain ⟨e0, e1, d0, d1⟩ := HC.out _ (Below.refl _ _)
  go_wp2_with fail
  go_loopw [5] (fun iv wr => ∃ k : Nat, k ≤ n2 ∧ iv = .int .i64 k ∧ Below W1.heap.size W1 wr) (fun iv _ => n2 - (intOf iv).toNat)
  case atStart => exact ⟨0, Nat.zero_le _, rfl, Below.refl _ _⟩
  case round =>
    obtain ⟨k, hk, rfl, hbel⟩ := hrel
    rename World => wr
    clear e0 e1 d0 d1
    have HB := Lib.hid hbel
    obtain ⟨e0, e1, d0, d1⟩ := HC.out _ hbel
    by_cases hkn : k < n2
    · obtain ⟨b, o, rfl, hbl, hfn⟩ := HX.out wr (HB0.out.trans (hbel.mono HB0.out.size)) (by omega)
      obtain ⟨b2, o2, rfl, hbl2, hfn2⟩ := HX2.out wr (HB0.out.trans (hbel.mono HB0.out.size)) (by omega)
      obtain ⟨f, hf⟩ : ∃ f, p.fns[k]? = some f := ⟨_, List.getElem?_eq_getElem (by rw [← HN.out]; exact hkn)⟩
      obtain ⟨x0, ⟨vl1, x1, hl1⟩, x2, vc1, x3, hv1⟩ := hfn k f hf
      obtain ⟨y0, ⟨vl2, y1, hl2⟩, y2, vc2, y3, hv2⟩ := hfn2 k f hf
      have HL1 := Lib.hid hl1
      have HL2 := Lib.hid hl2
      have HV1 := Lib.hid hv1
      have HV2 := Lib.hid hv2
      obtain ⟨a1, n1, c1, rfl, -⟩ := hl1
      obtain ⟨a3, n3, c3, rfl, -⟩ := hl2
      obtain ⟨a2, n9, c2, rfl, -⟩ := hv1
      obtain ⟨a4, n4, c4, rfl, -⟩ := hv2
      obtain ⟨pa, hpa⟩ : ∃ pa, pa = f.params := ⟨_, rfl⟩
      obtain ⟨ki, hki⟩ : ∃ ki, ki = f.kind := ⟨_, rfl⟩
      rw [← hpa] at x0 y0
      rw [← hki] at x2 y2
      have hi1 : (0 : Int) ≤ (k : Int) ∧ (k : Int) < (n2 : Int) := by omega
      have hi2 : (k : Int) < (n2 : Int) := by omega
      clear hfn hfn2 HX HX2 hpa hki
      go_upto_region 6 with fail
      go_cut [6, 7] from 29 to 38 (fun v6 v7 wx => TwoF wr wx v6 v7 (.int .i64 pa) (.slice a1 n1 c1) (.int .i64 ki) (.slice a2 n9 c2) (.slice a3 n3 c3) (.slice a4 n4 c4))
      case first =>
        have hb1r : b < wr.heap.size := Nat.lt_of_lt_of_le hbl (Nat.le_trans HB0.out.size HB.out.size)
        have hb2r : b2 < wr.heap.size := Nat.lt_of_lt_of_le hbl2 (Nat.le_trans HB0.out.size HB.out.size)
        have hws1 : w.heap.size + 1 < wr.heap.size := Nat.lt_of_lt_of_le hsz1 HB.out.size
        have hws0 : w.heap.size < wr.heap.size := by omega
        go_region
        all_goals go_wp2_with fail
        all_goals go_meet
        · obtain ⟨q1, q2, q3⟩ := two_cells wr #[.int .i64 pa, .slice a1 n1 c1, .int .i64 ki, .slice a2 n9 c2] #[.int .i64 pa, .slice a3 n3 c3, .int .i64 ki, .slice a4 n4 c4] 47
          exact ⟨_, _, rfl, rfl, q1 0 _ rfl, q1 1 _ rfl, q1 2 _ rfl, q1 3 _ rfl, q2 0 _ rfl, q2 1 _ rfl, q2 2 _ rfl, q2 3 _ rfl, q3⟩
        · obtain ⟨q1, q2, q3⟩ := two_cells wr #[.int .i64 pa, .slice a3 n3 c3, .int .i64 ki, .slice a4 n4 c4] #[.int .i64 pa, .slice a1 n1 c1, .int .i64 ki, .slice a2 n9 c2] 47
          exact ⟨_, _, rfl, rfl, q2 0 _ rfl, q2 1 _ rfl, q2 2 _ rfl, q2 3 _ rfl, q1 0 _ rfl, q1 1 _ rfl, q1 2 _ rfl, q1 3 _ rfl, q3⟩
      case rest =>
        rename World => wx
        obtain ⟨b7, b8, rfl, rfl, p0, p1, p2, p3, r0, r1, r2, r3, hbx⟩ := hcut
        have HBX := Lib.hid (HB.out.trans (hbx.mono HB.out.size))
        have HE1 := Lib.hid (equalI_any _ _ f.locals wx (HL1.out.below hbx) (HL2.out.below hbx))
        have HV1x := Lib.hid (HV1.out.below hbx)
        have HV2x := Lib.hid (HV2.out.below hbx)
        clear hbx e0 e1 d0 d1 x0 x1 x2 x3 y0 y1 y2 y3 hbel hf
        go_wp2_with fail
        refine HE1.out.mono ?_
        rintro e w5 ⟨rfl, m5, rfl⟩
        have HE2 := Lib.hid (equalN_any _ _ f.code (wx.drewN m5) (HV1x.out.below (below_drewK (Below.refl _ _) _)) (HV2x.out.below (below_drewK (Below.refl _ _) _)))
        go_wp2_with fail
        refine HE2.out.mono ?_
        rintro e w6 ⟨rfl, m6, rfl⟩
        go_wp2_with fail
        go_roundw
        case rel => exact ⟨k + 1, by omega, by go_num, below_drewK HBX.out _⟩
        case measure => simp [intOf]; omega
    · obtain rfl : k = n2 := by omega
      have hkk : ¬ (k : Int) < (k : Int) := by omega
      clear HX HX2
      go_wp2_with fail
      go_ret
      exact ⟨rfl, HB0.out.trans (HB.out.mono HB0.out.size)⟩
end Go.Proofs.YtjdihgmngiplkaaDoor
