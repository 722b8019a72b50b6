/-
  The walk of deals, at what PipeMeets asks behind each.
-/
import Derived.Test.YtpehmghnfbkaaaaPipeND
import Derived.Deep.Cut
namespace Go.Proofs.Ytpehmghnfbkaaaa
open Go.RowKit Go.Maps Pp

theorem own_addr {w : World} {B cap m : Nat} {ao : Option Addr} {t : TypeId} {cs : List Value} {k : Nat} (h : w.ownsRow B t k (.slice ao m cap) m cs) (h0 : 0 < m) : ∃ g, ao = some ⟨g, 0, none⟩ ∧ B ≤ g ∧ m ≤ cap := by
  rcases h.2 with ⟨_, e⟩ | ⟨g, cap', cur, e, hb, _, hc, _⟩
  · omega
  · cases e
    exact ⟨g, rfl, hb, hc⟩

set_option maxRecDepth 100000 in
set_option maxHeartbeats 12800000 in
theorem dealsM_any (w : World) {v1 v2 : Value} {sizes : List Int} {l : List De} (h1 : IntsAt w v1 sizes) (h2 : DealsAt w v2 l) (h6 : sizes.length ≤ 6) (h40 : l.length ≤ 40) (h8 : ∀ d ∈ l, d.talks.length ≤ 8) :
    Calls Try.prog 17 #[v1, v2, .func (.func 20) #[] #[]] w fun e w' => e = .returned (.bool true) ∧ Below w.heap.size w w' := by
  obtain ⟨a1, n1, cap1, rfl, hn1, hc1, hm1, hx1⟩ := h1
  obtain ⟨a2, n2, cap2, rfl, hn2, hc2, hm2, hx2⟩ := h2
  have hb1 : n1 ≤ 6 := by omega
  have hb2 : n2 ≤ 40 := by omega
  have HX1 := Lib.hid hx1
  have HX2 := Lib.hid hx2
  have HN2 := Lib.hid hn2
  have H8 := Lib.hid h8
  obtain ⟨ρ0, hl0⟩ := live_zero (Below.refl w.heap.size w) 28
  have HL0 := Lib.hid hl0
  clear hx1 hx2 hn1 hn2 h8 h6 h40 hl0 hc1 hc2 hm1 hm2
  go_enter Try.func17, Try.ntmps17
  go_wp2_with fail
  go_loopw [8] (fun i wr => ∃ k : Nat, k ≤ n1 ∧ i = .int .i64 k ∧ ∃ ρ s, Live w wr ρ w.heap.size 0 s ∧ Meet s ∧ s.chs.length = k) (fun i _ => n1 - (intOf i).toNat)
  case atStart => exact ⟨0, Nat.zero_le _, rfl, ρ0, _, HL0.out, Meet.zero, rfl⟩
  case round =>
    obtain ⟨k, hk, rfl, ρ, s, hl, hM, hsl⟩ := hrel
    rename World => wr
    have HL := Lib.hid hl
    have HM := Lib.hid hM
    have HSL := Lib.hid hsl
    clear hl hM hsl HL0
    by_cases hkn : k < n1
    · obtain ⟨b, o, rfl, hb, hcell⟩ := HX1.out (by omega)
      have hck := (HL.out.below.cell (p := ⟨b, o + k, none⟩) hb).trans (hcell k hkn)
      have hki : (0 : Int) ≤ (k : Int) ∧ (k : Int) < (n1 : Int) := by omega
      clear hcell hb
      go_wp2_with fail
      refine (pick_any _ 9 _ (by decide) (by decide)).mono ?_
      rintro e w3 ⟨sz, hsz, rfl, rfl⟩
      go_wp2_with fail
      refine (live_make HL.out sz (by omega) (by rw [HSL.out]; omega)).mono ?_
      rintro e w4 ⟨rfl, ⟨ρ', hl', -⟩, -⟩
      have HL' := Lib.hid hl'
      clear hl'
      go_wp2_with fail
      go_roundw
      case rel => exact ⟨k + 1, by omega, by go_num, ρ', _, HL'.out, HM.out.make sz, by rw [List.length_append, HSL.out]; rfl⟩
      case measure => simp [intOf]; omega
    · obtain rfl : k = n1 := by omega
      have hkk : ¬ (k : Int) < (k : Int) := by omega
      go_wp2_with fail
      go_loopw [11] (fun i wi => ∃ T : Nat, T ≤ n2 ∧ i = .int .i64 T ∧ ∃ ρ s, Live w wi ρ w.heap.size T s ∧ Meet s) (fun i _ => n2 - (intOf i).toNat)
      case atStart => exact ⟨0, Nat.zero_le _, rfl, ρ, s, HL.out, HM.out⟩
      case round =>
        obtain ⟨T, hT, rfl, ρ2, s2, hl2, hM2⟩ := hrel
        rename World => wi
        have HL2 := Lib.hid hl2
        have HM2 := Lib.hid hM2
        clear hl2 hM2 HL HM HSL
        by_cases hTn : T < n2
        · obtain ⟨b, o, rfl, hb, hd⟩ := HX2.out (by omega)
          obtain ⟨d, hget⟩ : ∃ d, l[T]? = some d := ⟨_, List.getElem?_eq_getElem (by rw [← HN2.out]; exact hTn)⟩
          obtain ⟨vt, e1, e2, e3, e5⟩ := hd T d hget
          have hd8 := H8.out d (List.mem_of_getElem? hget)
          have g1 := (HL2.out.below.cell (p := ⟨b, o + T * 2, none⟩) hb).trans e1
          have HG2 : Hid (∀ W : World, Below w.heap.size w W → W.cell? ⟨b, o + T * 2 + 1, none⟩ = some (.int .i64 d.draw)) := Lib.hid fun W hW => (hW.cell (p := ⟨b, o + T * 2 + 1, none⟩) hb).trans e2
          have htk : TalksAt wi vt d.talks := e3.keeps (Keeps.of_new (S := fun _ => False) HL2.out.below) fun _ _ => id
          have hcl := cloneT_any wi htk (by omega)
          have hTi : (0 : Int) ≤ (T : Int) ∧ (T : Int) < (n2 : Int) := by omega
          have HE5 := Lib.hid e5
          clear hd e1 e2 e3 e5 hb hget htk
          go_wp2_with fail
          refine hcl.mono ?_
          rintro e w3 ⟨u, rfl, hu, hb3⟩
          obtain ⟨m, hm⟩ : ∃ m, m = d.talks.length := ⟨_, rfl⟩
          rw [← hm] at hu hd8
          obtain ⟨au, cu, rfl⟩ := own_slice hu
          have HU := Lib.hid hu
          have HB3 := Lib.hid hb3
          have HMM := Lib.hid hm.symm
          clear hu hb3 hcl hm
          go_wp2_with fail
          go_loopw [13] (fun i wx => ∃ (j : Nat) (l3 : List Tk), j ≤ m ∧ i = .int .i64 j ∧ l3.length = m ∧ wx.ownsRow wi.heap.size 61 3 (.slice au m cu) m (cellsL l3) ∧ Keeps (fun g => wi.heap.size ≤ g) wi wx) (fun i _ => m - (intOf i).toNat)
          case atStart => exact ⟨0, d.talks, Nat.zero_le _, rfl, HMM.out, HU.out, Keeps.of_new HB3.out⟩
          case round =>
            obtain ⟨j, l3, hj, rfl, hl3, hr3, hk3⟩ := hrel
            rename World => wx
            have HL3 := Lib.hid hl3
            have HR3 := Lib.hid hr3
            have HK3 := Lib.hid hk3
            clear hl3 hr3 hk3 HU HB3
            by_cases hjm : j < m
            · obtain ⟨g, rfl, hg, hmc⟩ := own_addr HR3.out (by omega)
              obtain ⟨x, hx⟩ : ∃ x, l3[j]? = some x := ⟨_, List.getElem?_eq_getElem (by rw [HL3.out]; exact hjm)⟩
              obtain ⟨-, f2, -⟩ := cellsL_get l3 j x hx
              have c2 := World.ownsRow.cells HR3.out (g := g) rfl _ _ f2
              rw [addr_addP, Nat.zero_add] at c2
              have z2 := own_free HR3.out (j * 3 + 1)
              have hji : (0 : Int) ≤ (j : Int) ∧ (j : Int) < (m : Int) := by omega
              have HX3 := Lib.hid hx
              have hpk := pick_any x.chan (k + 1) wx (by omega) (by omega)
              rw [show (((k + 1 : Nat)) : Int) = (k : Int) + 1 from by omega] at hpk
              clear hx f2
              go_wp2_with fail
              refine hpk.mono ?_
              rintro e w4 ⟨c, hc, rfl, rfl⟩
              clear hpk
              go_wp2_with fail
              go_roundw
              case rel => exact ⟨j + 1, l3.set j { x with chan := c }, by omega, by go_num, by rw [List.length_set]; exact HL3.out, by rw [← cellsL_set l3 j x c HX3.out]; exact own_setG HR3.out _, HK3.out.setCell (p := ⟨g, j * 3 + 1, none⟩) (Or.inl hg) _⟩
              case measure => simp [intOf]; omega
            · obtain rfl : j = m := by omega
              have hjj : ¬ (j : Int) < (j : Int) := by omega
              have HLX : Hid (Live w wx ρ2 w.heap.size T s2) := Lib.hid (HL2.out.keeps HK3.out fun g hg e => by omega)
              have g2 := HG2.out wx HLX.out.below
              have HTA : Hid (TalksAt wx (.slice au j cu) l3) := Lib.hid (talks_of_own (by rw [HL3.out]; exact HR3.out))
              have HVO : Hid (∀ g, (Value.slice au j cu).ownBlock = some g → ρ2 g = .free) := Lib.hid fun g hg => HL2.out.free (Or.inl (World.ownsRow.lt HR3.out g hg).1)
              obtain ⟨r, hr⟩ : ∃ r, Pp.talk s2 T l3 d.draw = r := ⟨_, rfl⟩
              have HMR : Hid (Meet r.st) := Lib.hid (hr ▸ HM2.out.talk HLX.out.pipes.1 T l3 d.draw)
              have HWF : Hid ((Lit.int .i64 (T : Int)).wf = true) := Lib.hid (wf_small _ (by omega))
              by_cases he : r.err = 0
              · have hcl := live_talk HLX.out (by omega) T HWF.out HTA.out HVO.out d.draw HE5.out hr (er := .nilIface) (by rw [he]; rfl)
                have HHE := Lib.hid he
                clear he hr g1
                go_wp2_with fail
                refine hcl.mono ?_
                rintro e w5 ⟨vw, rfl, ⟨ρ5, h5, -, -⟩, -, -⟩
                have HL5 := Lib.hid (h5.new (alloc_new w5 (.cells #[.int .i64 r.case, .int .i64 r.n] 40)))
                clear h5 hcl
                go_wp2_with fail
                refine (meetsF_any HL5.out.pipes HMR.out (by omega) _ _ _).mono ?_
                rintro e w6 ⟨rfl, hb6⟩
                have HL6 := Lib.hid (HL5.out.new (Keeps.of_new hb6))
                clear hb6
                go_wp2_with fail
                go_roundw
                case rel => exact ⟨T + 1, by omega, by go_num, ρ5, r.st, HL6.out, HMR.out⟩
                case measure => simp [intOf]; omega
              · have hcl := live_talk HLX.out (by omega) T HWF.out HTA.out HVO.out d.draw HE5.out hr (er := .iface 63 (.int .i64 r.err)) (by unfold errV; rw [if_neg he])
                clear he hr g1
                go_wp2_with fail
                refine hcl.mono ?_
                rintro e w5 ⟨vw, rfl, ⟨ρ5, h5, -, -⟩, -, -⟩
                have HL5 := Lib.hid (h5.new (alloc_new w5 (.cells #[.int .i64 r.case, .int .i64 r.n] 40)))
                clear h5 hcl
                go_wp2_with fail
                go_roundw
                case rel => exact ⟨T + 1, by omega, by go_num, ρ5, r.st, HL5.out, HMR.out⟩
                case measure => simp [intOf]; omega
        · obtain rfl : T = n2 := by omega
          have hTT : ¬ (T : Int) < (T : Int) := by omega
          go_wp2_with fail
          go_ret
          exact ⟨rfl, HL2.out.below⟩
end Go.Proofs.Ytpehmghnfbkaaaa
