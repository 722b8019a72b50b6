/-
  The walk of what PipeMeets asks behind each deal: no two wait that could meet.
-/
import Derived.Test.YtpehmghnfbkaaaaPipeKM
import Derived.Test.YtpehmghnfbkaaaaPipeMM
import Derived.Deep.Cut
import Derived.BigQuiet
import Derived.IntWalk
namespace Go.Proofs.Ytpehmghnfbkaaaa
open Go.RowKit Go.Maps Pp

theorem cellsP_get : ∀ (l : List Sn) (i : Nat) (x : Sn), l[i]? = some x → (cellsP l)[i * 5]? = some (.int .i64 (x.c.size : Int)) ∧ (cellsP l)[i * 5 + 1]? = some x.vn ∧ (cellsP l)[i * 5 + 3]? = some x.u1 ∧ (cellsP l)[i * 5 + 4]? = some x.u2 := by
  intro l
  induction l with
  | nil => intro i x h; cases h
  | cons p r ih =>
    intro i x h
    have e : cellsP (p :: r) = .int .i64 (p.c.size : Int) :: p.vn :: .bool p.c.shut :: p.u1 :: p.u2 :: cellsP r := rfl
    cases i with
    | zero => cases h; exact ⟨rfl, rfl, rfl, rfl⟩
    | succ i =>
      have := ih i x (by simpa using h)
      rw [e]
      refine ⟨?_, ?_, ?_, ?_⟩
      · rw [show (i + 1) * 5 = i * 5 + 1 + 1 + 1 + 1 + 1 by omega]; simpa using this.1
      · rw [show (i + 1) * 5 + 1 = i * 5 + 1 + 1 + 1 + 1 + 1 + 1 by omega]; simpa using this.2.1
      · rw [show (i + 1) * 5 + 3 = i * 5 + 3 + 1 + 1 + 1 + 1 + 1 by omega]; simpa using this.2.2.1
      · rw [show (i + 1) * 5 + 4 = i * 5 + 4 + 1 + 1 + 1 + 1 + 1 by omega]; simpa using this.2.2.2
theorem cellsW_two : ∀ (l : List (Int × Nat)) (i : Nat) (x : Int × Nat), l[i]? = some x → (cellsW l)[i * 2]? = some (.int .i64 x.1) ∧ (cellsW l)[i * 2 + 1]? = some (.int .i64 (x.2 : Int)) := by
  intro l
  induction l with
  | nil => intro i x h; cases h
  | cons p r ih =>
    intro i x h
    have e : cellsW (p :: r) = .int .i64 p.1 :: .int .i64 (p.2 : Int) :: cellsW r := rfl
    cases i with
    | zero => cases h; exact ⟨rfl, rfl⟩
    | succ i =>
      have := ih i x (by simpa using h)
      rw [e]
      refine ⟨?_, ?_⟩
      · rw [show (i + 1) * 2 = i * 2 + 1 + 1 by omega]; simpa using this.1
      · rw [show (i + 1) * 2 + 1 = i * 2 + 1 + 1 + 1 by omega]; simpa using this.2
/-- A row of those that wait, to be read. -/
def ReadW (w : World) (v : Value) (r : List (Int × Nat)) : Prop :=
  ∃ ao cap, v = .slice ao r.length cap ∧ (0 < r.length → ∃ g, ao = some ⟨g, 0, none⟩ ∧ g < w.heap.size ∧ ∀ (i : Nat) x, r[i]? = some x → w.cell? ⟨g, i * 2, none⟩ = some (.int .i64 x.1) ∧ w.cell? ⟨g, i * 2 + 1, none⟩ = some (.int .i64 (x.2 : Int)))
theorem readW_of {w : World} {B : Nat} {v : Value} {r : List (Int × Nat)} (h : w.ownsRow B 58 2 v r.length (cellsW r)) : ReadW w v r := by
  have hc := h
  rcases h.2 with ⟨rfl, h0⟩ | ⟨g, cap, cur, rfl, hb, hg, h3, h4, h5, h6⟩
  · exact ⟨none, 0, by rw [h0], fun h => by omega⟩
  · refine ⟨_, _, rfl, fun _ => ⟨g, rfl, (Array.getElem?_eq_some_iff.1 hg).1, fun i x hx => ?_⟩⟩
    obtain ⟨e1, e2⟩ := cellsW_two r i x hx
    have f1 := World.ownsRow.cells hc (g := g) rfl _ _ e1
    have f2 := World.ownsRow.cells hc (g := g) rfl _ _ e2
    rw [addr_addP, Nat.zero_add] at f1 f2
    exact ⟨f1, f2⟩
/-- All that was looked at, to be read. -/
structure ReadL (w : World) (v : Value) (chs : List Ch) : Prop where
  sl : ∃ ao cap, v = .slice ao chs.length cap ∧ (0 < chs.length → ∃ g, ao = some ⟨g, 0, none⟩ ∧ g < w.heap.size ∧ ∀ (i : Nat) c, chs[i]? = some c → ∃ a0 k0 v1 v2, w.cell? ⟨g, i * 5, none⟩ = some (.int .i64 (c.size : Int)) ∧ w.cell? ⟨g, i * 5 + 1, none⟩ = some (.slice a0 c.nums.length k0) ∧
    w.cell? ⟨g, i * 5 + 3, none⟩ = some v1 ∧ w.cell? ⟨g, i * 5 + 4, none⟩ = some v2 ∧ ReadW w v1 c.sends ∧ ReadW w v2 c.recvs)
theorem readL_of {w : World} {B : Nat} {ao : Option Addr} {cap : Nat} {L : List Sn} {chs : List Ch} (hm : L.map Sn.c = chs) (h : Looked w B (.slice ao chs.length cap) L) : ReadL w (.slice ao chs.length cap) chs := by
  have hr := h.row
  have hl : L.length = chs.length := by rw [← hm, List.length_map]
  rcases h.row.2 with ⟨e, h0⟩ | ⟨g, cap', cur, hv, hb, hg, h3, h4, h5, h6⟩
  · exact ⟨ao, cap, rfl, fun h => by omega⟩
  · rw [Value.slice.injEq] at hv
    obtain ⟨rfl, _, rfl⟩ := hv
    refine ⟨_, _, rfl, fun _ => ⟨g, rfl, (Array.getElem?_eq_some_iff.1 hg).1, fun i c hc => ?_⟩⟩
    rw [← hm, List.getElem?_map] at hc
    obtain ⟨x, hx, rfl⟩ := Option.map_eq_some_iff.1 hc
    obtain ⟨e1, e2, e3, e4⟩ := cellsP_get L i x hx
    have hs := h.seen x (List.mem_of_getElem? hx)
    obtain ⟨a0, k0, e0⟩ := OwnI.slice hs.nums
    have f1 := World.ownsRow.cells hr (g := g) rfl _ _ e1
    have f2 := World.ownsRow.cells hr (g := g) rfl _ _ e2
    have f3 := World.ownsRow.cells hr (g := g) rfl _ _ e3
    have f4 := World.ownsRow.cells hr (g := g) rfl _ _ e4
    rw [addr_addP, Nat.zero_add] at f1 f2 f3 f4
    rw [e0] at f2
    exact ⟨a0, k0, _, _, f1, f2, f3, f4, readW_of hs.sends, readW_of hs.recvs⟩

set_option maxRecDepth 100000 in
set_option maxHeartbeats 6400000 in
theorem meetsF_any {w : World} {ρ : Nat → Role} {pb N : Nat} {s : St} (h : Pipes w ρ pb N s) (hM : Meet s) (hN : N ≤ 1000000) (t : Int) (vw : Value) (b : Bool) :
    Calls Try.prog 20 #[.pointer (some ⟨pb, 0, none⟩), .int .i64 t, vw, .bool b] w fun e w' => e = .returned (.bool true) ∧ Below w.heap.size w w' := by
  have HP := Lib.hid h
  have HM := Lib.hid hM
  have h32 : s.chs.length ≤ 32 := h.1.many
  have HCAP := Lib.hid h.1.caps
  clear h hM
  go_enter Try.func20, Try.ntmps20
  go_wp2_with fail
  refine (look_any HP.out hN).mono ?_
  rintro e w6 ⟨ao, cap, rfl, L, hm, hlk, hb6⟩
  have HB6 := Lib.hid hb6
  obtain ⟨hsl⟩ := readL_of hm hlk
  obtain ⟨ao', cap', hv, hx⟩ := hsl
  rw [Value.slice.injEq] at hv
  obtain ⟨rfl, -, rfl⟩ := hv
  have HX := Lib.hid hx
  obtain ⟨n, hn⟩ : ∃ n, n = s.chs.length := ⟨_, rfl⟩
  rw [← hn] at h32 ⊢
  have HN := Lib.hid hn
  clear hm hlk hb6 hx hn
  go_wp2_with fail
  go_loopw [10] (fun i wi => ∃ k : Nat, k ≤ n ∧ i = .int .i64 k ∧ Below w6.heap.size w6 wi) (fun i _ => n - (intOf i).toNat)
  case atStart => exact ⟨0, Nat.zero_le _, rfl, Below.refl _ _⟩
  case round =>
    obtain ⟨k, hk, rfl, hbi⟩ := hrel
    rename World => wi
    have HBI := Lib.hid hbi
    clear hbi
    by_cases hkn : k < n
    · obtain ⟨g, rfl, hgl, hg⟩ := HX.out (by rw [← HN.out]; omega)
      obtain ⟨c, hc⟩ : ∃ c, s.chs[k]? = some c := ⟨_, List.getElem?_eq_getElem (by rw [← HN.out]; exact hkn)⟩
      obtain ⟨a0, k0, v1, v2, c0, c1, c3, c4, ⟨asl, ks, rfl, hrs⟩, ⟨ar, kr, rfl, hrr⟩⟩ := hg k c hc
      have hki : (0 : Int) ≤ (k : Int) ∧ (k : Int) < (n : Int) := by omega
      have HTWO := Lib.hid (HM.out.two k c hc)
      have HNONE := Lib.hid (HM.out.none k c hc)
      have HCP : Hid (c.size ≤ 8 ∧ c.nums.length ≤ c.size) := Lib.hid (HCAP.out k c hc)
      have HC : Hid (∀ W : World, Below w6.heap.size w6 W → W.cell? ⟨g, k * 5, none⟩ = some (.int .i64 (c.size : Int)) ∧ W.cell? ⟨g, k * 5 + 1, none⟩ = some (.slice a0 c.nums.length k0) ∧ W.cell? ⟨g, k * 5 + 3, none⟩ = some (.slice asl c.sends.length ks) ∧ W.cell? ⟨g, k * 5 + 4, none⟩ = some (.slice ar c.recvs.length kr)) := Lib.hid fun W hW =>
        ⟨(hW.cell (p := ⟨g, k * 5, none⟩) hgl).trans c0, (hW.cell (p := ⟨g, k * 5 + 1, none⟩) hgl).trans c1, (hW.cell (p := ⟨g, k * 5 + 3, none⟩) hgl).trans c3, (hW.cell (p := ⟨g, k * 5 + 4, none⟩) hgl).trans c4⟩
      have HRS : Hid (∀ (W : World) (j : Nat) x, Below w6.heap.size w6 W → c.sends[j]? = some x → ∃ gs, asl = some ⟨gs, 0, none⟩ ∧ W.cell? ⟨gs, j * 2, none⟩ = some (.int .i64 x.1) ∧ W.cell? ⟨gs, j * 2 + 1, none⟩ = some (.int .i64 (x.2 : Int))) := Lib.hid fun W j x hW hj => by
        obtain ⟨gs, e, hl, hq⟩ := hrs (by have := (List.getElem?_eq_some_iff.1 hj).1; omega)
        obtain ⟨q1, q2⟩ := hq j x hj
        exact ⟨gs, e, (hW.cell (p := ⟨gs, j * 2, none⟩) hl).trans q1, (hW.cell (p := ⟨gs, j * 2 + 1, none⟩) hl).trans q2⟩
      have HRR : Hid (∀ (W : World) (j : Nat) x, Below w6.heap.size w6 W → c.recvs[j]? = some x → ∃ gs, ar = some ⟨gs, 0, none⟩ ∧ W.cell? ⟨gs, j * 2, none⟩ = some (.int .i64 x.1) ∧ W.cell? ⟨gs, j * 2 + 1, none⟩ = some (.int .i64 (x.2 : Int))) := Lib.hid fun W j x hW hj => by
        obtain ⟨gs, e, hl, hq⟩ := hrr (by have := (List.getElem?_eq_some_iff.1 hj).1; omega)
        obtain ⟨q1, q2⟩ := hq j x hj
        exact ⟨gs, e, (hW.cell (p := ⟨gs, j * 2, none⟩) hl).trans q1, (hW.cell (p := ⟨gs, j * 2 + 1, none⟩) hl).trans q2⟩
      have hrows : c.sends.length ≤ 6000000 ∧ c.recvs.length ≤ 6000000 := by
        obtain ⟨_, vch, ptr, mb, D, h1⟩ := HP.out
        have := h1.rows k c hc
        omega
      obtain ⟨d0, d1, d3, d4⟩ := HC.out wi HBI.out
      clear hg hrs hrr c0 c1 c3 c4 hc hgl
      obtain ⟨ns, hns⟩ : ∃ m, m = c.sends.length := ⟨_, rfl⟩
      obtain ⟨nr, hnr⟩ : ∃ m, m = c.recvs.length := ⟨_, rfl⟩
      obtain ⟨np, hnp⟩ : ∃ m, m = c.nums.length := ⟨_, rfl⟩
      rw [← hns] at d3 HC hrows
      rw [← hnr] at d4 HC hrows
      rw [← hnp] at d1 HC HCP
      have HNS := Lib.hid hns
      have HNR := Lib.hid hnr
      have HNP := Lib.hid hnp
      clear hns hnr hnp
      generalize c.size = sz at *
      go_wp2_with fail
      go_loopw [29] (fun i wa => ∃ j : Nat, j ≤ ns ∧ i = .int .i64 j ∧ Below w6.heap.size w6 wa) (fun i _ => ns - (intOf i).toNat)
      case atStart => exact ⟨0, Nat.zero_le _, rfl, HBI.out⟩
      case round =>
        obtain ⟨j, hj, rfl, hba⟩ := hrel
        rename World => wa
        have HBA := Lib.hid hba
        clear hba
        by_cases hjn : j < ns
        · obtain ⟨⟨xt, xk⟩, hx⟩ : ∃ x, c.sends[j]? = some x := ⟨_, List.getElem?_eq_getElem (by rw [← HNS.out]; exact hjn)⟩
          obtain ⟨gs, rfl, q1, q2⟩ := HRS.out wa j _ HBA.out hx
          have HMX := Lib.hid (List.mem_of_getElem? hx)
          have hji : (0 : Int) ≤ (j : Int) ∧ (j : Int) < (ns : Int) := by omega
          have e4 := Go.Lib.cell?_alloc_some (.cells #[.int .i64 xt, .int .i64 (xk : Nat)] 58) (HC.out wa HBA.out).2.2.2
          have HB0 : Hid (Below w6.heap.size w6 (wa.alloc (.cells #[.int .i64 xt, .int .i64 (xk : Nat)] 58))) := Lib.hid (HBA.out.alloc HBA.out.size _)
          have HA0 : Hid ((wa.alloc (.cells #[.int .i64 xt, .int .i64 (xk : Nat)] 58)).cell? ⟨wa.heap.size, 0, none⟩ = some (.int .i64 xt)) := Lib.hid (by rw [World.cell?_alloc_at _ _ _ _ rfl]; rfl)
          clear hx
          simp only at q1 q2
          go_wp2_with fail
          generalize (wa.alloc (.cells #[.int .i64 xt, .int .i64 (xk : Nat)] 58)) = wb0 at *
          generalize wa.heap.size = ba at *
          go_loopw [39] (fun i wb => ∃ m : Nat, m ≤ nr ∧ i = .int .i64 m ∧ Below w6.heap.size w6 wb ∧ wb.cell? ⟨ba, 0, none⟩ = some (.int .i64 xt)) (fun i _ => nr - (intOf i).toNat)
          case atStart => exact ⟨0, Nat.zero_le _, rfl, HB0.out, HA0.out⟩
          case round =>
            obtain ⟨m, hm, rfl, hbb, ha1⟩ := hrel
            rename World => wb
            have HBB := Lib.hid hbb
            have HA1 := Lib.hid ha1
            clear hbb
            by_cases hmn : m < nr
            · obtain ⟨⟨yt, yk⟩, hy⟩ : ∃ y, c.recvs[m]? = some y := ⟨_, List.getElem?_eq_getElem (by rw [← HNR.out]; exact hmn)⟩
              obtain ⟨gr, rfl, r1, r2⟩ := HRR.out wb m _ HBB.out hy
              have hxy := HTWO.out _ HMX.out _ (List.mem_of_getElem? hy)
              simp only at hxy r1 r2
              subst hxy
              have hmi : (0 : Int) ≤ (m : Int) ∧ (m : Int) < (nr : Int) := by omega
              have e5 := Go.Lib.cell?_alloc_some (.cells #[.int .i64 xt, .int .i64 (yk : Nat)] 58) ha1
              have HB2 : Hid (Below w6.heap.size w6 (wb.alloc (.cells #[.int .i64 xt, .int .i64 (yk : Nat)] 58))) := Lib.hid (HBB.out.alloc HBB.out.size _)
              have HE5 := Lib.hid e5
              clear hy
              go_wp2_with fail
              go_roundw
              case rel => exact ⟨m + 1, by omega, by go_num, HB2.out, HE5.out⟩
              case measure => simp [intOf]; omega
            · obtain rfl : m = nr := by omega
              have hmm : ¬ (m : Int) < (m : Int) := by omega
              clear ha1
              go_wp2_with fail
              go_roundw
              case rel => exact ⟨j + 1, by omega, by go_num, HBB.out⟩
              case measure => simp [intOf]; omega
        · obtain rfl : j = ns := by omega
          have hjj : ¬ (j : Int) < (j : Int) := by omega
          obtain ⟨d0, d1, d3, d4⟩ := HC.out wa HBA.out
          have hcp : np ≤ sz := HCP.out.2
          have hno : 0 < nr → np = 0 := fun h => by
            have h1 := HNONE.out (by rw [← List.length_pos_iff, ← HNR.out]; exact h)
            rw [HNP.out, h1]; rfl
          have hcase : (sz = 0 ∧ np = 0 ∧ nr = 0) ∨ (sz = 0 ∧ np = 0 ∧ 0 < nr) ∨ (sz ≠ 0 ∧ np = 0 ∧ 0 < nr) ∨ (sz ≠ 0 ∧ nr = 0) := by omega
          clear hcp hno
          clear HCP HNONE HNP HNR HNS HTWO HRS HRR HC
          rcases hcase with ⟨rfl, rfl, rfl⟩ | ⟨rfl, rfl, hr⟩ | ⟨hz, rfl, hr⟩ | ⟨hz, rfl⟩
          · go_wp2_with fail
            go_roundw
            case rel => exact ⟨k + 1, by omega, by go_num, HBA.out⟩
            case measure => simp [intOf]; omega
          · have r1 : decide ((0 : Int) < (nr : Int)) = true := decide_eq_true (by omega)
            have r2 : decide (0 < nr) = true := decide_eq_true (by omega)
            have r3 : 0 < nr := by omega
            have r4 : (0 : Int) < (nr : Int) := by omega
            clear hr
            go_wp2_with fail
            go_roundw
            case rel => exact ⟨k + 1, by omega, by go_num, HBA.out⟩
            case measure => simp [intOf]; omega
          · have z1 : ((sz : Int) == 0) = false := by rw [beq_eq_false_iff_ne]; omega
            have z2 : decide ((sz : Int) = 0) = false := decide_eq_false (by omega)
            have z3 : (sz == 0) = false := by rw [beq_eq_false_iff_ne]; omega
            have z4 : decide (sz = 0) = false := decide_eq_false (by omega)
            have z5 : ¬ sz = 0 := by omega
            have r1 : decide ((0 : Int) < (nr : Int)) = true := decide_eq_true (by omega)
            have r2 : decide (0 < nr) = true := decide_eq_true (by omega)
            have r3 : 0 < nr := by omega
            have r4 : (0 : Int) < (nr : Int) := by omega
            clear hz hr
            go_wp2_with fail
            go_roundw
            case rel => exact ⟨k + 1, by omega, by go_num, HBA.out⟩
            case measure => simp [intOf]; omega
          · have z1 : ((sz : Int) == 0) = false := by rw [beq_eq_false_iff_ne]; omega
            have z2 : decide ((sz : Int) = 0) = false := decide_eq_false (by omega)
            have z3 : (sz == 0) = false := by rw [beq_eq_false_iff_ne]; omega
            have z4 : decide (sz = 0) = false := decide_eq_false (by omega)
            have z5 : ¬ sz = 0 := by omega
            clear hz
            go_wp2_with fail
            go_roundw
            case rel => exact ⟨k + 1, by omega, by go_num, HBA.out⟩
            case measure => simp [intOf]; omega
    · obtain rfl : k = n := by omega
      have hkk : ¬ (k : Int) < (k : Int) := by omega
      go_wp2_with fail
      go_ret
      exact ⟨rfl, HB6.out.trans (HBI.out.mono HB6.out.size)⟩
end Go.Proofs.Ytpehmghnfbkaaaa
