/-
  The walk of the law PipeShut: shut for good.
-/
import Derived.Test.YtpehmghnfbkaaaaDoorPipeCB
import Derived.Test.YtpehmghnfbkaaaaDoorPipeL2
import Derived.Test.YtpehmghnfbkaaaaDoorTellB
import Derived.Deep.Cut
import Derived.IntWalk
namespace Go.Proofs.YtpehmghnfbkaaaaDoor
open Go.RowKit Go.Maps Pp

theorem live_close {w0 w : World} {ρ : Nat → Role} {pb N : Nat} {s : St} (h : Live w0 w ρ pb N s) (hN : N ≤ 100000) (c : Int) {g : Got} (hg : Pp.close s c = g) {er : Value} (he : errV g.err = er) :
    Calls Tryd.prog 12 #[.pointer (some ⟨pb, 0, none⟩), .int .i64 c] w fun e w' => ∃ vw, e = .returned (.tuple #[vw, er]) ∧ (∃ ρ', Live w0 w' ρ' pb N g.st ∧ ∀ b, vw.ownBlock = some b → ρ' b = .free) ∧
      w'.ownsRow w.heap.size 65 3 vw g.wakes.length (cellsK g.wakes) ∧ Keeps (fun b => ρ b ≠ .free) w w' := by
  subst hg
  subst he
  refine (close_any h.pipes hN c).mono ?_
  rintro e w' ⟨vw, rfl, ⟨ρ', h1, h2, h3⟩, h4, h5⟩
  exact ⟨vw, rfl, ⟨ρ', ⟨h1, fun b hb => h.own b (h2 b hb), h.below.trans (h5.below h.below.size fun b _ e => h.own b e)⟩, h3⟩, h4, h5⟩
def nsV (n : Nat) : List Int := (List.range n).map fun (k : Nat) => (k : Int) + 1
theorem nsV_succ (n : Nat) : nsV (n + 1) = nsV n ++ [(n : Int) + 1] := by unfold nsV; rw [List.range_succ, List.map_append]; rfl
theorem nsV_len (n : Nat) : (nsV n).length = n := by simp [nsV]
theorem nsV_drop {n i : Nat} (h : i < n) : (nsV n).drop i = ((i : Int) + 1) :: (nsV n).drop (i + 1) := by
  rw [List.drop_eq_getElem_cons (by rw [nsV_len]; exact h)]
  congr 1
  simp [nsV]
theorem nsV_none (n : Nat) {i : Nat} (h : n ≤ i) : (nsV n).drop i = [] := List.drop_eq_nil_of_le (by rw [nsV_len]; exact h)
/-- The wakes of tasks 0 to k - 1. -/
def wksV (k : Nat) : List Wk := (List.range k).map fun (i : Nat) => ⟨(i : Int), 0, 0⟩
theorem wksV_len (k : Nat) : (wksV k).length = k := by simp [wksV]
theorem cellsK_get : ∀ (l : List Wk) (i : Nat) (x : Wk), l[i]? = some x → (cellsK l)[i * 3]? = some (.int .i64 x.task) ∧ (cellsK l)[i * 3 + 1]? = some (.int .i64 (x.case : Int)) ∧ (cellsK l)[i * 3 + 2]? = some (.int .i64 x.n) := by
  intro l
  induction l with
  | nil => intro i x h; cases h
  | cons p r ih =>
    intro i x h
    have e : cellsK (p :: r) = .int .i64 p.task :: .int .i64 (p.case : Int) :: .int .i64 p.n :: cellsK r := rfl
    cases i with
    | zero => cases h; exact ⟨rfl, rfl, rfl⟩
    | succ i =>
      have := ih i x (by simpa using h)
      rw [e]
      refine ⟨?_, ?_, ?_⟩
      · rw [show (i + 1) * 3 = i * 3 + 1 + 1 + 1 by omega]; simpa using this.1
      · rw [show (i + 1) * 3 + 1 = i * 3 + 1 + 1 + 1 + 1 by omega]; simpa using this.2.1
      · rw [show (i + 1) * 3 + 2 = i * 3 + 2 + 1 + 1 + 1 by omega]; simpa using this.2.2
/-- Those that go on, to be read. -/
def ReadK (w : World) (v : Value) (k : Nat) : Prop :=
  ∃ ao cap, v = .slice ao k cap ∧ (0 < k → ∃ g, ao = some ⟨g, 0, none⟩ ∧ g < w.heap.size ∧ ∀ (i : Nat), i < k → w.cell? ⟨g, i * 3, none⟩ = some (.int .i64 (i : Nat)) ∧ w.cell? ⟨g, i * 3 + 1, none⟩ = some (.int .i64 0) ∧ w.cell? ⟨g, i * 3 + 2, none⟩ = some (.int .i64 0))
theorem readK_of {w : World} {B k : Nat} {v : Value} (h : w.ownsRow B 65 3 v (wksV k).length (cellsK (wksV k))) : ReadK w v k := by
  have hc := h
  rw [wksV_len] at h
  rcases h.2 with ⟨rfl, h0⟩ | ⟨g, cap, cur, rfl, hb, hg, h3, h4, h5, h6⟩
  · exact ⟨none, 0, by rw [h0], fun h => by omega⟩
  · refine ⟨_, _, rfl, fun _ => ⟨g, rfl, (Array.getElem?_eq_some_iff.1 hg).1, fun i hi => ?_⟩⟩
    obtain ⟨e1, e2, e3⟩ := cellsK_get (wksV k) i ⟨(i : Int), 0, 0⟩ (by unfold wksV; rw [List.getElem?_map, List.getElem?_range hi]; rfl)
    have f1 := World.ownsRow.cells hc (g := g) rfl _ _ e1
    have f2 := World.ownsRow.cells hc (g := g) rfl _ _ e2
    have f3 := World.ownsRow.cells hc (g := g) rfl _ _ e3
    rw [addr_addP, Nat.zero_add] at f1 f2 f3
    exact ⟨f1, f2, f3⟩

set_option maxRecDepth 100000 in
set_option maxHeartbeats 12800000 in
theorem pipeShut_any (size n0 waiters : Int) (w : World) (_ : -9223372036854775808 ≤ size) (_ : size ≤ 9223372036854775807) (_ : -9223372036854775808 ≤ n0) (_ : n0 ≤ 9223372036854775807) (_ : -9223372036854775808 ≤ waiters) (_ : waiters ≤ 9223372036854775807) (hE : ErrT w) :
    Calls Tryd.prog 4 #[.int .i64 size, .int .i64 n0, .int .i64 waiters] w fun e w' => e = .returned (.bool true) ∧ Below w.heap.size w w' := by
  have hlt : 0 < w.heap.size := block_lt_of_cell hE
  have HE : Hid (∀ W, Below w.heap.size w W → ErrT W) := Lib.hid fun W hb => hE.below hb hlt
  clear hE hlt
  go_enter Tryd.func4, Tryd.ntmps4
  go_wp2_with fail
  refine (piped_any w).mono ?_
  rintro e w1 ⟨rfl, hb1⟩
  have HB1 := Lib.hid hb1
  clear hb1
  go_wp2_with fail
  refine (pick_any size 9 _ (by decide) (by decide)).mono ?_
  rintro e w2 ⟨sz, hsz, rfl, rfl⟩
  go_wp2_with fail
  refine (pick_any waiters 20 _ (by decide) (by decide)).mono ?_
  rintro e w2 ⟨wt, hwt, rfl, rfl⟩
  have hpk := pick_any n0 (sz + 1) w1 (by omega) (by omega)
  rw [show (((sz + 1 : Nat)) : Int) = (sz : Int) + 1 from by omega] at hpk
  go_wp2_with fail
  refine hpk.mono ?_
  rintro e w2 ⟨n, hn, rfl, rfl⟩
  obtain ⟨ρ0, hl0⟩ := live_zero HB1.out 31
  have HL0 := Lib.hid hl0
  clear hl0 hpk
  go_wp2_with fail
  refine (live_make HL0.out sz (by omega) (by decide)).mono ?_
  rintro e w3 ⟨rfl, ⟨ρ3, h3, -⟩, -⟩
  rw [show ((Pp.zero.chs.length : Int) + 1) = 1 from rfl]
  have h3' : Live w w3 ρ3 w1.heap.size 0 (shS sz [] false 0) := by rw [← shS_new]; exact h3
  have H3 := Lib.hid h3'
  clear h3 h3' HL0
  generalize w1.heap.size = pb at *
  go_wp2_with fail
  go_loopw [10] (fun iv wr => ∃ i : Nat, i ≤ n ∧ iv = .int .i64 i ∧ ∃ ρ, Live w wr ρ pb i (shS sz (nsV i) false 0)) (fun iv _ => n - (intOf iv).toNat)
  case atStart => exact ⟨0, Nat.zero_le _, rfl, ρ3, H3.out⟩
  case round =>
    obtain ⟨i, hi, rfl, ρ, hl⟩ := hrel
    rename World => wr
    have HL := Lib.hid hl
    clear hl H3
    by_cases hin : i < n
    · have HLA := Lib.hid (HL.out.new (alloc_new wr (.cells #[.int .i64 3, .int .i64 1, .int .i64 ((i : Int) + 1)] 85)))
      have HTA := Lib.hid (talk_one wr ⟨3, 1, (i : Int) + 1⟩ 85 (b := wr.heap.size) rfl)
      have HF : Hid (ρ wr.heap.size = .free) := Lib.hid (HL.out.free (Or.inl (Nat.le_refl _)))
      have HTK : Hid (Pp.talk (shS sz (nsV i) false 0) (100 + (i : Int)) [⟨3, 1, (i : Int) + 1⟩] 0 = ⟨shS sz (nsV (i + 1)) false 0, 0, 0, [], false, 0⟩) := Lib.hid (by
        rw [nsV_succ]; exact talk_send (by rw [nsV_len]; omega) _ (by omega) _)
      have HCL := Lib.hid (live_talk HLA.out (by omega) (100 + (i : Int)) (wf_small _ (by omega)) HTA.out (fun g hg => by cases hg; exact HF.out) 0 (by decide) HTK.out (er := .nilIface) rfl)
      go_wp2_with fail
      refine (rsend_any wr 1 _).mono ?_
      rintro e w5 ⟨rfl, rfl⟩
      go_wp2_with fail
      refine HCL.out.mono ?_
      rintro e w5 ⟨vw, rfl, ⟨ρ5, h5, -⟩, -, -⟩
      have HL5 := Lib.hid (h5.new (alloc_new w5 (.cells #[.int .i64 0, .int .i64 0] 44)))
      clear h5
      go_wp2_with fail
      go_roundw
      case rel => exact ⟨i + 1, by omega, by go_num, ρ5, HL5.out⟩
      case measure => simp [intOf]; omega
    · obtain rfl : i = n := by omega
      have hnn : ¬ (i : Int) < (i : Int) := by omega
      go_wp2_with fail
      rcases Nat.eq_zero_or_pos i with h0 | h0
      · have z1 : ((i : Int) == 0) = true := by rw [beq_iff_eq]; omega
        have z2 : decide ((i : Int) = 0) = true := decide_eq_true (by omega)
        have z3 : (i == 0) = true := by rw [beq_iff_eq]; omega
        have z4 : decide (i = 0) = true := decide_eq_true (by omega)
        have HL0 : Hid (Live w wr ρ pb 0 (shS sz [] false 0)) := Lib.hid (by subst h0; exact HL.out)
        have HI0 := Lib.hid h0
        clear h0 HL
        go_loopw [15] (fun jv wr => ∃ j : Nat, j ≤ wt ∧ jv = .int .i64 j ∧ ∃ ρ, Live w wr ρ pb j (shS sz [] false j)) (fun jv _ => wt - (intOf jv).toNat)
        case atStart => exact ⟨0, Nat.zero_le _, rfl, ρ, HL0.out⟩
        case round =>
          obtain ⟨j, hj, rfl, ρ1, hl1⟩ := hrel
          rename World => wq
          have HL1 := Lib.hid hl1
          clear hl1 HL0
          by_cases hjw : j < wt
          · have HLA := Lib.hid (HL1.out.new (alloc_new wq (.cells #[.int .i64 10, .int .i64 1, .int .i64 0] 85)))
            have HTA := Lib.hid (talk_one wq ⟨10, 1, 0⟩ 85 (b := wq.heap.size) rfl)
            have HF : Hid (ρ1 wq.heap.size = .free) := Lib.hid (HL1.out.free (Or.inl (Nat.le_refl _)))
            have HTK := Lib.hid (talk_wait sz j)
            have HCL := Lib.hid (live_talk HLA.out (by omega) (j : Int) (wf_small _ (by omega)) HTA.out (fun g hg => by cases hg; exact HF.out) 0 (by decide) HTK.out (er := .nilIface) rfl)
            have hjwi : (j : Int) < (wt : Int) := by omega
            go_wp2_with fail
            refine (rrecv_any wq 1).mono ?_
            rintro e w5 ⟨rfl, rfl⟩
            go_wp2_with fail
            refine HCL.out.mono ?_
            rintro e w5 ⟨vw, rfl, ⟨ρ5, h5, -⟩, -, -⟩
            have HL5 := Lib.hid (h5.new (alloc_new w5 (.cells #[.int .i64 0, .int .i64 0] 44)))
            clear h5
            go_wp2_with fail
            go_roundw
            case rel => exact ⟨j + 1, by omega, by go_num, ρ5, HL5.out⟩
            case measure => simp [intOf]; omega
          · have hje : j = wt := by omega
            have hjw : ¬ (j : Int) < (wt : Int) := by omega
            subst hje
            obtain ⟨N2, hN2⟩ : ∃ N2 : Nat, N2 = j := ⟨_, rfl⟩
            have hN2l : N2 ≤ 100 := by omega
            have HL2 : Hid (Live w wq ρ1 pb N2 (shS sz (nsV i) false j)) := Lib.hid (by rw [hN2, HI0.out]; exact HL1.out)
            clear hN2
            have hww : (j : Int) = (j : Int) := rfl
            go_wp2_with fail
            refine (live_close HL2.out (by omega) 1 (close_sh sz (nsV i) j) (er := .nilIface) rfl).mono ?_
            rintro e w6 ⟨vw, rfl, ⟨ρ6, h6, -⟩, hw6, -⟩
            have HL6 := Lib.hid h6
            obtain ⟨ak, ck, rfl, hk6⟩ := readK_of (k := j) hw6
            have HK6 := Lib.hid hk6
            clear h6 hw6 hk6
            
            go_wp2_with fail
            go_loopw [21] (fun jv wr => ∃ q : Nat, q ≤ j ∧ jv = .int .i64 q ∧ wr = w6) (fun jv _ => j - (intOf jv).toNat)
            case atStart => exact ⟨0, Nat.zero_le _, rfl, rfl⟩
            case round =>
              obtain ⟨q, hj, rfl, hww⟩ := hrel
              rename World => wr
              subst hww
              by_cases hjk : q < j
              · obtain ⟨g, rfl, hgl, hg⟩ := HK6.out (by omega)
                obtain ⟨y0, y1, y2⟩ := hg q hjk
                have hji : (0 : Int) ≤ (q : Int) ∧ (q : Int) < ((j : Nat) : Int) := by omega
                clear hg
                go_wp2_with fail
                go_roundw
                case rel => exact ⟨q + 1, by omega, by go_num, by first | rfl | trivial⟩
                case measure => simp [intOf]; omega
              · have hje : q = j := by omega
                have hjj : ¬ (q : Int) < ((j : Nat) : Int) := by omega
                clear hje
                go_wp2_with fail
                go_loopw [22] (fun mv wr => ∃ m : Nat, m ≤ i + 2 ∧ mv = .int .i64 m ∧ ∃ ρ, Live w wr ρ pb (N2 + m) (shS sz ((nsV i).drop m) true 0)) (fun mv _ => i + 2 - (intOf mv).toNat)
                case atStart => exact ⟨0, Nat.zero_le _, rfl, ρ6, HL6.out⟩
                case round =>
                  obtain ⟨m, hm, rfl, ρ7, hl7⟩ := hrel
                  rename World => wr
                  have HL7 := Lib.hid hl7
                  clear hl7
                  by_cases hmn : m < i + 2
                  · have hmi : (m : Int) < (i : Int) + 2 := by omega
                    have HLA := Lib.hid (HL7.out.new (alloc_new wr (.cells #[.int .i64 10, .int .i64 1, .int .i64 0] 85)))
                    have HTA := Lib.hid (talk_one wr ⟨10, 1, 0⟩ 85 (b := wr.heap.size) rfl)
                    have HF : Hid (ρ7 wr.heap.size = .free) := Lib.hid (HL7.out.free (Or.inl (Nat.le_refl _)))
                    by_cases hm1 : m < i
                    · have hm2 : (m : Int) < (i : Int) := by omega
                      have HTK : Hid (Pp.talk (shS sz ((nsV i).drop m) true 0) (200 + (m : Int)) [⟨10, 1, 0⟩] 0 = ⟨shS sz ((nsV i).drop (m + 1)) true 0, 0, (m : Int) + 1, [], false, 0⟩) := Lib.hid (by rw [nsV_drop hm1]; exact talk_take _ (by omega))
                      have HCL := Lib.hid (live_talk HLA.out (by omega) (200 + (m : Int)) (wf_small _ (by omega)) HTA.out (fun g hg => by cases hg; exact HF.out) 0 (by decide) HTK.out (er := .nilIface) rfl)
                      go_wp2_with fail
                      refine (rrecv_any wr 1).mono ?_
                      rintro e w8 ⟨rfl, rfl⟩
                      go_wp2_with fail
                      refine HCL.out.mono ?_
                      rintro e w8 ⟨vw, rfl, ⟨ρ8, h8, -⟩, -, -⟩
                      have HL8 := Lib.hid (h8.new (alloc_new w8 (.cells #[.int .i64 0, .int .i64 ((m : Int) + 1)] 44)))
                      have a1 : (w8.alloc (.cells #[.int .i64 0, .int .i64 ((m : Int) + 1)] 44)).cell? ⟨w8.heap.size, 1, none⟩ = some (.int .i64 ((m : Int) + 1)) := by rw [World.cell?_alloc_at _ _ _ _ rfl]; rfl
                      clear h8
                      go_wp2_with fail
                      go_roundw
                      case rel => exact ⟨m + 1, by omega, by go_num, ρ8, HL8.out⟩
                      case measure => simp [intOf]; omega
                    · have hm2 : ¬ (m : Int) < (i : Int) := by omega
                      have HTK : Hid (Pp.talk (shS sz ((nsV i).drop m) true 0) (200 + (m : Int)) [⟨10, 1, 0⟩] 0 = ⟨shS sz ((nsV i).drop (m + 1)) true 0, 0, 0, [], false, 0⟩) := Lib.hid (by rw [nsV_none i (by omega : i ≤ m), nsV_none i (by omega : i ≤ m + 1)]; exact talk_none0 _ (by omega))
                      have HCL := Lib.hid (live_talk HLA.out (by omega) (200 + (m : Int)) (wf_small _ (by omega)) HTA.out (fun g hg => by cases hg; exact HF.out) 0 (by decide) HTK.out (er := .nilIface) rfl)
                      go_wp2_with fail
                      refine (rrecv_any wr 1).mono ?_
                      rintro e w8 ⟨rfl, rfl⟩
                      go_wp2_with fail
                      refine HCL.out.mono ?_
                      rintro e w8 ⟨vw, rfl, ⟨ρ8, h8, -⟩, -, -⟩
                      have HL8 := Lib.hid (h8.new (alloc_new w8 (.cells #[.int .i64 0, .int .i64 0] 44)))
                      have a1 : (w8.alloc (.cells #[.int .i64 0, .int .i64 0] 44)).cell? ⟨w8.heap.size, 1, none⟩ = some (.int .i64 0) := by rw [World.cell?_alloc_at _ _ _ _ rfl]; rfl
                      clear h8
                      go_wp2_with fail
                      go_roundw
                      case rel => exact ⟨m + 1, by omega, by go_num, ρ8, HL8.out⟩
                      case measure => simp [intOf]; omega
                  · have hme : m = i + 2 := by omega
                    have hmi : ¬ (m : Int) < (i : Int) + 2 := by omega
                    have HLA := Lib.hid (HL7.out.new (alloc_new wr (.cells #[.int .i64 3, .int .i64 1, .int .i64 1] 85)))
                    have HTA := Lib.hid (talk_one wr ⟨3, 1, 1⟩ 85 (b := wr.heap.size) rfl)
                    have HF : Hid (ρ7 wr.heap.size = .free) := Lib.hid (HL7.out.free (Or.inl (Nat.le_refl _)))
                    have HTK : Hid (Pp.talk (shS sz ((nsV i).drop m) true 0) 300 [⟨3, 1, 1⟩] 0 = ⟨shS sz ((nsV i).drop m) true 0, 0, 0, [], false, 13⟩) := Lib.hid (talk_shut _ (by omega) _)
                    have HCL := Lib.hid (live_talk HLA.out (by omega) 300 (by decide) HTA.out (fun g hg => by cases hg; exact HF.out) 0 (by decide) HTK.out (er := .iface 35 (.int .i64 13)) rfl)
                    clear hme
                    go_wp2_with fail
                    refine (rsend_any wr 1 1).mono ?_
                    rintro e w8 ⟨rfl, rfl⟩
                    go_wp2_with fail
                    refine HCL.out.mono ?_
                    rintro e w8 ⟨vw, rfl, ⟨ρ8, h8, -⟩, -, -⟩
                    have HL8 := Lib.hid (h8.new (alloc_new w8 (.cells #[.int .i64 0, .int .i64 0] 44)))
                    clear h8
                    go_wp2_with fail
                    refine (live_close HL8.out (by omega) 1 (close_shut sz _) (er := .iface 35 (.int .i64 1)) rfl).mono ?_
                    rintro e w9 ⟨vw9, rfl, ⟨ρ9, h9, -⟩, -, -⟩
                    have HB9 := Lib.hid h9.below
                    clear h9
                    go_wp2_with fail
                    refine (tell_errno 13 w9 (HE.out _ HB9.out)).mono ?_
                    rintro e w10 ⟨rfl, hb10⟩
                    have HB10 : Hid (Below w.heap.size w w10) := Lib.hid (HB9.out.trans (hb10.mono HB9.out.size))
                    clear hb10
                    go_wp2_with fail
                    refine (tell_errno 1 w10 (HE.out _ HB10.out)).mono ?_
                    rintro e w11 ⟨rfl, hb11⟩
                    have HB11 : Hid (Below w.heap.size w w11) := Lib.hid (HB10.out.trans (hb11.mono HB10.out.size))
                    clear hb11
                    go_wp2_with fail
                    go_ret
                    exact ⟨rfl, HB11.out⟩
      · have z1 : ((i : Int) == 0) = false := by rw [beq_eq_false_iff_ne]; omega
        have z2 : decide ((i : Int) = 0) = false := decide_eq_false (by omega)
        have z3 : (i == 0) = false := by rw [beq_eq_false_iff_ne]; omega
        have z4 : decide (i = 0) = false := decide_eq_false (by omega)
        have HI0 := Lib.hid h0
        clear h0
        go_loopw [15] (fun jv wr => jv = .int .i64 0 ∧ ∃ ρ, Live w wr ρ pb i (shS sz (nsV i) false 0)) (fun _ _ => 0)
        case atStart => exact ⟨rfl, ρ, HL.out⟩
        case round =>
          obtain ⟨rfl, ρ1, hl1⟩ := hrel
          rename World => wq
          obtain ⟨N2, hN2⟩ : ∃ N2 : Nat, N2 = i := ⟨_, rfl⟩
          have hN2l : N2 ≤ 100 := by omega
          have HL2 : Hid (Live w wq ρ1 pb N2 (shS sz (nsV i) false 0)) := Lib.hid (by rw [hN2]; exact hl1)
          clear hl1 HL hN2
          rcases Nat.eq_zero_or_pos wt with h9 | h9
          · have y1 : ¬ (0 : Int) < (wt : Int) := by omega
            have y2 : decide ((0 : Int) < (wt : Int)) = false := decide_eq_false y1
            have y3 : decide (0 < wt) = false := decide_eq_false (by omega)
            clear h9
            go_wp2_with fail
            refine (live_close HL2.out (by omega) 1 (close_sh sz (nsV i) 0) (er := .nilIface) rfl).mono ?_
            rintro e w6 ⟨vw, rfl, ⟨ρ6, h6, -⟩, hw6, -⟩
            have HL6 := Lib.hid h6
            obtain ⟨ak, ck, rfl, hk6⟩ := readK_of (k := 0) hw6
            have HK6 := Lib.hid hk6
            clear h6 hw6 hk6
            
            go_wp2_with fail
            go_loopw [21] (fun jv wr => ∃ q : Nat, q ≤ 0 ∧ jv = .int .i64 q ∧ wr = w6) (fun jv _ => 0 - (intOf jv).toNat)
            case atStart => exact ⟨0, Nat.zero_le _, rfl, rfl⟩
            case round =>
              obtain ⟨q, hj, rfl, hww⟩ := hrel
              rename World => wr
              subst hww
              by_cases hjk : q < 0
              · exact absurd hjk (Nat.not_lt_zero _)
              · have hje : q = 0 := by omega
                have hjj : ¬ (q : Int) < ((0 : Nat) : Int) := by omega
                clear hje
                go_wp2_with fail
                go_loopw [22] (fun mv wr => ∃ m : Nat, m ≤ i + 2 ∧ mv = .int .i64 m ∧ ∃ ρ, Live w wr ρ pb (N2 + m) (shS sz ((nsV i).drop m) true 0)) (fun mv _ => i + 2 - (intOf mv).toNat)
                case atStart => exact ⟨0, Nat.zero_le _, rfl, ρ6, HL6.out⟩
                case round =>
                  obtain ⟨m, hm, rfl, ρ7, hl7⟩ := hrel
                  rename World => wr
                  have HL7 := Lib.hid hl7
                  clear hl7
                  by_cases hmn : m < i + 2
                  · have hmi : (m : Int) < (i : Int) + 2 := by omega
                    have HLA := Lib.hid (HL7.out.new (alloc_new wr (.cells #[.int .i64 10, .int .i64 1, .int .i64 0] 85)))
                    have HTA := Lib.hid (talk_one wr ⟨10, 1, 0⟩ 85 (b := wr.heap.size) rfl)
                    have HF : Hid (ρ7 wr.heap.size = .free) := Lib.hid (HL7.out.free (Or.inl (Nat.le_refl _)))
                    by_cases hm1 : m < i
                    · have hm2 : (m : Int) < (i : Int) := by omega
                      have HTK : Hid (Pp.talk (shS sz ((nsV i).drop m) true 0) (200 + (m : Int)) [⟨10, 1, 0⟩] 0 = ⟨shS sz ((nsV i).drop (m + 1)) true 0, 0, (m : Int) + 1, [], false, 0⟩) := Lib.hid (by rw [nsV_drop hm1]; exact talk_take _ (by omega))
                      have HCL := Lib.hid (live_talk HLA.out (by omega) (200 + (m : Int)) (wf_small _ (by omega)) HTA.out (fun g hg => by cases hg; exact HF.out) 0 (by decide) HTK.out (er := .nilIface) rfl)
                      go_wp2_with fail
                      refine (rrecv_any wr 1).mono ?_
                      rintro e w8 ⟨rfl, rfl⟩
                      go_wp2_with fail
                      refine HCL.out.mono ?_
                      rintro e w8 ⟨vw, rfl, ⟨ρ8, h8, -⟩, -, -⟩
                      have HL8 := Lib.hid (h8.new (alloc_new w8 (.cells #[.int .i64 0, .int .i64 ((m : Int) + 1)] 44)))
                      have a1 : (w8.alloc (.cells #[.int .i64 0, .int .i64 ((m : Int) + 1)] 44)).cell? ⟨w8.heap.size, 1, none⟩ = some (.int .i64 ((m : Int) + 1)) := by rw [World.cell?_alloc_at _ _ _ _ rfl]; rfl
                      clear h8
                      go_wp2_with fail
                      go_roundw
                      case rel => exact ⟨m + 1, by omega, by go_num, ρ8, HL8.out⟩
                      case measure => simp [intOf]; omega
                    · have hm2 : ¬ (m : Int) < (i : Int) := by omega
                      have HTK : Hid (Pp.talk (shS sz ((nsV i).drop m) true 0) (200 + (m : Int)) [⟨10, 1, 0⟩] 0 = ⟨shS sz ((nsV i).drop (m + 1)) true 0, 0, 0, [], false, 0⟩) := Lib.hid (by rw [nsV_none i (by omega : i ≤ m), nsV_none i (by omega : i ≤ m + 1)]; exact talk_none0 _ (by omega))
                      have HCL := Lib.hid (live_talk HLA.out (by omega) (200 + (m : Int)) (wf_small _ (by omega)) HTA.out (fun g hg => by cases hg; exact HF.out) 0 (by decide) HTK.out (er := .nilIface) rfl)
                      go_wp2_with fail
                      refine (rrecv_any wr 1).mono ?_
                      rintro e w8 ⟨rfl, rfl⟩
                      go_wp2_with fail
                      refine HCL.out.mono ?_
                      rintro e w8 ⟨vw, rfl, ⟨ρ8, h8, -⟩, -, -⟩
                      have HL8 := Lib.hid (h8.new (alloc_new w8 (.cells #[.int .i64 0, .int .i64 0] 44)))
                      have a1 : (w8.alloc (.cells #[.int .i64 0, .int .i64 0] 44)).cell? ⟨w8.heap.size, 1, none⟩ = some (.int .i64 0) := by rw [World.cell?_alloc_at _ _ _ _ rfl]; rfl
                      clear h8
                      go_wp2_with fail
                      go_roundw
                      case rel => exact ⟨m + 1, by omega, by go_num, ρ8, HL8.out⟩
                      case measure => simp [intOf]; omega
                  · have hme : m = i + 2 := by omega
                    have hmi : ¬ (m : Int) < (i : Int) + 2 := by omega
                    have HLA := Lib.hid (HL7.out.new (alloc_new wr (.cells #[.int .i64 3, .int .i64 1, .int .i64 1] 85)))
                    have HTA := Lib.hid (talk_one wr ⟨3, 1, 1⟩ 85 (b := wr.heap.size) rfl)
                    have HF : Hid (ρ7 wr.heap.size = .free) := Lib.hid (HL7.out.free (Or.inl (Nat.le_refl _)))
                    have HTK : Hid (Pp.talk (shS sz ((nsV i).drop m) true 0) 300 [⟨3, 1, 1⟩] 0 = ⟨shS sz ((nsV i).drop m) true 0, 0, 0, [], false, 13⟩) := Lib.hid (talk_shut _ (by omega) _)
                    have HCL := Lib.hid (live_talk HLA.out (by omega) 300 (by decide) HTA.out (fun g hg => by cases hg; exact HF.out) 0 (by decide) HTK.out (er := .iface 35 (.int .i64 13)) rfl)
                    clear hme
                    go_wp2_with fail
                    refine (rsend_any wr 1 1).mono ?_
                    rintro e w8 ⟨rfl, rfl⟩
                    go_wp2_with fail
                    refine HCL.out.mono ?_
                    rintro e w8 ⟨vw, rfl, ⟨ρ8, h8, -⟩, -, -⟩
                    have HL8 := Lib.hid (h8.new (alloc_new w8 (.cells #[.int .i64 0, .int .i64 0] 44)))
                    clear h8
                    go_wp2_with fail
                    refine (live_close HL8.out (by omega) 1 (close_shut sz _) (er := .iface 35 (.int .i64 1)) rfl).mono ?_
                    rintro e w9 ⟨vw9, rfl, ⟨ρ9, h9, -⟩, -, -⟩
                    have HB9 := Lib.hid h9.below
                    clear h9
                    go_wp2_with fail
                    refine (tell_errno 13 w9 (HE.out _ HB9.out)).mono ?_
                    rintro e w10 ⟨rfl, hb10⟩
                    have HB10 : Hid (Below w.heap.size w w10) := Lib.hid (HB9.out.trans (hb10.mono HB9.out.size))
                    clear hb10
                    go_wp2_with fail
                    refine (tell_errno 1 w10 (HE.out _ HB10.out)).mono ?_
                    rintro e w11 ⟨rfl, hb11⟩
                    have HB11 : Hid (Below w.heap.size w w11) := Lib.hid (HB10.out.trans (hb11.mono HB10.out.size))
                    clear hb11
                    go_wp2_with fail
                    go_ret
                    exact ⟨rfl, HB11.out⟩
          · have y1 : (0 : Int) < (wt : Int) := by omega
            have y2 : decide ((0 : Int) < (wt : Int)) = true := decide_eq_true y1
            have y3 : decide (0 < wt) = true := decide_eq_true (by omega)
            go_wp2_with fail
            refine (live_close HL2.out (by omega) 1 (close_sh sz (nsV i) 0) (er := .nilIface) rfl).mono ?_
            rintro e w6 ⟨vw, rfl, ⟨ρ6, h6, -⟩, hw6, -⟩
            have HL6 := Lib.hid h6
            obtain ⟨ak, ck, rfl, hk6⟩ := readK_of (k := 0) hw6
            have HK6 := Lib.hid hk6
            clear h6 hw6 hk6
            
            go_wp2_with fail
            go_loopw [21] (fun jv wr => ∃ q : Nat, q ≤ 0 ∧ jv = .int .i64 q ∧ wr = w6) (fun jv _ => 0 - (intOf jv).toNat)
            case atStart => exact ⟨0, Nat.zero_le _, rfl, rfl⟩
            case round =>
              obtain ⟨q, hj, rfl, hww⟩ := hrel
              rename World => wr
              subst hww
              by_cases hjk : q < 0
              · exact absurd hjk (Nat.not_lt_zero _)
              · have hje : q = 0 := by omega
                have hjj : ¬ (q : Int) < ((0 : Nat) : Int) := by omega
                clear hje
                go_wp2_with fail
                go_loopw [22] (fun mv wr => ∃ m : Nat, m ≤ i + 2 ∧ mv = .int .i64 m ∧ ∃ ρ, Live w wr ρ pb (N2 + m) (shS sz ((nsV i).drop m) true 0)) (fun mv _ => i + 2 - (intOf mv).toNat)
                case atStart => exact ⟨0, Nat.zero_le _, rfl, ρ6, HL6.out⟩
                case round =>
                  obtain ⟨m, hm, rfl, ρ7, hl7⟩ := hrel
                  rename World => wr
                  have HL7 := Lib.hid hl7
                  clear hl7
                  by_cases hmn : m < i + 2
                  · have hmi : (m : Int) < (i : Int) + 2 := by omega
                    have HLA := Lib.hid (HL7.out.new (alloc_new wr (.cells #[.int .i64 10, .int .i64 1, .int .i64 0] 85)))
                    have HTA := Lib.hid (talk_one wr ⟨10, 1, 0⟩ 85 (b := wr.heap.size) rfl)
                    have HF : Hid (ρ7 wr.heap.size = .free) := Lib.hid (HL7.out.free (Or.inl (Nat.le_refl _)))
                    by_cases hm1 : m < i
                    · have hm2 : (m : Int) < (i : Int) := by omega
                      have HTK : Hid (Pp.talk (shS sz ((nsV i).drop m) true 0) (200 + (m : Int)) [⟨10, 1, 0⟩] 0 = ⟨shS sz ((nsV i).drop (m + 1)) true 0, 0, (m : Int) + 1, [], false, 0⟩) := Lib.hid (by rw [nsV_drop hm1]; exact talk_take _ (by omega))
                      have HCL := Lib.hid (live_talk HLA.out (by omega) (200 + (m : Int)) (wf_small _ (by omega)) HTA.out (fun g hg => by cases hg; exact HF.out) 0 (by decide) HTK.out (er := .nilIface) rfl)
                      go_wp2_with fail
                      refine (rrecv_any wr 1).mono ?_
                      rintro e w8 ⟨rfl, rfl⟩
                      go_wp2_with fail
                      refine HCL.out.mono ?_
                      rintro e w8 ⟨vw, rfl, ⟨ρ8, h8, -⟩, -, -⟩
                      have HL8 := Lib.hid (h8.new (alloc_new w8 (.cells #[.int .i64 0, .int .i64 ((m : Int) + 1)] 44)))
                      have a1 : (w8.alloc (.cells #[.int .i64 0, .int .i64 ((m : Int) + 1)] 44)).cell? ⟨w8.heap.size, 1, none⟩ = some (.int .i64 ((m : Int) + 1)) := by rw [World.cell?_alloc_at _ _ _ _ rfl]; rfl
                      clear h8
                      go_wp2_with fail
                      go_roundw
                      case rel => exact ⟨m + 1, by omega, by go_num, ρ8, HL8.out⟩
                      case measure => simp [intOf]; omega
                    · have hm2 : ¬ (m : Int) < (i : Int) := by omega
                      have HTK : Hid (Pp.talk (shS sz ((nsV i).drop m) true 0) (200 + (m : Int)) [⟨10, 1, 0⟩] 0 = ⟨shS sz ((nsV i).drop (m + 1)) true 0, 0, 0, [], false, 0⟩) := Lib.hid (by rw [nsV_none i (by omega : i ≤ m), nsV_none i (by omega : i ≤ m + 1)]; exact talk_none0 _ (by omega))
                      have HCL := Lib.hid (live_talk HLA.out (by omega) (200 + (m : Int)) (wf_small _ (by omega)) HTA.out (fun g hg => by cases hg; exact HF.out) 0 (by decide) HTK.out (er := .nilIface) rfl)
                      go_wp2_with fail
                      refine (rrecv_any wr 1).mono ?_
                      rintro e w8 ⟨rfl, rfl⟩
                      go_wp2_with fail
                      refine HCL.out.mono ?_
                      rintro e w8 ⟨vw, rfl, ⟨ρ8, h8, -⟩, -, -⟩
                      have HL8 := Lib.hid (h8.new (alloc_new w8 (.cells #[.int .i64 0, .int .i64 0] 44)))
                      have a1 : (w8.alloc (.cells #[.int .i64 0, .int .i64 0] 44)).cell? ⟨w8.heap.size, 1, none⟩ = some (.int .i64 0) := by rw [World.cell?_alloc_at _ _ _ _ rfl]; rfl
                      clear h8
                      go_wp2_with fail
                      go_roundw
                      case rel => exact ⟨m + 1, by omega, by go_num, ρ8, HL8.out⟩
                      case measure => simp [intOf]; omega
                  · have hme : m = i + 2 := by omega
                    have hmi : ¬ (m : Int) < (i : Int) + 2 := by omega
                    have HLA := Lib.hid (HL7.out.new (alloc_new wr (.cells #[.int .i64 3, .int .i64 1, .int .i64 1] 85)))
                    have HTA := Lib.hid (talk_one wr ⟨3, 1, 1⟩ 85 (b := wr.heap.size) rfl)
                    have HF : Hid (ρ7 wr.heap.size = .free) := Lib.hid (HL7.out.free (Or.inl (Nat.le_refl _)))
                    have HTK : Hid (Pp.talk (shS sz ((nsV i).drop m) true 0) 300 [⟨3, 1, 1⟩] 0 = ⟨shS sz ((nsV i).drop m) true 0, 0, 0, [], false, 13⟩) := Lib.hid (talk_shut _ (by omega) _)
                    have HCL := Lib.hid (live_talk HLA.out (by omega) 300 (by decide) HTA.out (fun g hg => by cases hg; exact HF.out) 0 (by decide) HTK.out (er := .iface 35 (.int .i64 13)) rfl)
                    clear hme
                    go_wp2_with fail
                    refine (rsend_any wr 1 1).mono ?_
                    rintro e w8 ⟨rfl, rfl⟩
                    go_wp2_with fail
                    refine HCL.out.mono ?_
                    rintro e w8 ⟨vw, rfl, ⟨ρ8, h8, -⟩, -, -⟩
                    have HL8 := Lib.hid (h8.new (alloc_new w8 (.cells #[.int .i64 0, .int .i64 0] 44)))
                    clear h8
                    go_wp2_with fail
                    refine (live_close HL8.out (by omega) 1 (close_shut sz _) (er := .iface 35 (.int .i64 1)) rfl).mono ?_
                    rintro e w9 ⟨vw9, rfl, ⟨ρ9, h9, -⟩, -, -⟩
                    have HB9 := Lib.hid h9.below
                    clear h9
                    go_wp2_with fail
                    refine (tell_errno 13 w9 (HE.out _ HB9.out)).mono ?_
                    rintro e w10 ⟨rfl, hb10⟩
                    have HB10 : Hid (Below w.heap.size w w10) := Lib.hid (HB9.out.trans (hb10.mono HB9.out.size))
                    clear hb10
                    go_wp2_with fail
                    refine (tell_errno 1 w10 (HE.out _ HB10.out)).mono ?_
                    rintro e w11 ⟨rfl, hb11⟩
                    have HB11 : Hid (Below w.heap.size w w11) := Lib.hid (HB10.out.trans (hb11.mono HB10.out.size))
                    clear hb11
                    go_wp2_with fail
                    go_ret
                    exact ⟨rfl, HB11.out⟩
end Go.Proofs.YtpehmghnfbkaaaaDoor
