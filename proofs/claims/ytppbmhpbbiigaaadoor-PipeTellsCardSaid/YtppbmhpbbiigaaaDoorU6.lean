/-
  Texts of one proof, in build order: The walk of the law PipeShut: shut for good. | The package's channels and the reference's, side by side. | The laws' 'bare' at nil and at an api.Errno. | What the listed variable errors.errorType gives the walks. | What the listed variable errors.errorType, listed alone, gives the walks. | The law PipeTells: what its walk holds, and the parts of it. | The walk of the law PipeTells.
-/
import Derived.Test.YtppbmhpbbiigaaaDoorU5
import Derived.Deep.Cut
import Derived.IntWalk
import Derived.Test.YtppbmhpbbiigaaaDoorTie
import Derived.LaidMore
import Derived.Lib.LaidTab
import Derived.Deep.QuietTactic
import Derived.BigQuiet
import Derived.Deep.DeepCutAuto
import Derived.Deep.CutRange
import Derived.Deep.CutBlock
import Derived.Deep.RegionHeld3
import Derived.StillTailTactics
namespace Go.Proofs.YtppbmhpbbiigaaaDoor
open Go.RowKit Go.Maps Pp

theorem live_close {w0 w : World} {ρ : Nat → Role} {pb N : Nat} {s : St} (h : Live w0 w ρ pb N s) (hN : N ≤ 100000) (c : Int) {g : Got} (hg : Pp.close s c = g) {er : Value} (he : errV g.err = er) :
    Calls Tryd.prog 12 #[.pointer (some ⟨pb, 0, none⟩), .int .i64 c] w fun e w' => ∃ vw, e = .returned (.tuple #[vw, er]) ∧ (∃ ρ', Live w0 w' ρ' pb N g.st ∧ ∀ b, vw.ownBlock = some b → ρ' b = .free) ∧
      w'.ownsRow w.heap.size 65 3 vw g.wakes.length (cellsK g.wakes) ∧ Keeps (fun b => ρ b ≠ .free) w w' := by
  subst hg
  subst he
  refine (close_any h.pipes hN c).mono ?_
  rintro e w' ⟨vw, rfl, ⟨ρ', h1, h2, h3⟩, h4, h5⟩
  exact ⟨vw, rfl, ⟨ρ', ⟨h1, fun b hb => h.own b (h2 b hb), h.below.trans (h5.below h.below.size fun b _ e => h.own b e)⟩, h3⟩, h4, h5⟩
def nsV (n : Nat) : List Int := (List.range n).map fun (k : Nat) => (k : Int) + 1
theorem nsV_succ (n : Nat) : nsV (n + 1) = nsV n ++ [(n : Int) + 1] := by unfold nsV; rw [List.range_succ, List.map_append]; rfl
theorem nsV_len (n : Nat) : (nsV n).length = n := by simp [nsV]
theorem nsV_drop {n i : Nat} (h : i < n) : (nsV n).drop i = ((i : Int) + 1) :: (nsV n).drop (i + 1) := by
  rw [List.drop_eq_getElem_cons (by rw [nsV_len]; exact h)]
  congr 1
  simp [nsV]
theorem nsV_none (n : Nat) {i : Nat} (h : n ≤ i) : (nsV n).drop i = [] := List.drop_eq_nil_of_le (by rw [nsV_len]; exact h)
/-- The wakes of tasks 0 to k - 1. -/
def wksV (k : Nat) : List Wk := (List.range k).map fun (i : Nat) => ⟨(i : Int), 0, 0⟩
theorem wksV_len (k : Nat) : (wksV k).length = k := by simp [wksV]
theorem cellsK_get : ∀ (l : List Wk) (i : Nat) (x : Wk), l[i]? = some x → (cellsK l)[i * 3]? = some (.int .i64 x.task) ∧ (cellsK l)[i * 3 + 1]? = some (.int .i64 (x.case : Int)) ∧ (cellsK l)[i * 3 + 2]? = some (.int .i64 x.n) := by
  intro l
  induction l with
  | nil => intro i x h; cases h
  | cons p r ih =>
    intro i x h
    have e : cellsK (p :: r) = .int .i64 p.task :: .int .i64 (p.case : Int) :: .int .i64 p.n :: cellsK r := rfl
    cases i with
    | zero => cases h; exact ⟨rfl, rfl, rfl⟩
    | succ i =>
      have := ih i x (by simpa using h)
      rw [e]
      refine ⟨?_, ?_, ?_⟩
      · rw [show (i + 1) * 3 = i * 3 + 1 + 1 + 1 by omega]; simpa using this.1
      · rw [show (i + 1) * 3 + 1 = i * 3 + 1 + 1 + 1 + 1 by omega]; simpa using this.2.1
      · rw [show (i + 1) * 3 + 2 = i * 3 + 2 + 1 + 1 + 1 by omega]; simpa using this.2.2
/-- Those that go on, to be read. -/
def ReadK (w : World) (v : Value) (k : Nat) : Prop :=
  ∃ ao cap, v = .slice ao k cap ∧ (0 < k → ∃ g, ao = some ⟨g, 0, none⟩ ∧ g < w.heap.size ∧ ∀ (i : Nat), i < k → w.cell? ⟨g, i * 3, none⟩ = some (.int .i64 (i : Nat)) ∧ w.cell? ⟨g, i * 3 + 1, none⟩ = some (.int .i64 0) ∧ w.cell? ⟨g, i * 3 + 2, none⟩ = some (.int .i64 0))
theorem readK_of {w : World} {B k : Nat} {v : Value} (h : w.ownsRow B 65 3 v (wksV k).length (cellsK (wksV k))) : ReadK w v k := by
  have hc := h
  rw [wksV_len] at h
  rcases h.2 with ⟨rfl, h0⟩ | ⟨g, cap, cur, rfl, hb, hg, h3, h4, h5, h6⟩
  · exact ⟨none, 0, by rw [h0], fun h => by omega⟩
  · refine ⟨_, _, rfl, fun _ => ⟨g, rfl, (Array.getElem?_eq_some_iff.1 hg).1, fun i hi => ?_⟩⟩
    obtain ⟨e1, e2, e3⟩ := cellsK_get (wksV k) i ⟨(i : Int), 0, 0⟩ (by unfold wksV; rw [List.getElem?_map, List.getElem?_range hi]; rfl)
    have f1 := World.ownsRow.cells hc (g := g) rfl _ _ e1
    have f2 := World.ownsRow.cells hc (g := g) rfl _ _ e2
    have f3 := World.ownsRow.cells hc (g := g) rfl _ _ e3
    rw [addr_addP, Nat.zero_add] at f1 f2 f3
    exact ⟨f1, f2, f3⟩

set_option maxRecDepth 100000 in
set_option maxHeartbeats 12800000 in
theorem pipeShut_any (size n0 waiters : Int) (w : World) (_ : -9223372036854775808 ≤ size) (_ : size ≤ 9223372036854775807) (_ : -9223372036854775808 ≤ n0) (_ : n0 ≤ 9223372036854775807) (_ : -9223372036854775808 ≤ waiters) (_ : waiters ≤ 9223372036854775807) (hE : ErrT w) :
    Calls Tryd.prog 4 #[.int .i64 size, .int .i64 n0, .int .i64 waiters] w fun e w' => e = .returned (.bool true) ∧ Below w.heap.size w w' := by
  have hlt : 0 < w.heap.size := block_lt_of_cell hE
  have HE : Hid (∀ W, Below w.heap.size w W → ErrT W) := Lib.hid fun W hb => hE.below hb hlt
  clear hE hlt
  go_enter Tryd.func4, Tryd.ntmps4
  go_wp2_with fail
  refine (piped_any w).mono ?_
  rintro e w1 ⟨rfl, hb1⟩
  have HB1 := Lib.hid hb1
  clear hb1
  go_wp2_with fail
  refine (pick_any size 9 _ (by decide) (by decide)).mono ?_
  rintro e w2 ⟨sz, hsz, rfl, rfl⟩
  go_wp2_with fail
  refine (pick_any waiters 20 _ (by decide) (by decide)).mono ?_
  rintro e w2 ⟨wt, hwt, rfl, rfl⟩
  have hpk := pick_any n0 (sz + 1) w1 (by omega) (by omega)
  rw [show (((sz + 1 : Nat)) : Int) = (sz : Int) + 1 from by omega] at hpk
  go_wp2_with fail
  refine hpk.mono ?_
  rintro e w2 ⟨n, hn, rfl, rfl⟩
  obtain ⟨ρ0, hl0⟩ := live_zero HB1.out 31
  have HL0 := Lib.hid hl0
  clear hl0 hpk
  go_wp2_with fail
  refine (live_make HL0.out sz (by omega) (by decide)).mono ?_
  rintro e w3 ⟨rfl, ⟨ρ3, h3, -⟩, -⟩
  rw [show ((Pp.zero.chs.length : Int) + 1) = 1 from rfl]
  have h3' : Live w w3 ρ3 w1.heap.size 0 (shS sz [] false 0) := by rw [← shS_new]; exact h3
  have H3 := Lib.hid h3'
  clear h3 h3' HL0
  generalize w1.heap.size = pb at *
  go_wp2_with fail
  go_loopw [10] (fun iv wr => ∃ i : Nat, i ≤ n ∧ iv = .int .i64 i ∧ ∃ ρ, Live w wr ρ pb i (shS sz (nsV i) false 0)) (fun iv _ => n - (intOf iv).toNat)
  case atStart => exact ⟨0, Nat.zero_le _, rfl, ρ3, H3.out⟩
  case round =>
    obtain ⟨i, hi, rfl, ρ, hl⟩ := hrel
    rename World => wr
    have HL := Lib.hid hl
    clear hl H3
    by_cases hin : i < n
    · have HLA := Lib.hid (HL.out.new (alloc_new wr (.cells #[.int .i64 3, .int .i64 1, .int .i64 ((i : Int) + 1)] 85)))
      have HTA := Lib.hid (talk_one wr ⟨3, 1, (i : Int) + 1⟩ 85 (b := wr.heap.size) rfl)
      have HF : Hid (ρ wr.heap.size = .free) := Lib.hid (HL.out.free (Or.inl (Nat.le_refl _)))
      have HTK : Hid (Pp.talk (shS sz (nsV i) false 0) (100 + (i : Int)) [⟨3, 1, (i : Int) + 1⟩] 0 = ⟨shS sz (nsV (i + 1)) false 0, 0, 0, [], false, 0⟩) := Lib.hid (by
        rw [nsV_succ]; exact talk_send (by rw [nsV_len]; omega) _ (by omega) _)
      have HCL := Lib.hid (live_talk HLA.out (by omega) (100 + (i : Int)) (wf_small _ (by omega)) HTA.out (fun g hg => by cases hg; exact HF.out) 0 (by decide) HTK.out (er := .nilIface) rfl)
      go_wp2_with fail
      refine (rsend_any wr 1 _).mono ?_
      rintro e w5 ⟨rfl, rfl⟩
      go_wp2_with fail
      refine HCL.out.mono ?_
      rintro e w5 ⟨vw, rfl, ⟨ρ5, h5, -⟩, -, -⟩
      have HL5 := Lib.hid (h5.new (alloc_new w5 (.cells #[.int .i64 0, .int .i64 0] 44)))
      clear h5
      go_wp2_with fail
      go_roundw
      case rel => exact ⟨i + 1, by omega, by go_num, ρ5, HL5.out⟩
      case measure => simp [intOf]; omega
    · obtain rfl : i = n := by omega
      have hnn : ¬ (i : Int) < (i : Int) := by omega
      go_wp2_with fail
      rcases Nat.eq_zero_or_pos i with h0 | h0
      · have z1 : ((i : Int) == 0) = true := by rw [beq_iff_eq]; omega
        have z2 : decide ((i : Int) = 0) = true := decide_eq_true (by omega)
        have z3 : (i == 0) = true := by rw [beq_iff_eq]; omega
        have z4 : decide (i = 0) = true := decide_eq_true (by omega)
        have HL0 : Hid (Live w wr ρ pb 0 (shS sz [] false 0)) := Lib.hid (by subst h0; exact HL.out)
        have HI0 := Lib.hid h0
        clear h0 HL
        go_loopw [15] (fun jv wr => ∃ j : Nat, j ≤ wt ∧ jv = .int .i64 j ∧ ∃ ρ, Live w wr ρ pb j (shS sz [] false j)) (fun jv _ => wt - (intOf jv).toNat)
        case atStart => exact ⟨0, Nat.zero_le _, rfl, ρ, HL0.out⟩
        case round =>
          obtain ⟨j, hj, rfl, ρ1, hl1⟩ := hrel
          rename World => wq
          have HL1 := Lib.hid hl1
          clear hl1 HL0
          by_cases hjw : j < wt
          · have HLA := Lib.hid (HL1.out.new (alloc_new wq (.cells #[.int .i64 10, .int .i64 1, .int .i64 0] 85)))
            have HTA := Lib.hid (talk_one wq ⟨10, 1, 0⟩ 85 (b := wq.heap.size) rfl)
            have HF : Hid (ρ1 wq.heap.size = .free) := Lib.hid (HL1.out.free (Or.inl (Nat.le_refl _)))
            have HTK := Lib.hid (talk_wait sz j)
            have HCL := Lib.hid (live_talk HLA.out (by omega) (j : Int) (wf_small _ (by omega)) HTA.out (fun g hg => by cases hg; exact HF.out) 0 (by decide) HTK.out (er := .nilIface) rfl)
            have hjwi : (j : Int) < (wt : Int) := by omega
            go_wp2_with fail
            refine (rrecv_any wq 1).mono ?_
            rintro e w5 ⟨rfl, rfl⟩
            go_wp2_with fail
            refine HCL.out.mono ?_
            rintro e w5 ⟨vw, rfl, ⟨ρ5, h5, -⟩, -, -⟩
            have HL5 := Lib.hid (h5.new (alloc_new w5 (.cells #[.int .i64 0, .int .i64 0] 44)))
            clear h5
            go_wp2_with fail
            go_roundw
            case rel => exact ⟨j + 1, by omega, by go_num, ρ5, HL5.out⟩
            case measure => simp [intOf]; omega
          · have hje : j = wt := by omega
            have hjw : ¬ (j : Int) < (wt : Int) := by omega
            subst hje
            obtain ⟨N2, hN2⟩ : ∃ N2 : Nat, N2 = j := ⟨_, rfl⟩
            have hN2l : N2 ≤ 100 := by omega
            have HL2 : Hid (Live w wq ρ1 pb N2 (shS sz (nsV i) false j)) := Lib.hid (by rw [hN2, HI0.out]; exact HL1.out)
            clear hN2
            have hww : (j : Int) = (j : Int) := rfl
            go_wp2_with fail
            refine (live_close HL2.out (by omega) 1 (close_sh sz (nsV i) j) (er := .nilIface) rfl).mono ?_
            rintro e w6 ⟨vw, rfl, ⟨ρ6, h6, -⟩, hw6, -⟩
            have HL6 := Lib.hid h6
            obtain ⟨ak, ck, rfl, hk6⟩ := readK_of (k := j) hw6
            have HK6 := Lib.hid hk6
            clear h6 hw6 hk6
            
            go_wp2_with fail
            go_loopw [21] (fun jv wr => ∃ q : Nat, q ≤ j ∧ jv = .int .i64 q ∧ wr = w6) (fun jv _ => j - (intOf jv).toNat)
            case atStart => exact ⟨0, Nat.zero_le _, rfl, rfl⟩
            case round =>
              obtain ⟨q, hj, rfl, hww⟩ := hrel
              rename World => wr
              subst hww
              by_cases hjk : q < j
              · obtain ⟨g, rfl, hgl, hg⟩ := HK6.out (by omega)
                obtain ⟨y0, y1, y2⟩ := hg q hjk
                have hji : (0 : Int) ≤ (q : Int) ∧ (q : Int) < ((j : Nat) : Int) := by omega
                clear hg
                go_wp2_with fail
                go_roundw
                case rel => exact ⟨q + 1, by omega, by go_num, by first | rfl | trivial⟩
                case measure => simp [intOf]; omega
              · have hje : q = j := by omega
                have hjj : ¬ (q : Int) < ((j : Nat) : Int) := by omega
                clear hje
                go_wp2_with fail
                go_loopw [22] (fun mv wr => ∃ m : Nat, m ≤ i + 2 ∧ mv = .int .i64 m ∧ ∃ ρ, Live w wr ρ pb (N2 + m) (shS sz ((nsV i).drop m) true 0)) (fun mv _ => i + 2 - (intOf mv).toNat)
                case atStart => exact ⟨0, Nat.zero_le _, rfl, ρ6, HL6.out⟩
                case round =>
                  obtain ⟨m, hm, rfl, ρ7, hl7⟩ := hrel
                  rename World => wr
                  have HL7 := Lib.hid hl7
                  clear hl7
                  by_cases hmn : m < i + 2
                  · have hmi : (m : Int) < (i : Int) + 2 := by omega
                    have HLA := Lib.hid (HL7.out.new (alloc_new wr (.cells #[.int .i64 10, .int .i64 1, .int .i64 0] 85)))
                    have HTA := Lib.hid (talk_one wr ⟨10, 1, 0⟩ 85 (b := wr.heap.size) rfl)
                    have HF : Hid (ρ7 wr.heap.size = .free) := Lib.hid (HL7.out.free (Or.inl (Nat.le_refl _)))
                    by_cases hm1 : m < i
                    · have hm2 : (m : Int) < (i : Int) := by omega
                      have HTK : Hid (Pp.talk (shS sz ((nsV i).drop m) true 0) (200 + (m : Int)) [⟨10, 1, 0⟩] 0 = ⟨shS sz ((nsV i).drop (m + 1)) true 0, 0, (m : Int) + 1, [], false, 0⟩) := Lib.hid (by rw [nsV_drop hm1]; exact talk_take _ (by omega))
                      have HCL := Lib.hid (live_talk HLA.out (by omega) (200 + (m : Int)) (wf_small _ (by omega)) HTA.out (fun g hg => by cases hg; exact HF.out) 0 (by decide) HTK.out (er := .nilIface) rfl)
                      go_wp2_with fail
                      refine (rrecv_any wr 1).mono ?_
                      rintro e w8 ⟨rfl, rfl⟩
                      go_wp2_with fail
                      refine HCL.out.mono ?_
                      rintro e w8 ⟨vw, rfl, ⟨ρ8, h8, -⟩, -, -⟩
                      have HL8 := Lib.hid (h8.new (alloc_new w8 (.cells #[.int .i64 0, .int .i64 ((m : Int) + 1)] 44)))
                      have a1 : (w8.alloc (.cells #[.int .i64 0, .int .i64 ((m : Int) + 1)] 44)).cell? ⟨w8.heap.size, 1, none⟩ = some (.int .i64 ((m : Int) + 1)) := by rw [World.cell?_alloc_at _ _ _ _ rfl]; rfl
                      clear h8
                      go_wp2_with fail
                      go_roundw
                      case rel => exact ⟨m + 1, by omega, by go_num, ρ8, HL8.out⟩
                      case measure => simp [intOf]; omega
                    · have hm2 : ¬ (m : Int) < (i : Int) := by omega
                      have HTK : Hid (Pp.talk (shS sz ((nsV i).drop m) true 0) (200 + (m : Int)) [⟨10, 1, 0⟩] 0 = ⟨shS sz ((nsV i).drop (m + 1)) true 0, 0, 0, [], false, 0⟩) := Lib.hid (by rw [nsV_none i (by omega : i ≤ m), nsV_none i (by omega : i ≤ m + 1)]; exact talk_none0 _ (by omega))
                      have HCL := Lib.hid (live_talk HLA.out (by omega) (200 + (m : Int)) (wf_small _ (by omega)) HTA.out (fun g hg => by cases hg; exact HF.out) 0 (by decide) HTK.out (er := .nilIface) rfl)
                      go_wp2_with fail
                      refine (rrecv_any wr 1).mono ?_
                      rintro e w8 ⟨rfl, rfl⟩
                      go_wp2_with fail
                      refine HCL.out.mono ?_
                      rintro e w8 ⟨vw, rfl, ⟨ρ8, h8, -⟩, -, -⟩
                      have HL8 := Lib.hid (h8.new (alloc_new w8 (.cells #[.int .i64 0, .int .i64 0] 44)))
                      have a1 : (w8.alloc (.cells #[.int .i64 0, .int .i64 0] 44)).cell? ⟨w8.heap.size, 1, none⟩ = some (.int .i64 0) := by rw [World.cell?_alloc_at _ _ _ _ rfl]; rfl
                      clear h8
                      go_wp2_with fail
                      go_roundw
                      case rel => exact ⟨m + 1, by omega, by go_num, ρ8, HL8.out⟩
                      case measure => simp [intOf]; omega
                  · have hme : m = i + 2 := by omega
                    have hmi : ¬ (m : Int) < (i : Int) + 2 := by omega
                    have HLA := Lib.hid (HL7.out.new (alloc_new wr (.cells #[.int .i64 3, .int .i64 1, .int .i64 1] 85)))
                    have HTA := Lib.hid (talk_one wr ⟨3, 1, 1⟩ 85 (b := wr.heap.size) rfl)
                    have HF : Hid (ρ7 wr.heap.size = .free) := Lib.hid (HL7.out.free (Or.inl (Nat.le_refl _)))
                    have HTK : Hid (Pp.talk (shS sz ((nsV i).drop m) true 0) 300 [⟨3, 1, 1⟩] 0 = ⟨shS sz ((nsV i).drop m) true 0, 0, 0, [], false, 13⟩) := Lib.hid (talk_shut _ (by omega) _)
                    have HCL := Lib.hid (live_talk HLA.out (by omega) 300 (by decide) HTA.out (fun g hg => by cases hg; exact HF.out) 0 (by decide) HTK.out (er := .iface 35 (.int .i64 13)) rfl)
                    clear hme
                    go_wp2_with fail
                    refine (rsend_any wr 1 1).mono ?_
                    rintro e w8 ⟨rfl, rfl⟩
                    go_wp2_with fail
                    refine HCL.out.mono ?_
                    rintro e w8 ⟨vw, rfl, ⟨ρ8, h8, -⟩, -, -⟩
                    have HL8 := Lib.hid (h8.new (alloc_new w8 (.cells #[.int .i64 0, .int .i64 0] 44)))
                    clear h8
                    go_wp2_with fail
                    refine (live_close HL8.out (by omega) 1 (close_shut sz _) (er := .iface 35 (.int .i64 1)) rfl).mono ?_
                    rintro e w9 ⟨vw9, rfl, ⟨ρ9, h9, -⟩, -, -⟩
                    have HB9 := Lib.hid h9.below
                    clear h9
                    go_wp2_with fail
                    refine (tell_errno 13 w9 (HE.out _ HB9.out)).mono ?_
                    rintro e w10 ⟨rfl, hb10⟩
                    have HB10 : Hid (Below w.heap.size w w10) := Lib.hid (HB9.out.trans (hb10.mono HB9.out.size))
                    clear hb10
                    go_wp2_with fail
                    refine (tell_errno 1 w10 (HE.out _ HB10.out)).mono ?_
                    rintro e w11 ⟨rfl, hb11⟩
                    have HB11 : Hid (Below w.heap.size w w11) := Lib.hid (HB10.out.trans (hb11.mono HB10.out.size))
                    clear hb11
                    go_wp2_with fail
                    go_ret
                    exact ⟨rfl, HB11.out⟩
      · have z1 : ((i : Int) == 0) = false := by rw [beq_eq_false_iff_ne]; omega
        have z2 : decide ((i : Int) = 0) = false := decide_eq_false (by omega)
        have z3 : (i == 0) = false := by rw [beq_eq_false_iff_ne]; omega
        have z4 : decide (i = 0) = false := decide_eq_false (by omega)
        have HI0 := Lib.hid h0
        clear h0
        go_loopw [15] (fun jv wr => jv = .int .i64 0 ∧ ∃ ρ, Live w wr ρ pb i (shS sz (nsV i) false 0)) (fun _ _ => 0)
        case atStart => exact ⟨rfl, ρ, HL.out⟩
        case round =>
          obtain ⟨rfl, ρ1, hl1⟩ := hrel
          rename World => wq
          obtain ⟨N2, hN2⟩ : ∃ N2 : Nat, N2 = i := ⟨_, rfl⟩
          have hN2l : N2 ≤ 100 := by omega
          have HL2 : Hid (Live w wq ρ1 pb N2 (shS sz (nsV i) false 0)) := Lib.hid (by rw [hN2]; exact hl1)
          clear hl1 HL hN2
          rcases Nat.eq_zero_or_pos wt with h9 | h9
          · have y1 : ¬ (0 : Int) < (wt : Int) := by omega
            have y2 : decide ((0 : Int) < (wt : Int)) = false := decide_eq_false y1
            have y3 : decide (0 < wt) = false := decide_eq_false (by omega)
            clear h9
            go_wp2_with fail
            refine (live_close HL2.out (by omega) 1 (close_sh sz (nsV i) 0) (er := .nilIface) rfl).mono ?_
            rintro e w6 ⟨vw, rfl, ⟨ρ6, h6, -⟩, hw6, -⟩
            have HL6 := Lib.hid h6
            obtain ⟨ak, ck, rfl, hk6⟩ := readK_of (k := 0) hw6
            have HK6 := Lib.hid hk6
            clear h6 hw6 hk6
            
            go_wp2_with fail
            go_loopw [21] (fun jv wr => ∃ q : Nat, q ≤ 0 ∧ jv = .int .i64 q ∧ wr = w6) (fun jv _ => 0 - (intOf jv).toNat)
            case atStart => exact ⟨0, Nat.zero_le _, rfl, rfl⟩
            case round =>
              obtain ⟨q, hj, rfl, hww⟩ := hrel
              rename World => wr
              subst hww
              by_cases hjk : q < 0
              · exact absurd hjk (Nat.not_lt_zero _)
              · have hje : q = 0 := by omega
                have hjj : ¬ (q : Int) < ((0 : Nat) : Int) := by omega
                clear hje
                go_wp2_with fail
                go_loopw [22] (fun mv wr => ∃ m : Nat, m ≤ i + 2 ∧ mv = .int .i64 m ∧ ∃ ρ, Live w wr ρ pb (N2 + m) (shS sz ((nsV i).drop m) true 0)) (fun mv _ => i + 2 - (intOf mv).toNat)
                case atStart => exact ⟨0, Nat.zero_le _, rfl, ρ6, HL6.out⟩
                case round =>
                  obtain ⟨m, hm, rfl, ρ7, hl7⟩ := hrel
                  rename World => wr
                  have HL7 := Lib.hid hl7
                  clear hl7
                  by_cases hmn : m < i + 2
                  · have hmi : (m : Int) < (i : Int) + 2 := by omega
                    have HLA := Lib.hid (HL7.out.new (alloc_new wr (.cells #[.int .i64 10, .int .i64 1, .int .i64 0] 85)))
                    have HTA := Lib.hid (talk_one wr ⟨10, 1, 0⟩ 85 (b := wr.heap.size) rfl)
                    have HF : Hid (ρ7 wr.heap.size = .free) := Lib.hid (HL7.out.free (Or.inl (Nat.le_refl _)))
                    by_cases hm1 : m < i
                    · have hm2 : (m : Int) < (i : Int) := by omega
                      have HTK : Hid (Pp.talk (shS sz ((nsV i).drop m) true 0) (200 + (m : Int)) [⟨10, 1, 0⟩] 0 = ⟨shS sz ((nsV i).drop (m + 1)) true 0, 0, (m : Int) + 1, [], false, 0⟩) := Lib.hid (by rw [nsV_drop hm1]; exact talk_take _ (by omega))
                      have HCL := Lib.hid (live_talk HLA.out (by omega) (200 + (m : Int)) (wf_small _ (by omega)) HTA.out (fun g hg => by cases hg; exact HF.out) 0 (by decide) HTK.out (er := .nilIface) rfl)
                      go_wp2_with fail
                      refine (rrecv_any wr 1).mono ?_
                      rintro e w8 ⟨rfl, rfl⟩
                      go_wp2_with fail
                      refine HCL.out.mono ?_
                      rintro e w8 ⟨vw, rfl, ⟨ρ8, h8, -⟩, -, -⟩
                      have HL8 := Lib.hid (h8.new (alloc_new w8 (.cells #[.int .i64 0, .int .i64 ((m : Int) + 1)] 44)))
                      have a1 : (w8.alloc (.cells #[.int .i64 0, .int .i64 ((m : Int) + 1)] 44)).cell? ⟨w8.heap.size, 1, none⟩ = some (.int .i64 ((m : Int) + 1)) := by rw [World.cell?_alloc_at _ _ _ _ rfl]; rfl
                      clear h8
                      go_wp2_with fail
                      go_roundw
                      case rel => exact ⟨m + 1, by omega, by go_num, ρ8, HL8.out⟩
                      case measure => simp [intOf]; omega
                    · have hm2 : ¬ (m : Int) < (i : Int) := by omega
                      have HTK : Hid (Pp.talk (shS sz ((nsV i).drop m) true 0) (200 + (m : Int)) [⟨10, 1, 0⟩] 0 = ⟨shS sz ((nsV i).drop (m + 1)) true 0, 0, 0, [], false, 0⟩) := Lib.hid (by rw [nsV_none i (by omega : i ≤ m), nsV_none i (by omega : i ≤ m + 1)]; exact talk_none0 _ (by omega))
                      have HCL := Lib.hid (live_talk HLA.out (by omega) (200 + (m : Int)) (wf_small _ (by omega)) HTA.out (fun g hg => by cases hg; exact HF.out) 0 (by decide) HTK.out (er := .nilIface) rfl)
                      go_wp2_with fail
                      refine (rrecv_any wr 1).mono ?_
                      rintro e w8 ⟨rfl, rfl⟩
                      go_wp2_with fail
                      refine HCL.out.mono ?_
                      rintro e w8 ⟨vw, rfl, ⟨ρ8, h8, -⟩, -, -⟩
                      have HL8 := Lib.hid (h8.new (alloc_new w8 (.cells #[.int .i64 0, .int .i64 0] 44)))
                      have a1 : (w8.alloc (.cells #[.int .i64 0, .int .i64 0] 44)).cell? ⟨w8.heap.size, 1, none⟩ = some (.int .i64 0) := by rw [World.cell?_alloc_at _ _ _ _ rfl]; rfl
                      clear h8
                      go_wp2_with fail
                      go_roundw
                      case rel => exact ⟨m + 1, by omega, by go_num, ρ8, HL8.out⟩
                      case measure => simp [intOf]; omega
                  · have hme : m = i + 2 := by omega
                    have hmi : ¬ (m : Int) < (i : Int) + 2 := by omega
                    have HLA := Lib.hid (HL7.out.new (alloc_new wr (.cells #[.int .i64 3, .int .i64 1, .int .i64 1] 85)))
                    have HTA := Lib.hid (talk_one wr ⟨3, 1, 1⟩ 85 (b := wr.heap.size) rfl)
                    have HF : Hid (ρ7 wr.heap.size = .free) := Lib.hid (HL7.out.free (Or.inl (Nat.le_refl _)))
                    have HTK : Hid (Pp.talk (shS sz ((nsV i).drop m) true 0) 300 [⟨3, 1, 1⟩] 0 = ⟨shS sz ((nsV i).drop m) true 0, 0, 0, [], false, 13⟩) := Lib.hid (talk_shut _ (by omega) _)
                    have HCL := Lib.hid (live_talk HLA.out (by omega) 300 (by decide) HTA.out (fun g hg => by cases hg; exact HF.out) 0 (by decide) HTK.out (er := .iface 35 (.int .i64 13)) rfl)
                    clear hme
                    go_wp2_with fail
                    refine (rsend_any wr 1 1).mono ?_
                    rintro e w8 ⟨rfl, rfl⟩
                    go_wp2_with fail
                    refine HCL.out.mono ?_
                    rintro e w8 ⟨vw, rfl, ⟨ρ8, h8, -⟩, -, -⟩
                    have HL8 := Lib.hid (h8.new (alloc_new w8 (.cells #[.int .i64 0, .int .i64 0] 44)))
                    clear h8
                    go_wp2_with fail
                    refine (live_close HL8.out (by omega) 1 (close_shut sz _) (er := .iface 35 (.int .i64 1)) rfl).mono ?_
                    rintro e w9 ⟨vw9, rfl, ⟨ρ9, h9, -⟩, -, -⟩
                    have HB9 := Lib.hid h9.below
                    clear h9
                    go_wp2_with fail
                    refine (tell_errno 13 w9 (HE.out _ HB9.out)).mono ?_
                    rintro e w10 ⟨rfl, hb10⟩
                    have HB10 : Hid (Below w.heap.size w w10) := Lib.hid (HB9.out.trans (hb10.mono HB9.out.size))
                    clear hb10
                    go_wp2_with fail
                    refine (tell_errno 1 w10 (HE.out _ HB10.out)).mono ?_
                    rintro e w11 ⟨rfl, hb11⟩
                    have HB11 : Hid (Below w.heap.size w w11) := Lib.hid (HB10.out.trans (hb11.mono HB10.out.size))
                    clear hb11
                    go_wp2_with fail
                    go_ret
                    exact ⟨rfl, HB11.out⟩
          · have y1 : (0 : Int) < (wt : Int) := by omega
            have y2 : decide ((0 : Int) < (wt : Int)) = true := decide_eq_true y1
            have y3 : decide (0 < wt) = true := decide_eq_true (by omega)
            go_wp2_with fail
            refine (live_close HL2.out (by omega) 1 (close_sh sz (nsV i) 0) (er := .nilIface) rfl).mono ?_
            rintro e w6 ⟨vw, rfl, ⟨ρ6, h6, -⟩, hw6, -⟩
            have HL6 := Lib.hid h6
            obtain ⟨ak, ck, rfl, hk6⟩ := readK_of (k := 0) hw6
            have HK6 := Lib.hid hk6
            clear h6 hw6 hk6
            
            go_wp2_with fail
            go_loopw [21] (fun jv wr => ∃ q : Nat, q ≤ 0 ∧ jv = .int .i64 q ∧ wr = w6) (fun jv _ => 0 - (intOf jv).toNat)
            case atStart => exact ⟨0, Nat.zero_le _, rfl, rfl⟩
            case round =>
              obtain ⟨q, hj, rfl, hww⟩ := hrel
              rename World => wr
              subst hww
              by_cases hjk : q < 0
              · exact absurd hjk (Nat.not_lt_zero _)
              · have hje : q = 0 := by omega
                have hjj : ¬ (q : Int) < ((0 : Nat) : Int) := by omega
                clear hje
                go_wp2_with fail
                go_loopw [22] (fun mv wr => ∃ m : Nat, m ≤ i + 2 ∧ mv = .int .i64 m ∧ ∃ ρ, Live w wr ρ pb (N2 + m) (shS sz ((nsV i).drop m) true 0)) (fun mv _ => i + 2 - (intOf mv).toNat)
                case atStart => exact ⟨0, Nat.zero_le _, rfl, ρ6, HL6.out⟩
                case round =>
                  obtain ⟨m, hm, rfl, ρ7, hl7⟩ := hrel
                  rename World => wr
                  have HL7 := Lib.hid hl7
                  clear hl7
                  by_cases hmn : m < i + 2
                  · have hmi : (m : Int) < (i : Int) + 2 := by omega
                    have HLA := Lib.hid (HL7.out.new (alloc_new wr (.cells #[.int .i64 10, .int .i64 1, .int .i64 0] 85)))
                    have HTA := Lib.hid (talk_one wr ⟨10, 1, 0⟩ 85 (b := wr.heap.size) rfl)
                    have HF : Hid (ρ7 wr.heap.size = .free) := Lib.hid (HL7.out.free (Or.inl (Nat.le_refl _)))
                    by_cases hm1 : m < i
                    · have hm2 : (m : Int) < (i : Int) := by omega
                      have HTK : Hid (Pp.talk (shS sz ((nsV i).drop m) true 0) (200 + (m : Int)) [⟨10, 1, 0⟩] 0 = ⟨shS sz ((nsV i).drop (m + 1)) true 0, 0, (m : Int) + 1, [], false, 0⟩) := Lib.hid (by rw [nsV_drop hm1]; exact talk_take _ (by omega))
                      have HCL := Lib.hid (live_talk HLA.out (by omega) (200 + (m : Int)) (wf_small _ (by omega)) HTA.out (fun g hg => by cases hg; exact HF.out) 0 (by decide) HTK.out (er := .nilIface) rfl)
                      go_wp2_with fail
                      refine (rrecv_any wr 1).mono ?_
                      rintro e w8 ⟨rfl, rfl⟩
                      go_wp2_with fail
                      refine HCL.out.mono ?_
                      rintro e w8 ⟨vw, rfl, ⟨ρ8, h8, -⟩, -, -⟩
                      have HL8 := Lib.hid (h8.new (alloc_new w8 (.cells #[.int .i64 0, .int .i64 ((m : Int) + 1)] 44)))
                      have a1 : (w8.alloc (.cells #[.int .i64 0, .int .i64 ((m : Int) + 1)] 44)).cell? ⟨w8.heap.size, 1, none⟩ = some (.int .i64 ((m : Int) + 1)) := by rw [World.cell?_alloc_at _ _ _ _ rfl]; rfl
                      clear h8
                      go_wp2_with fail
                      go_roundw
                      case rel => exact ⟨m + 1, by omega, by go_num, ρ8, HL8.out⟩
                      case measure => simp [intOf]; omega
                    · have hm2 : ¬ (m : Int) < (i : Int) := by omega
                      have HTK : Hid (Pp.talk (shS sz ((nsV i).drop m) true 0) (200 + (m : Int)) [⟨10, 1, 0⟩] 0 = ⟨shS sz ((nsV i).drop (m + 1)) true 0, 0, 0, [], false, 0⟩) := Lib.hid (by rw [nsV_none i (by omega : i ≤ m), nsV_none i (by omega : i ≤ m + 1)]; exact talk_none0 _ (by omega))
                      have HCL := Lib.hid (live_talk HLA.out (by omega) (200 + (m : Int)) (wf_small _ (by omega)) HTA.out (fun g hg => by cases hg; exact HF.out) 0 (by decide) HTK.out (er := .nilIface) rfl)
                      go_wp2_with fail
                      refine (rrecv_any wr 1).mono ?_
                      rintro e w8 ⟨rfl, rfl⟩
                      go_wp2_with fail
                      refine HCL.out.mono ?_
                      rintro e w8 ⟨vw, rfl, ⟨ρ8, h8, -⟩, -, -⟩
                      have HL8 := Lib.hid (h8.new (alloc_new w8 (.cells #[.int .i64 0, .int .i64 0] 44)))
                      have a1 : (w8.alloc (.cells #[.int .i64 0, .int .i64 0] 44)).cell? ⟨w8.heap.size, 1, none⟩ = some (.int .i64 0) := by rw [World.cell?_alloc_at _ _ _ _ rfl]; rfl
                      clear h8
                      go_wp2_with fail
                      go_roundw
                      case rel => exact ⟨m + 1, by omega, by go_num, ρ8, HL8.out⟩
                      case measure => simp [intOf]; omega
                  · have hme : m = i + 2 := by omega
                    have hmi : ¬ (m : Int) < (i : Int) + 2 := by omega
                    have HLA := Lib.hid (HL7.out.new (alloc_new wr (.cells #[.int .i64 3, .int .i64 1, .int .i64 1] 85)))
                    have HTA := Lib.hid (talk_one wr ⟨3, 1, 1⟩ 85 (b := wr.heap.size) rfl)
                    have HF : Hid (ρ7 wr.heap.size = .free) := Lib.hid (HL7.out.free (Or.inl (Nat.le_refl _)))
                    have HTK : Hid (Pp.talk (shS sz ((nsV i).drop m) true 0) 300 [⟨3, 1, 1⟩] 0 = ⟨shS sz ((nsV i).drop m) true 0, 0, 0, [], false, 13⟩) := Lib.hid (talk_shut _ (by omega) _)
                    have HCL := Lib.hid (live_talk HLA.out (by omega) 300 (by decide) HTA.out (fun g hg => by cases hg; exact HF.out) 0 (by decide) HTK.out (er := .iface 35 (.int .i64 13)) rfl)
                    clear hme
                    go_wp2_with fail
                    refine (rsend_any wr 1 1).mono ?_
                    rintro e w8 ⟨rfl, rfl⟩
                    go_wp2_with fail
                    refine HCL.out.mono ?_
                    rintro e w8 ⟨vw, rfl, ⟨ρ8, h8, -⟩, -, -⟩
                    have HL8 := Lib.hid (h8.new (alloc_new w8 (.cells #[.int .i64 0, .int .i64 0] 44)))
                    clear h8
                    go_wp2_with fail
                    refine (live_close HL8.out (by omega) 1 (close_shut sz _) (er := .iface 35 (.int .i64 1)) rfl).mono ?_
                    rintro e w9 ⟨vw9, rfl, ⟨ρ9, h9, -⟩, -, -⟩
                    have HB9 := Lib.hid h9.below
                    clear h9
                    go_wp2_with fail
                    refine (tell_errno 13 w9 (HE.out _ HB9.out)).mono ?_
                    rintro e w10 ⟨rfl, hb10⟩
                    have HB10 : Hid (Below w.heap.size w w10) := Lib.hid (HB9.out.trans (hb10.mono HB9.out.size))
                    clear hb10
                    go_wp2_with fail
                    refine (tell_errno 1 w10 (HE.out _ HB10.out)).mono ?_
                    rintro e w11 ⟨rfl, hb11⟩
                    have HB11 : Hid (Below w.heap.size w w11) := Lib.hid (HB10.out.trans (hb11.mono HB10.out.size))
                    clear hb11
                    go_wp2_with fail
                    go_ret
                    exact ⟨rfl, HB11.out⟩
end Go.Proofs.YtppbmhpbbiigaaaDoor

namespace Go.Proofs.YtppbmhpbbiigaaaDoor
open Go.RowKit Go.Maps Pp

theorem WakesAt.keeps {S : Nat → Prop} {w w' : World} {v : Value} {l : List Wk} (h : WakesAt w v l) (hk : Keeps S w w') (ho : ∀ b, v.ownBlock = some b → ¬ S b) : WakesAt w' v l := by
  obtain ⟨ao, cap, rfl, h1, h2, h3⟩ := h
  refine ⟨ao, cap, rfl, h1, h2, fun h0 => ?_⟩
  obtain ⟨g, rfl, h4, h5⟩ := h3 h0
  have hg : ¬ S g := ho g rfl
  exact ⟨g, rfl, Nat.lt_of_lt_of_le h4 hk.size, fun i x hx => ⟨hk.cell_of (h5 i x hx).1 hg, hk.cell_of (h5 i x hx).2.1 hg, hk.cell_of (h5 i x hx).2.2 hg⟩⟩
/-- What the law itself holds is as it was. -/
def SameH (hs : List Nat) (w w' : World) : Prop := ∀ b ∈ hs, ∀ j, w'.cell? ⟨b, j, none⟩ = w.cell? ⟨b, j, none⟩
/-- Both stand in memory, apart from one another, from what the law itself holds (hs), and from those that the reference said go on. -/
structure Both (w0 w : World) (pb rb N : Nat) (s1 s2 : St) (n : Nat) (hs : List Nat) (v : Value) (l : List Wk) : Prop where
  ex : ∃ ρ σ vl ptr vw us ws, Live w0 w ρ pb N s1 ∧ RefsAt w σ rb vl ptr vw us s2 ws ∧ (∀ b, σ b ≠ .free → w0.heap.size ≤ b ∧ ρ b = .free) ∧ ws.length ≤ n ∧ (∀ b, v.ownBlock = some b → ρ b = .free ∧ b < w.heap.size) ∧ ∀ b ∈ hs, ρ b = .free ∧ σ b = .free ∧ b < w.heap.size
  wk : WakesAt w v l
theorem wakes_nil (w : World) : WakesAt w (.slice none 0 0) [] := ⟨none, 0, rfl, Nat.le_refl _, Nat.zero_le _, fun h => absurd h (Nat.lt_irrefl _)⟩
section
variable {w0 w w' : World} {ρ ρ' : Nat → Role} {σ : Nat → RRole} {pb rb N N' n : Nat} {s1 s1' s2 s2' : St} {vl : Value} {ptr : List Nat} {vw : Value} {us : List (Int × Value)} {ws ws' : List (Int × List Tk)} {v : Value} {l : List Wk} {hs : List Nat}
theorem both_ref (hL : Live w0 w ρ pb N s1) (ha : ∀ b, σ b ≠ .free → w0.heap.size ≤ b ∧ ρ b = .free) (hx : RefsX w w' σ rb s2' ws') (hk : Keeps (fun b => σ b ≠ .free) w w') :
    ∃ σ' vl ptr vw us, Live w0 w' ρ pb N s1 ∧ RefsAt w' σ' rb vl ptr vw us s2' ws' ∧ (∀ b, σ' b ≠ .free → w0.heap.size ≤ b ∧ ρ b = .free) ∧ ∀ b, b < w.heap.size → σ' b = σ b := by
  obtain ⟨σ', vl', ptr', vw', us', h1, h2⟩ := hx.ex
  refine ⟨σ', vl', ptr', vw', us', hL.keeps hk fun b _ e => ⟨(ha b e).2, (ha b e).1⟩, h1, fun b hb => ?_, h2⟩
  rcases Nat.lt_or_ge b w.heap.size with h3 | h3
  · rw [h2 b h3] at hb
    exact ha b hb
  · exact ⟨Nat.le_trans hL.below.size h3, hL.free (Or.inl h3)⟩
theorem both_live (hR : RefsAt w σ rb vl ptr vw us s2 ws) (ha : ∀ b, σ b ≠ .free → w0.heap.size ≤ b ∧ ρ b = .free) (ho : ∀ b, ρ' b ≠ .free → ρ b ≠ .free ∨ w.heap.size ≤ b) (hk : Keeps (fun b => ρ b ≠ .free) w w') :
    RefsAt w' σ rb vl ptr vw us s2 ws ∧ ∀ b, σ b ≠ .free → w0.heap.size ≤ b ∧ ρ' b = .free := by
  refine ⟨hR.keeps hk fun b _ e => Classical.byContradiction fun e2 => e (ha b e2).2, fun b hb => ⟨(ha b hb).1, Classical.byContradiction fun e => ?_⟩⟩
  rcases ho b e with h1 | h1
  · exact h1 (ha b hb).2
  · have := hR.dom b hb
    omega
theorem Both.new (h : Both w0 w pb rb N s1 s2 n hs v l) (hk : Keeps (fun _ => False) w w') : Both w0 w' pb rb N s1 s2 n hs v l := by
  obtain ⟨ρ, σ, vl, ptr, vw, us, ws, h1, h2, h3, h4, h5, h6⟩ := h.ex
  exact ⟨⟨ρ, σ, vl, ptr, vw, us, ws, h1.new hk, h2.keeps hk fun _ _ e => e.elim, h3, h4, fun b hb => ⟨(h5 b hb).1, Nat.lt_of_lt_of_le (h5 b hb).2 hk.size⟩, fun b hb => ⟨(h6 b hb).1, (h6 b hb).2.1, Nat.lt_of_lt_of_le (h6 b hb).2.2 hk.size⟩⟩, h.wk.keeps hk fun _ _ => id⟩
theorem Both.drop (h : Both w0 w pb rb N s1 s2 n hs v l) : Both w0 w pb rb N s1 s2 n hs (.slice none 0 0) [] := by
  obtain ⟨ρ, σ, vl, ptr, vw, us, ws, h1, h2, h3, h4, h5, h6⟩ := h.ex
  exact ⟨⟨ρ, σ, vl, ptr, vw, us, ws, h1, h2, h3, h4, (fun b hb => by cases hb), h6⟩, wakes_nil _⟩
/-- One block more is held. -/
theorem Both.hold (h : Both w0 w pb rb N s1 s2 n hs v l) (hk : Keeps (fun _ => False) w w') {b : Nat} (hb : w.heap.size ≤ b) (hb' : b < w'.heap.size) : Both w0 w' pb rb N s1 s2 n (b :: hs) v l := by
  obtain ⟨ρ0, σ0, vl0, ptr0, vw0, us0, ws0, k1, k2, k3, k4, k5, k6⟩ := h.ex
  refine ⟨⟨ρ0, σ0, vl0, ptr0, vw0, us0, ws0, k1.new hk, k2.keeps hk fun _ _ e => e.elim, k3, k4, fun b hb => ⟨(k5 b hb).1, Nat.lt_of_lt_of_le (k5 b hb).2 hk.size⟩, fun c hc => ?_⟩, h.wk.keeps hk fun _ _ => id⟩
  rcases List.mem_cons.1 hc with rfl | hc
  · exact ⟨k1.free (Or.inl hb), Classical.byContradiction fun e => by have := k2.dom _ e; omega, hb'⟩
  · exact ⟨(k6 c hc).1, (k6 c hc).2.1, Nat.lt_of_lt_of_le (k6 c hc).2.2 hk.size⟩
theorem Both.below (h : Both w0 w pb rb N s1 s2 n hs v l) : Below w0.heap.size w0 w := by
  obtain ⟨ρ, σ, vl, ptr, vw, us, ws, h1, h2, h3, h4, h5, h6⟩ := h.ex
  exact h1.below
theorem Both.free (h : Both w0 w pb rb N s1 s2 n hs v l) : Both w0 w pb rb N s1 s2 n [] v l := by
  obtain ⟨ρ, σ, vl, ptr, vw, us, ws, h1, h2, h3, h4, h5, h6⟩ := h.ex
  exact ⟨⟨ρ, σ, vl, ptr, vw, us, ws, h1, h2, h3, h4, h5, fun b hb => by cases hb⟩, h.wk⟩
theorem both_rmake (h : Both w0 w pb rb N s1 s2 n hs v l) (size : Int) :
    Calls Tryd.prog 5 #[.pointer (some ⟨rb, 0, none⟩), .int .i64 size] w fun e w' => e = .returned (.tuple #[.int .i64 (makeV s2 size).n, .int .i64 (makeV s2 size).err]) ∧ Both w0 w' pb rb N s1 (makeV s2 size).st n hs (.slice none 0 0) [] ∧ SameH hs w w' := by
  obtain ⟨ρ, σ, vl, ptr, vw, us, ws, h1, h2, h3, h4, h5, h6⟩ := h.ex
  refine (rmake_any h2 size).mono ?_
  rintro e w' ⟨rfl, hx, hk⟩
  obtain ⟨σ', vl', ptr', vw', us', g1, g2, g3, g4⟩ := both_ref h1 h3 hx hk
  exact ⟨rfl, ⟨⟨ρ, σ', vl', ptr', vw', us', ws, g1, g2, g3, h4, (fun b hb => by cases hb), (fun b hb => ⟨(h6 b hb).1, by rw [g4 b (h6 b hb).2.2]; exact (h6 b hb).2.1, Nat.lt_of_lt_of_le (h6 b hb).2.2 hk.size⟩)⟩, wakes_nil _⟩, (fun b hb j => hk.cell (p := ⟨b, j, none⟩) (h6 b hb).2.2 fun e => e (h6 b hb).2.1)⟩
theorem both_make (h : Both w0 w pb rb N s1 s2 n hs v l) (size : Int) :
    Calls Tryd.prog 6 #[.pointer (some ⟨pb, 0, none⟩), .int .i64 size] w fun e w' => e = .returned (.tuple #[.int .i64 (makeV s1 size).n, errV (makeV s1 size).err]) ∧ Both w0 w' pb rb N (makeV s1 size).st s2 n hs (.slice none 0 0) [] ∧ SameH hs w w' := by
  obtain ⟨ρ, σ, vl, ptr, vw, us, ws, h1, h2, h3, h4, h5, h6⟩ := h.ex
  refine (make_any h1.pipes size).mono ?_
  rintro e w' ⟨rfl, ⟨ρ', hp, hx⟩, hk⟩
  obtain ⟨g1, g2⟩ := both_live (ρ' := ρ') h2 h3 (fun b hb => by
    rcases Nat.lt_or_ge b w.heap.size with h | h
    · left; rw [hx b h] at hb; exact hb
    · exact Or.inr h) hk
  exact ⟨rfl, ⟨⟨ρ', σ, vl, ptr, vw, us, ws, h1.step hp hx hk, g1, g2, h4, (fun b hb => by cases hb), (fun b hb => ⟨by rw [hx b (h6 b hb).2.2]; exact (h6 b hb).1, (h6 b hb).2.1, Nat.lt_of_lt_of_le (h6 b hb).2.2 hk.size⟩)⟩, wakes_nil _⟩, (fun b hb j => hk.cell (p := ⟨b, j, none⟩) (h6 b hb).2.2 fun e => e (h6 b hb).1)⟩
theorem both_rtalk (h : Both w0 w pb rb N s1 s2 n hs v l) (hn : n ≤ 1000) (task : Int) {tv : Value} {tl : List Tk} (hl : TalksAt w tv tl) (hv : 0 < tl.length → ∀ b, tv.ownBlock = some b → b < w0.heap.size) (draw : Int) (hd : -9223372036854775808 ≤ draw ∧ draw ≤ 9223372036854775807) (h10 : tl.length ≤ 1000) :
    Calls Tryd.prog 8 #[.pointer (some ⟨rb, 0, none⟩), .int .i64 task, tv, .int .i64 draw] w fun e w' => ∃ vw, e = .returned (.tuple #[.agg #[.int .i64 (Pp.talk s2 task tl draw).case, .int .i64 (Pp.talk s2 task tl draw).n], vw, .bool (Pp.talk s2 task tl draw).waits, .int .i64 (Pp.talk s2 task tl draw).err]) ∧
      Both w0 w' pb rb N s1 (Pp.talk s2 task tl draw).st (n + 1) hs vw (Pp.talk s2 task tl draw).wakes ∧ SameH hs w w' := by
  obtain ⟨ρ, σ, vl, ptr, vw, us, ws, h1, h2, h3, h4, h5, h6⟩ := h.ex
  refine (rtalk_any h2 (by omega) task hl (fun h0 b hb => Classical.byContradiction fun e => by have := (h3 b e).1; have := hv h0 b hb; omega) draw hd h10).mono ?_
  rintro e w' ⟨vw1, rfl, hp⟩
  obtain ⟨ws', hx, hlen⟩ := hp.refs
  obtain ⟨σ', vl', ptr', vw', us', g1, g2, g3, g4⟩ := both_ref h1 h3 hx hp.keep
  exact ⟨vw1, rfl, ⟨⟨ρ, σ', vl', ptr', vw', us', ws', g1, g2, g3, by omega, (fun b hb => ⟨h1.free (Or.inl (World.ownsRow.lt hp.wk b hb).1), (World.ownsRow.lt hp.wk b hb).2⟩), (fun b hb => ⟨(h6 b hb).1, by rw [g4 b (h6 b hb).2.2]; exact (h6 b hb).2.1, Nat.lt_of_lt_of_le (h6 b hb).2.2 hp.keep.size⟩)⟩, wakesAt_of hp.wk⟩, (fun b hb j => hp.keep.cell (p := ⟨b, j, none⟩) (h6 b hb).2.2 fun e => e (h6 b hb).2.1)⟩
theorem both_talk (h : Both w0 w pb rb N s1 s2 n hs v l) (hN : N ≤ 100000) (task : Int) (hwf : (Lit.int .i64 task).wf = true) {tv : Value} {tl : List Tk} (hl : TalksAt w tv tl) (hv : 0 < tl.length → ∀ b, tv.ownBlock = some b → b < w0.heap.size) (draw : Int) (hd : -9223372036854775808 ≤ draw ∧ draw ≤ 9223372036854775807) :
    Calls Tryd.prog 9 #[.pointer (some ⟨pb, 0, none⟩), .int .i64 task, tv, .int .i64 draw] w fun e w' => ∃ vw, e = .returned (.tuple #[.agg #[.int .i64 (Pp.talk s1 task tl draw).case, .int .i64 (Pp.talk s1 task tl draw).n], vw, .bool (Pp.talk s1 task tl draw).waits, errV (Pp.talk s1 task tl draw).err]) ∧
      Both w0 w' pb rb (N + 1) (Pp.talk s1 task tl draw).st s2 n hs v l ∧ WakesAt w' vw (Pp.talk s1 task tl draw).wakes ∧ SameH hs w w' := by
  obtain ⟨ρ, σ, vl, ptr, vw, us, ws, h1, h2, h3, h4, h5, h6⟩ := h.ex
  refine (live_talk0 h1 hN task hwf hl (fun h0 b hb => h1.free (Or.inr (hv h0 b hb))) draw hd rfl rfl).mono ?_
  rintro e w' ⟨vw1, rfl, ⟨ρ', hp, hx, -⟩, hw, hk⟩
  obtain ⟨g1, g2⟩ := both_live (ρ' := ρ') h2 h3 (fun b hb => by
    rcases Nat.lt_or_ge b w.heap.size with h | h
    · left; rw [hx b h] at hb; exact hb
    · exact Or.inr h) hk
  exact ⟨vw1, rfl, ⟨⟨ρ', σ, vl, ptr, vw, us, ws, hp, g1, g2, h4, (fun b hb => ⟨by rw [hx b (h5 b hb).2]; exact (h5 b hb).1, Nat.lt_of_lt_of_le (h5 b hb).2 hk.size⟩), (fun b hb => ⟨by rw [hx b (h6 b hb).2.2]; exact (h6 b hb).1, (h6 b hb).2.1, Nat.lt_of_lt_of_le (h6 b hb).2.2 hk.size⟩)⟩, h.wk.keeps hk fun b hb e => e (h5 b hb).1⟩, wakesAt_of hw, (fun b hb j => hk.cell (p := ⟨b, j, none⟩) (h6 b hb).2.2 fun e => e (h6 b hb).1)⟩
theorem both_rclose (h : Both w0 w pb rb N s1 s2 n hs v l) (hn : n ≤ 1000) (c : Int) :
    Calls Tryd.prog 11 #[.pointer (some ⟨rb, 0, none⟩), .int .i64 c] w fun e w' => ∃ vw, e = .returned (.tuple #[vw, .int .i64 (Pp.close s2 c).err]) ∧ Both w0 w' pb rb N s1 (Pp.close s2 c).st n hs vw (Pp.close s2 c).wakes ∧ SameH hs w w' := by
  obtain ⟨ρ, σ, vl, ptr, vw, us, ws, h1, h2, h3, h4, h5, h6⟩ := h.ex
  refine (rclose_any h2 (by omega) c).mono ?_
  rintro e w' ⟨vw1, rfl, hp⟩
  obtain ⟨ws', hx, hlen⟩ := hp.refs
  obtain ⟨σ', vl', ptr', vw', us', g1, g2, g3, g4⟩ := both_ref h1 h3 hx hp.keep
  exact ⟨vw1, rfl, ⟨⟨ρ, σ', vl', ptr', vw', us', ws', g1, g2, g3, by omega, (fun b hb => ⟨h1.free (Or.inl (World.ownsRow.lt hp.wk b hb).1), (World.ownsRow.lt hp.wk b hb).2⟩), (fun b hb => ⟨(h6 b hb).1, by rw [g4 b (h6 b hb).2.2]; exact (h6 b hb).2.1, Nat.lt_of_lt_of_le (h6 b hb).2.2 hp.keep.size⟩)⟩, wakesAt_of hp.wk⟩, (fun b hb j => hp.keep.cell (p := ⟨b, j, none⟩) (h6 b hb).2.2 fun e => e (h6 b hb).2.1)⟩
theorem both_close (h : Both w0 w pb rb N s1 s2 n hs v l) (hN : N ≤ 100000) (c : Int) :
    Calls Tryd.prog 12 #[.pointer (some ⟨pb, 0, none⟩), .int .i64 c] w fun e w' => ∃ vw, e = .returned (.tuple #[vw, errV (Pp.close s1 c).err]) ∧ Both w0 w' pb rb N (Pp.close s1 c).st s2 n hs v l ∧ WakesAt w' vw (Pp.close s1 c).wakes ∧ SameH hs w w' := by
  obtain ⟨ρ, σ, vl, ptr, vw, us, ws, h1, h2, h3, h4, h5, h6⟩ := h.ex
  refine (close_any h1.pipes hN c).mono ?_
  rintro e w' ⟨vw1, rfl, ⟨ρ', hp, hx, -⟩, hw, hk⟩
  obtain ⟨g1, g2⟩ := both_live (ρ' := ρ') h2 h3 (fun b hb => Or.inl (hx b hb)) hk
  exact ⟨vw1, rfl, ⟨⟨ρ', σ, vl, ptr, vw, us, ws, ⟨hp, fun b hb => h1.own b (hx b hb), h1.below.trans (hk.below h1.below.size fun b _ e => h1.own b e)⟩, g1, g2, h4, (fun b hb => ⟨Classical.byContradiction fun e => hx b e (h5 b hb).1, Nat.lt_of_lt_of_le (h5 b hb).2 hk.size⟩), (fun b hb => ⟨Classical.byContradiction fun e => hx b e (h6 b hb).1, (h6 b hb).2.1, Nat.lt_of_lt_of_le (h6 b hb).2.2 hk.size⟩)⟩, h.wk.keeps hk fun b hb e => e (h5 b hb).1⟩, wakesAt_of hw, (fun b hb j => hk.cell (p := ⟨b, j, none⟩) (h6 b hb).2.2 fun e => e (h6 b hb).1)⟩
theorem both_rlen (h : Both w0 w pb rb N s1 s2 n hs v l) (c : Int) : Calls Tryd.prog 13 #[.pointer (some ⟨rb, 0, none⟩), .int .i64 c] w fun e w' => e = .returned (.tuple #[.int .i64 (lenV s2 c).1, .int .i64 (lenV s2 c).2]) ∧ w = w' := by
  obtain ⟨ρ, σ, vl, ptr, vw, us, ws, h1, h2, h3, h4, h5, h6⟩ := h.ex
  exact rlen_any h2 c
theorem both_len (h : Both w0 w pb rb N s1 s2 n hs v l) (c : Int) : Calls Tryd.prog 14 #[.pointer (some ⟨pb, 0, none⟩), .int .i64 c] w fun e w' => e = .returned (.tuple #[.int .i64 (lenV s1 c).1, errV (lenV s1 c).2]) ∧ w = w' := by
  obtain ⟨ρ, σ, vl, ptr, vw, us, ws, h1, h2, h3, h4, h5, h6⟩ := h.ex
  obtain ⟨_, vch, pp, mb, D, hp⟩ := h1.pipes
  exact plen_any hp c
theorem both_rmade (h : Both w0 w pb rb N s1 s2 n hs v l) : Calls Tryd.prog 16 #[.pointer (some ⟨rb, 0, none⟩)] w fun e w' => e = .returned (.int .i64 (s2.chs.length : Nat)) ∧ w = w' := by
  obtain ⟨ρ, σ, vl, ptr, vw, us, ws, h1, h2, h3, h4, h5, h6⟩ := h.ex
  exact rmade_any h2
set_option maxRecDepth 100000 in
set_option maxHeartbeats 1600000 in
theorem both_made (h : Both w0 w pb rb N s1 s2 n hs v l) : Calls Tryd.prog 15 #[.pointer (some ⟨pb, 0, none⟩)] w fun e w' => e = .returned (.int .i64 (s1.chs.length : Nat)) ∧ w = w' := by
  obtain ⟨ρ, σ, vl, ptr, vw, us, ws, h1, h2, h3, h4, h5, h6⟩ := h.ex
  obtain ⟨_, vch, pp, mb, D, hp⟩ := h1.pipes
  obtain ⟨av, capv, rfl, g1, g2, g3⟩ := ptr_row hp.row
  have c0 := hp.c0
  have hl := hp.len
  rw [hl] at c0
  clear h h1 h2 hp
  generalize s1.chs.length = m at *
  go_enter Tryd.func15, Tryd.ntmps15
  go_wp2_with fail
  go_ret
  exact ⟨rfl, rfl⟩
theorem both_rlook (h : Both w0 w pb rb N s1 s2 n hs v l) (hn : n ≤ 1000) : Calls Tryd.prog 19 #[.pointer (some ⟨rb, 0, none⟩)] w fun e w' => ∃ ao cap, e = .returned (.slice ao s2.chs.length cap) ∧ ReadP w' (.slice ao s2.chs.length cap) s2.chs ∧ Below w.heap.size w w' := by
  obtain ⟨ρ, σ, vl, ptr, vw, us, ws, h1, h2, h3, h4, h5, h6⟩ := h.ex
  refine (rlook_any h2 (by omega)).mono ?_
  rintro e w' ⟨ao, cap, rfl, L, g1, g2, g3⟩
  exact ⟨ao, cap, rfl, readP_of g1 g2, g3⟩
theorem both_look (h : Both w0 w pb rb N s1 s2 n hs v l) (hN : N ≤ 1000000) : Calls Tryd.prog 18 #[.pointer (some ⟨pb, 0, none⟩)] w fun e w' => ∃ ao cap, e = .returned (.slice ao s1.chs.length cap) ∧ ReadP w' (.slice ao s1.chs.length cap) s1.chs ∧ Below w.heap.size w w' := by
  obtain ⟨ρ, σ, vl, ptr, vw, us, ws, h1, h2, h3, h4, h5, h6⟩ := h.ex
  refine (look_any h1.pipes hN).mono ?_
  rintro e w' ⟨ao, cap, rfl, L, g1, g2, g3⟩
  exact ⟨ao, cap, rfl, readP_of g1 g2, g3⟩
end
end Go.Proofs.YtppbmhpbbiigaaaDoor

namespace Go.Proofs.YtppbmhpbbiigaaaDoor
open Go.RowKit

set_option maxRecDepth 100000 in
set_option maxHeartbeats 800000 in
/-- An error that is nil, held against OK. -/
theorem bare_nil (w : World) : Calls Tryd.prog 7 #[.nilIface, .int .i64 0] w fun e w' => e = .returned (.bool true) ∧ w = w' := by
  go_enter Tryd.func7, Tryd.ntmps7
  go_wp2_with (go_at_call 27; refine (place_nil _).mono ?_; rintro e w' ⟨rfl, rfl⟩)
  go_ret
  exact ⟨rfl, rfl⟩
set_option maxRecDepth 100000 in
set_option maxHeartbeats 800000 in
/-- An api.Errno, held against itself. -/
theorem bare_errno (k : Int) (w : World) (hE : ErrT w) : Calls Tryd.prog 7 #[.iface 35 (.int .i64 k), .int .i64 k] w fun e w' => e = .returned (.bool true) ∧ Below w.heap.size w w' := by
  have HE := Lib.hid hE
  clear hE
  go_enter Tryd.func7, Tryd.ntmps7
  go_wp2_with (go_at_call 27; refine (place_errno k _ HE.out).mono ?_; rintro e w1 ⟨rfl, hb⟩)
  go_ret
  exact ⟨rfl, hb⟩
end Go.Proofs.YtppbmhpbbiigaaaDoor

namespace Go.Proofs.YtppbmhpbbiigaaaDoor
open Go.RowKit
theorem etG : Tryd.prog.globalNamed "errors.errorType" = some 0 := by kernel_rfl
theorem etRt : (Tryd.prog.cutTypes.find? (·.1 == "internal/reflectlite.rtype")).map (·.2) = some 146 := by kernel_rfl
theorem etOne : ((List.range Tryd.prog.types.size).filter fun t => Tryd.prog.rowNamed t [101, 114, 114, 111, 114]) = [39] := by kernel_rfl
theorem errT_of_laid {W : World} {l : List (String × DataW Unit)} (h : laidMetH Tryd.prog l W) (hm : ("errors.errorType", Rows.laid_errors_errorType) ∈ l) : ErrT W := by
  obtain ⟨name, u, ty, e1, e2, e3, e4, e5⟩ := (laidMetH_iff.1 h).2 _ (List.mem_filter.2 ⟨hm, rfl⟩)
  have en : name = [101, 114, 114, 111, 114] := (Option.some.inj e1).symm
  subst en
  obtain rfl := Option.some.inj (etRt.symm.trans e2)
  have hr : ty ∈ (List.range Tryd.prog.types.size).filter fun t => Tryd.prog.rowNamed t [101, 114, 114, 111, 114] := List.mem_filter.2 ⟨List.mem_range.2 e3, e4⟩
  rw [etOne] at hr
  obtain rfl := List.mem_singleton.1 hr
  have hh : typeHandle Tryd.prog 39 = .pointer (some ⟨1, 39, none⟩) := by kernel_rfl
  rw [hh] at e5
  simpa [ErrT] using World.var?_cell etG e5 0
end Go.Proofs.YtppbmhpbbiigaaaDoor

namespace Go.Proofs.YtppbmhpbbiigaaaDoor
open Go.RowKit
theorem errT_only {W : World} (h : laidMetH Tryd.prog [("errors.errorType", Rows.laid_errors_errorType)] W) : ErrT W := errT_of_laid h (List.mem_cons_self ..)
end Go.Proofs.YtppbmhpbbiigaaaDoor

namespace Go.Proofs.YtppbmhpbbiigaaaDoor
open Go.RowKit Go.Maps Pp

theorem bare_errV (k : Int) (w : World) (hE : ErrT w) : Calls Tryd.prog 7 #[errV k, .int .i64 k] w fun e w' => e = .returned (.bool true) ∧ Below w.heap.size w w' := by
  unfold errV
  split
  · next h =>
    subst h
    exact (bare_nil w).mono fun _ _ ⟨h1, h2⟩ => ⟨h1, h2 ▸ Below.refl _ _⟩
  · exact bare_errno k w hE
theorem refs_zero (w : World) : RefsAt (w.alloc (.cells #[.slice none 0 0, .slice none 0 0] 26)) (fun b => if b = w.heap.size then .pipes else .free) w.heap.size (.slice none 0 0) [] (.slice none 0 0) [] Pp.zero [] := by
  refine ⟨by rw [World.cell?_alloc_at _ _ _ _ rfl]; rfl, by rw [World.cell?_alloc_at _ _ _ _ rfl]; rfl, fun j => by rw [World.frozen?_alloc_at _ _ _ _ rfl], World.ownsRow_nil _ _ _ _, rfl, (fun k cb c h => by cases h), World.ownsRow_nil _ _ _ _, ⟨rfl, fun i u x h => by cases h⟩, if_pos rfl, (fun b hb => by cases hb), (fun b hb => by cases hb), fun b hb => ?_, Ok.zero, Rel.zero⟩
  by_cases e : b = w.heap.size
  · rw [e]; simp
  · simp [e] at hb
theorem both_zero (w : World) : Both w ((w.alloc (.cells #[.slice none 0 0, .slice none 0 0] 26)).alloc (.cells #[.slice none 0 0, .map none] 31)) (w.heap.size + 1) w.heap.size 0 Pp.zero Pp.zero 0 [] (.slice none 0 0) [] := by
  obtain ⟨ρ, h1⟩ := live_zero (Below.refl (w.alloc (.cells #[.slice none 0 0, .slice none 0 0] 26)).heap.size _) 31
  have hs : (w.alloc (.cells #[.slice none 0 0, .slice none 0 0] 26)).heap.size = w.heap.size + 1 := by simp
  rw [hs] at h1
  refine ⟨⟨ρ, _, _, _, _, _, _, ⟨h1.pipes, fun b hb => by have := h1.own b hb; omega, ((Below.refl w.heap.size w).alloc (Nat.le_refl _) _).alloc (by simp) _⟩, (refs_zero w).keeps (alloc_new _ _) fun _ _ e => e.elim, fun b hb => ?_, Nat.le_refl _, (fun b hb => by cases hb), (fun b hb => by cases hb)⟩, wakes_nil _⟩
  by_cases e : b = w.heap.size
  · subst e
    exact ⟨Nat.le_refl _, Classical.byContradiction fun e => by have := h1.own _ e; omega⟩
  · simp [e] at hb
theorem ReadP.below {w w' : World} {v : Value} {chs : List Ch} (h : ReadP w v chs) (hb : Below w.heap.size w w') : ReadP w' v chs := by
  obtain ⟨ao, cap, h1, h2, h3, h4⟩ := h
  refine ⟨ao, cap, h1, h2, h3, fun h0 => ?_⟩
  obtain ⟨g, e, hg, hx⟩ := h4 h0
  refine ⟨g, e, Nat.lt_of_lt_of_le hg hb.size, fun i c hc => ?_⟩
  obtain ⟨a0, k0, a1, k1, a2, k2, g0, g1, g2, g3, g4, g5, g6, g7⟩ := hx i c hc
  have hk : Keeps (fun _ => False) w w' := Keeps.of_new hb
  exact ⟨a0, k0, a1, k1, a2, k2, (hb.cell (p := ⟨g, i * 5, none⟩) hg).trans g0, (hb.cell (p := ⟨g, i * 5 + 1, none⟩) hg).trans g1, (hb.cell (p := ⟨g, i * 5 + 2, none⟩) hg).trans g2, (hb.cell (p := ⟨g, i * 5 + 3, none⟩) hg).trans g3, (hb.cell (p := ⟨g, i * 5 + 4, none⟩) hg).trans g4, g5.below hb, g6.keeps hk fun _ _ => id, g7.keeps hk fun _ _ => id⟩
theorem Both.sub {w0 w : World} {pb rb N n : Nat} {s1 s2 : St} {hs hs' : List Nat} {v : Value} {l : List Wk} (h : Both w0 w pb rb N s1 s2 n hs v l) (hx : ∀ b ∈ hs', b ∈ hs) : Both w0 w pb rb N s1 s2 n hs' v l := by
  obtain ⟨ρ, σ, vl, ptr, vw, us, ws, h1, h2, h3, h4, h5, h6⟩ := h.ex
  exact ⟨⟨ρ, σ, vl, ptr, vw, us, ws, h1, h2, h3, h4, h5, fun b hb => h6 b (hx b hb)⟩, h.wk⟩
/-- An operation's cells, in the law's own block. -/
structure OpC (w : World) (ob : Nat) (dw dn dt dd : Int) (vt : Value) : Prop where
  c0 : w.cell? ⟨ob, 0, none⟩ = some (.int .i64 dw)
  c1 : w.cell? ⟨ob, 1, none⟩ = some (.int .i64 dn)
  c2 : w.cell? ⟨ob, 2, none⟩ = some (.int .i64 dt)
  c3 : w.cell? ⟨ob, 3, none⟩ = some (.int .i64 dd)
  c4 : w.cell? ⟨ob, 4, none⟩ = some vt
theorem OpC.same {w w' : World} {ob : Nat} {dw dn dt dd : Int} {vt : Value} {hs : List Nat} (h : OpC w ob dw dn dt dd vt) (hk : SameH hs w w') (hb : ob ∈ hs) : OpC w' ob dw dn dt dd vt :=
  ⟨(hk ob hb 0).trans h.c0, (hk ob hb 1).trans h.c1, (hk ob hb 2).trans h.c2, (hk ob hb 3).trans h.c3, (hk ob hb 4).trans h.c4⟩
theorem OpC.new {w w' : World} {ob : Nat} {dw dn dt dd : Int} {vt : Value} (h : OpC w ob dw dn dt dd vt) (hk : Keeps (fun _ => False) w w') : OpC w' ob dw dn dt dd vt :=
  ⟨hk.cell_of h.c0 id, hk.cell_of h.c1 id, hk.cell_of h.c2 id, hk.cell_of h.c3 id, hk.cell_of h.c4 id⟩
/-- An answer's cells, in the law's own block. -/
structure AnC (w : World) (ab : Nat) (x y : Int) : Prop where
  c0 : w.cell? ⟨ab, 0, none⟩ = some (.int .i64 x)
  c1 : w.cell? ⟨ab, 1, none⟩ = some (.int .i64 y)
theorem AnC.same {w w' : World} {ab : Nat} {x y : Int} {hs : List Nat} (h : AnC w ab x y) (hk : SameH hs w w') (hb : ab ∈ hs) : AnC w' ab x y := ⟨(hk ab hb 0).trans h.c0, (hk ab hb 1).trans h.c1⟩
theorem AnC.new {w w' : World} {ab : Nat} {x y : Int} (h : AnC w ab x y) (hk : Keeps (fun _ => False) w w') : AnC w' ab x y := ⟨hk.cell_of h.c0 id, hk.cell_of h.c1 id⟩
theorem anC_alloc (w : World) (x y : Int) (t : TypeId) : AnC (w.alloc (.cells #[.int .i64 x, .int .i64 y] t)) w.heap.size x y := ⟨by rw [World.cell?_alloc_at _ _ _ _ rfl]; rfl, by rw [World.cell?_alloc_at _ _ _ _ rfl]; rfl⟩
theorem opC_alloc (w : World) (dw dn dt dd : Int) (vt : Value) (t : TypeId) : OpC (w.alloc (.cells #[.int .i64 dw, .int .i64 dn, .int .i64 dt, .int .i64 dd, vt] t)) w.heap.size dw dn dt dd vt :=
  ⟨by rw [World.cell?_alloc_at _ _ _ _ rfl]; rfl, by rw [World.cell?_alloc_at _ _ _ _ rfl]; rfl, by rw [World.cell?_alloc_at _ _ _ _ rfl]; rfl, by rw [World.cell?_alloc_at _ _ _ _ rfl]; rfl, by rw [World.cell?_alloc_at _ _ _ _ rfl]; rfl⟩
/-- What a round holds, ahead of and behind its operation. -/
structure SideJ (w0 w : World) (pb rb ob i : Nat) (dw dn dt dd : Int) (vt : Value) : Prop where
  b : ∃ N n s, N ≤ i ∧ n ≤ i ∧ Both w0 w pb rb N s s n [ob] (.slice none 0 0) []
  x : OpC w ob dw dn dt dd vt
end Go.Proofs.YtppbmhpbbiigaaaDoor

namespace Go.Proofs.YtppbmhpbbiigaaaDoor
open Go.RowKit Go.Maps Pp

set_option maxRecDepth 100000 in
set_option maxHeartbeats 6400000 in
theorem pipeTells_any {v : Value} (l : List PO) (w : World) (h : OpsAt w v l) (hE : ErrT w) :
    Calls Tryd.prog 3 #[v] w fun e w' => e = .returned (.bool true) ∧ Below w.heap.size w w' := by
  have hlt : 0 < w.heap.size := block_lt_of_cell hE
  have HE : Hid (∀ W, Below w.heap.size w W → ErrT W) := Lib.hid fun W hb => hE.below hb hlt
  clear hE hlt
  obtain ⟨ao, n, cap, rfl, hn, hc1, hc2, hx⟩ := h
  unfold maxLen at hc2
  have HX := Lib.hid hx
  have HN := Lib.hid hn
  clear hx hn
  by_cases h60 : 60 < n
  · have z : (60 : Int) < (n : Int) := by omega
    go_enter Tryd.func3, Tryd.ntmps3
    go_wp2_with fail
    go_ret
    exact ⟨rfl, Below.refl _ _⟩
  · have z : ¬ (60 : Int) < (n : Int) := by omega
    have HB0 := Lib.hid (both_zero w)
    go_enter Tryd.func3, Tryd.ntmps3
    go_wp2_with fail
    generalize (w.alloc (.cells #[.slice none 0 0, .slice none 0 0] 26)).alloc (.cells #[.slice none 0 0, .map none] 31) = w1 at *
    obtain ⟨pb, hpb⟩ : ∃ pb, pb = w.heap.size + 1 := ⟨_, rfl⟩
    obtain ⟨rb, hrb⟩ : ∃ rb, rb = w.heap.size := ⟨_, rfl⟩
    have HB1 : Hid (Both w w1 pb rb 0 Pp.zero Pp.zero 0 [] (.slice none 0 0) []) := Lib.hid (by rw [hpb, hrb]; exact HB0.out)
    simp only [← hpb]
    simp only [← hrb]
    clear hpb hrb HB0
    go_loopw [5] (fun iv wr => ∃ (i N m : Nat) (s : St), i ≤ n ∧ N ≤ i ∧ m ≤ i ∧ iv = .int .i64 i ∧ Both w wr pb rb N s s m [] (.slice none 0 0) []) (fun iv _ => n - (intOf iv).toNat)
    case atStart => exact ⟨0, 0, 0, _, Nat.zero_le _, Nat.le_refl _, Nat.le_refl _, rfl, HB1.out⟩
    case round =>
      obtain ⟨i, N, m, s, hi, hN, hm, rfl, hB⟩ := hrel
      rename World => wr
      have HB := Lib.hid hB
      clear hB HB1
      by_cases hin : i < n
      · obtain ⟨⟨dw, dn, dt, dd, dl⟩, hd⟩ : ∃ d, l[i]? = some d := ⟨_, List.getElem?_eq_getElem (by rw [← HN.out]; exact hin)⟩
        obtain ⟨b, o, rfl, hbl, hcells⟩ := HX.out (by omega)
        obtain ⟨vt, g0, g1, g2, g3, g4, gt, bn, bt, bd⟩ := hcells i _ hd
        simp only at g0 g1 g2 g3 g4 gt bn bt bd
        obtain ⟨at_, kt, rfl, hk1, hk2⟩ := gt.slice
        have hbw := HB.out.below
        have r0 := (hbw.cell (p := ⟨b, o + i * 5, none⟩) hbl).trans g0
        have r1 := (hbw.cell (p := ⟨b, o + i * 5 + 1, none⟩) hbl).trans g1
        have r2 := (hbw.cell (p := ⟨b, o + i * 5 + 2, none⟩) hbl).trans g2
        have r3 := (hbw.cell (p := ⟨b, o + i * 5 + 3, none⟩) hbl).trans g3
        have r4 := (hbw.cell (p := ⟨b, o + i * 5 + 4, none⟩) hbl).trans g4
        have hii : (0 : Int) ≤ (i : Int) ∧ (i : Int) < (n : Int) := by omega
        have HBD := Lib.hid bd
        have HBT := Lib.hid bt
        have HGT : Hid (∀ W, Below w.heap.size w W → TalksAt W (.slice at_ dl.length kt) dl) := Lib.hid fun W hb => gt.keeps (S := fun _ => False) (Keeps.of_new hb) fun _ _ => id
        have HTLT : Hid (0 < dl.length → ∀ c, (Value.slice at_ dl.length kt).ownBlock = some c → c < w.heap.size) := Lib.hid fun h0 c hc => gt.lt h0 c hc
        have HBY : Hid (Both w (wr.alloc (.cells #[.int .i64 dw, .int .i64 dn, .int .i64 dt, .int .i64 dd, .slice at_ dl.length kt] 34)) pb rb N s s m [wr.heap.size] (.slice none 0 0) []) := Lib.hid (HB.out.hold (alloc_new _ _) (Nat.le_refl _) (by simp))
        have HQ := Lib.hid (opC_alloc wr dw dn dt dd (.slice at_ dl.length kt) 34)
        clear hcells hd g0 g1 g2 g3 g4 gt bn bt bd hbw
        go_upto_region 9 with fail
        obtain ⟨ob, hob⟩ : ∃ ob, ob = wr.heap.size := ⟨_, rfl⟩
        rw [← hob] at HBY HQ ⊢
        clear r0 r1 r2 r3 r4 hob HB
        generalize wr.alloc (.cells #[.int .i64 dw, .int .i64 dn, .int .i64 dt, .int .i64 dd, .slice at_ dl.length kt] 34) = wy at *
        have q0 := HQ.out.c0
        have q4 := HQ.out.c4
        by_cases h10 : 10 < dl.length
        · have z10 : (10 : Int) < (dl.length : Int) := by omega
          have HBW : Hid (Below w.heap.size w wy) := Lib.hid HBY.out.below
          go_wp2_with fail
          go_ret
          exact ⟨rfl, HBW.out⟩
        · have z10 : ¬ (10 : Int) < (dl.length : Int) := by omega
          go_upto_block 2 with fail
          have hb0 := HBY.out
          have HQ1 := Lib.hid HQ.out.c1
          go_cut [] (fun wx => SideJ w wx pb rb ob (i + 1) dw dn dt dd (.slice at_ dl.length kt))
          case first =>
            clear hb0
            by_cases h0 : dw = 0
            · subst h0
              have HM := Lib.hid (both_rmake HBY.out dn)
              have q1 := HQ.out.c1
              clear q4
              go_wp2_with fail
              refine HM.out.mono ?_
              rintro e w2 ⟨rfl, hb2, hs2⟩
              have HB2 := Lib.hid hb2
              have HX2 := Lib.hid (HQ.out.same hs2 (List.mem_singleton.2 rfl))
              have q1' := HX2.out.c1
              have HM2 := Lib.hid (both_make HB2.out dn)
              clear hb2 hs2 q0 q1
              go_wp2_with fail
              refine HM2.out.mono ?_
              rintro e w3 ⟨rfl, hb3, hs3⟩
              have HB3 := Lib.hid hb3
              have HX3 := Lib.hid (HX2.out.same hs3 (List.mem_singleton.2 rfl))
              have HBE := Lib.hid (bare_errV (makeV s dn).err w3 (HE.out _ hb3.below))
              clear hb3 hs3 q1'
              generalize makeV s dn = mk at *
              go_wp2_with fail
              refine HBE.out.mono ?_
              rintro e w4 ⟨rfl, hb4⟩
              have HB4 : Hid (SideJ w w4 pb rb ob (i + 1) 0 dn dt dd (.slice at_ dl.length kt)) := Lib.hid ⟨⟨N, m, _, by omega, by omega, HB3.out.new (Keeps.of_new hb4)⟩, HX3.out.new (Keeps.of_new hb4)⟩
              clear hb4
              go_wp2_with fail
              go_meet
              exact HB4.out
            by_cases h1 : dw = 1
            · subst h1
              clear h0
              obtain ⟨g, hg⟩ : ∃ g, g = Pp.talk s dt dl dd := ⟨_, rfl⟩
              have hc := both_rtalk HBY.out (by omega) dt (HGT.out _ HBY.out.below) HTLT.out dd HBD.out (by omega)
              rw [← hg] at hc
              have HT := Lib.hid hc
              have HG := Lib.hid hg
              clear hc hg
              have q2 := HQ.out.c2
              have q3 := HQ.out.c3
              go_wp2_with fail
              refine HT.out.mono ?_
              rintro e w2 ⟨vw, rfl, hb2, hs2⟩
              have HB2 := Lib.hid (hb2.hold (alloc_new w2 (.cells #[.int .i64 g.case, .int .i64 g.n] 44)) (Nat.le_refl _) (by simp))
              have HX2 := Lib.hid ((HQ.out.same hs2 (List.mem_singleton.2 rfl)).new (alloc_new w2 (.cells #[.int .i64 g.case, .int .i64 g.n] 44)))
              have HA2 := Lib.hid (anC_alloc w2 g.case g.n 44)
              clear hb2 hs2 q0 q2 q3 q4
              go_upto_region 19 with fail
              obtain ⟨ab, hab⟩ : ∃ ab, ab = w2.heap.size := ⟨_, rfl⟩
              rw [← hab] at HB2 HA2 ⊢
              clear hab
              generalize w2.alloc (.cells #[.int .i64 g.case, .int .i64 g.n] 44) = w3 at *
              have hc := both_talk HB2.out (by omega) dt (wf_small _ HBT.out) (HGT.out _ HB2.out.below) HTLT.out dd HBD.out
              rw [← HG.out] at hc
              have HT2 := Lib.hid hc
              have q2 := HX2.out.c2
              have q3 := HX2.out.c3
              have q4 := HX2.out.c4
              clear hc HT
              go_wp2_with fail
              refine HT2.out.mono ?_
              rintro e w4 ⟨vp, rfl, hb4, hw4, hs4⟩
              have HB4 := Lib.hid (hb4.hold (alloc_new w4 (.cells #[.int .i64 g.case, .int .i64 g.n] 44)) (Nat.le_refl _) (by simp))
              have HX4 := Lib.hid ((HX2.out.same hs4 (by simp)).new (alloc_new w4 (.cells #[.int .i64 g.case, .int .i64 g.n] 44)))
              have HA4 := Lib.hid ((HA2.out.same hs4 (by simp)).new (alloc_new w4 (.cells #[.int .i64 g.case, .int .i64 g.n] 44)))
              have HP4 := Lib.hid (hw4.keeps (alloc_new w4 (.cells #[.int .i64 g.case, .int .i64 g.n] 44)) fun _ _ => id)
              have HC4 := Lib.hid (anC_alloc w4 g.case g.n 44)
              clear hb4 hw4 hs4 q2 q3 q4
              go_upto_region 20 with fail
              obtain ⟨bb, hbb⟩ : ∃ bb, bb = w4.heap.size := ⟨_, rfl⟩
              rw [← hbb] at HB4 HC4 ⊢
              clear hbb
              generalize w4.alloc (.cells #[.int .i64 g.case, .int .i64 g.n] 44) = w5 at *
              have HBE := Lib.hid (bare_errV g.err w5 (HE.out _ HB4.out.below))
              go_wp2_with fail
              refine HBE.out.mono ?_
              rintro e w6 ⟨rfl, hb6⟩
              have hk6 : Keeps (fun _ => False) w5 w6 := Keeps.of_new hb6
              have HB6 := Lib.hid (HB4.out.new hk6)
              have HX6 := Lib.hid (HX4.out.new hk6)
              have HP6 := Lib.hid (HP4.out.keeps hk6 fun _ _ => id)
              have a0 := (HA4.out.new hk6).c0
              have a1 := (HA4.out.new hk6).c1
              have b0 := (HC4.out.new hk6).c0
              have b1 := (HC4.out.new hk6).c1
              clear hb6 hk6
              go_wp2_with fail
              refine (sameWakes_any HP6.out HB6.out.wk).mono ?_
              rintro e w7 ⟨rfl, hb7⟩
              have HB7 : Hid (SideJ w w7 pb rb ob (i + 1) 1 dn dt dd (.slice at_ dl.length kt)) := Lib.hid ⟨⟨N + 1, m + 1, _, by omega, by omega, ((HB6.out.new (Keeps.of_new hb7)).sub (by simp)).drop⟩, HX6.out.new (Keeps.of_new hb7)⟩
              clear hb7 a0 a1 b0 b1
              go_wp2_with fail
              go_meet
              exact HB7.out
            by_cases h2 : dw = 2
            · subst h2
              clear h0 h1 q4
              obtain ⟨g, hg⟩ : ∃ g, g = Pp.close s dn := ⟨_, rfl⟩
              have hc := both_rclose HBY.out (by omega) dn
              rw [← hg] at hc
              have HT := Lib.hid hc
              have HG := Lib.hid hg
              clear hc hg
              have q1 := HQ.out.c1
              go_wp2_with fail
              refine HT.out.mono ?_
              rintro e w2 ⟨vw, rfl, hb2, hs2⟩
              have HB2 := Lib.hid hb2
              have HX2 := Lib.hid (HQ.out.same hs2 (List.mem_singleton.2 rfl))
              have q1' := HX2.out.c1
              have hc := both_close HB2.out (by omega) dn
              rw [← HG.out] at hc
              have HT2 := Lib.hid hc
              clear hb2 hs2 q0 q1 hc
              go_wp2_with fail
              refine HT2.out.mono ?_
              rintro e w3 ⟨vp, rfl, hb3, hw3, hs3⟩
              have HB3 := Lib.hid hb3
              have HX3 := Lib.hid (HX2.out.same hs3 (List.mem_singleton.2 rfl))
              have HP3 := Lib.hid hw3
              have HBE := Lib.hid (bare_errV g.err w3 (HE.out _ hb3.below))
              clear hb3 hs3 q1' hw3
              go_wp2_with fail
              refine HBE.out.mono ?_
              rintro e w4 ⟨rfl, hb4⟩
              have hk4 : Keeps (fun _ => False) w3 w4 := Keeps.of_new hb4
              have HB4 := Lib.hid (HB3.out.new hk4)
              have HX4 := Lib.hid (HX3.out.new hk4)
              have HP4 := Lib.hid (HP3.out.keeps hk4 fun _ _ => id)
              clear hb4 hk4
              go_wp2_with fail
              refine (sameWakes_any HP4.out HB4.out.wk).mono ?_
              rintro e w5 ⟨rfl, hb5⟩
              have HB5 : Hid (SideJ w w5 pb rb ob (i + 1) 2 dn dt dd (.slice at_ dl.length kt)) := Lib.hid ⟨⟨N, m, _, by omega, by omega, (HB4.out.new (Keeps.of_new hb5)).drop⟩, HX4.out.new (Keeps.of_new hb5)⟩
              clear hb5
              go_wp2_with fail
              go_meet
              exact HB5.out
            have z0 : (dw == 0) = false := beq_eq_false_iff_ne.2 h0
            have z1 : (dw == 1) = false := beq_eq_false_iff_ne.2 h1
            have z2 : (dw == 2) = false := beq_eq_false_iff_ne.2 h2
            have HBJ : Hid (SideJ w wy pb rb ob (i + 1) dw dn dt dd (.slice at_ dl.length kt)) := Lib.hid ⟨⟨N, m, _, by omega, by omega, HBY.out⟩, HQ.out⟩
            go_wp2_with fail
            go_meet
            exact HBJ.out
          case rest =>
            obtain ⟨⟨N9, m9, s9, hN9, hm9, hb9⟩, hx9⟩ := hcut
            have HB9 := Lib.hid hb9
            have HX9 := Lib.hid hx9
            have q1 := hx9.c1
            clear hb0 hb9 hx9 q0 q4 HBY HQ HQ1
            rename World => wx
            go_wp2_with fail
            refine (both_rlen HB9.out dn).mono ?_
            rintro e w10 ⟨rfl, rfl⟩
            have HLN := Lib.hid (both_len HB9.out dn)
            have HBE := Lib.hid (bare_errV (lenV s9 dn).2 wx (HE.out _ HB9.out.below))
            generalize lenV s9 dn = ln at *
            go_wp2_with fail
            refine HLN.out.mono ?_
            rintro e w10 ⟨rfl, rfl⟩
            go_wp2_with fail
            refine HBE.out.mono ?_
            rintro e w11 ⟨rfl, hb11⟩
            have HB11 := Lib.hid (HB9.out.new (Keeps.of_new hb11))
            clear hb11 q1
            go_wp2_with fail
            refine (both_made HB11.out).mono ?_
            rintro e w12 ⟨rfl, rfl⟩
            go_wp2_with fail
            refine (both_rmade HB11.out).mono ?_
            rintro e w12 ⟨rfl, rfl⟩
            go_wp2_with fail
            refine (both_look HB11.out (by omega)).mono ?_
            rintro e w12 ⟨a12, c12, rfl, hr12, hb12⟩
            have HB12 := Lib.hid (HB11.out.new (Keeps.of_new hb12))
            have HR12 := Lib.hid hr12
            clear hr12 hb12
            go_wp2_with fail
            refine (both_rlook HB12.out (by omega)).mono ?_
            rintro e w13 ⟨a13, c13, rfl, hr13, hb13⟩
            have HB13 := Lib.hid (HB12.out.new (Keeps.of_new hb13))
            have HSP := Lib.hid (samePipes_any (HR12.out.below hb13) hr13)
            clear hr13 hb13
            go_wp2_with fail
            refine HSP.out.mono ?_
            rintro e w14 ⟨rfl, hb14⟩
            have HB14 := Lib.hid ((HB13.out.new (Keeps.of_new hb14)).free)
            clear hb14
            go_wp2_with fail
            go_roundw
            case rel => exact ⟨i + 1, N9, m9, s9, by omega, hN9, hm9, by go_num, HB14.out⟩
            case measure => simp [intOf]; omega
      · obtain rfl : i = n := by omega
        have hnn : ¬ (i : Int) < (i : Int) := by omega
        go_wp2_with fail
        go_ret
        exact ⟨rfl, HB.out.below⟩
end Go.Proofs.YtppbmhpbbiigaaaDoor
