/-
  The walk of package code's Decode.
-/
import Derived.Test.YtjdihgmngiplkaaDoorCodeW8
namespace Go.Proofs.YtjdihgmngiplkaaDoor
open Go.RowKit Cd

theorem decE_ok {k : Nat} {first : WPart} {rest : List WPart} (hk : k = 80 ∧ first.1 = 97) (hl : ¬ 12 < rest.length) : decE 0 k (first :: rest) = if (rdParts first rest).2 = 0 then progE (rdParts first rest).1 else (rdParts first rest).2 := by
  unfold decE
  rw [if_pos rfl]
  dsimp only
  rw [if_pos hk, if_neg hl]
theorem decV_ok {re k : Nat} {first : WPart} {rest : List WPart} (h : decE re k (first :: rest) = 0) : decV re k (first :: rest) = (rdParts first rest).1 := by
  unfold decV
  rw [if_pos h]
theorem decE_bad {k re : Nat} {ps : List WPart} (h : re ≠ 0) : decE re k ps = re := if_neg h
theorem decE_form {k : Nat} {ps : List WPart} (h : ∀ f r, ps = f :: r → ¬ (k = 80 ∧ f.1 = 97)) : decE 0 k ps = 3 := by
  unfold decE
  rw [if_pos rfl]
  cases ps with
  | nil => rfl
  | cons f r =>
    dsimp only
    rw [if_neg (h f r rfl)]
theorem decE_long {k : Nat} {first : WPart} {rest : List WPart} (hk : k = 80 ∧ first.1 = 97) (hl : 12 < rest.length) : decE 0 k (first :: rest) = 4 := by
  unfold decE
  rw [if_pos rfl]
  dsimp only
  rw [if_pos hk, if_pos hl]
theorem parts_tail {w : World} {b o n cap : Nat} {p : WPart} {ps : List WPart} (h : PartsAt w (.slice (some ⟨b, o, none⟩) n cap) (p :: ps)) : PartsAt w (.slice (some ⟨b, o + 2, none⟩) (n - 1) (cap - 1)) ps := by
  obtain ⟨ao, n', cap', e, hn, hc, hm, hx, ht⟩ := h
  rw [Value.slice.injEq] at e
  obtain ⟨rfl, rfl, rfl⟩ := e
  rw [List.length_cons] at hn
  refine ⟨_, _, _, rfl, by omega, by omega, by omega, fun h0 => ?_, fun q hq => ht q (List.mem_cons_of_mem _ hq)⟩
  obtain ⟨b', o', h1, h2, h3⟩ := hx (by omega)
  rw [Option.some.injEq, Addr.mk.injEq] at h1
  obtain ⟨rfl, rfl, -⟩ := h1
  refine ⟨b, o + 2, rfl, h2, fun i hi => ?_⟩
  have := h3 (i + 1) (by omega)
  rw [show o + (i + 1) * 2 = o + 2 + i * 2 by omega] at this
  exact this

theorem bel_next {w a b : World} (h : Below w.heap.size w a) (k : Below a.heap.size a b) : Below w.heap.size w b := h.trans (k.mono h.size)
/-- What is at hand when the parts have been read: the program in a block of its own. -/
def ReadJ (w2 : World) (first : WPart) (rest : List WPart) (v6 v7 : Value) (wx : World) : Prop :=
  ∃ (qb : Nat) (g : Int) (vf : Value), v7 = .pointer (some ⟨qb, 0, none⟩) ∧ v6 = errV (rdParts first rest).2 ∧ wx.cell? ⟨qb, 0, none⟩ = some (.int .i64 g) ∧ wx.cell? ⟨qb, 1, none⟩ = some vf ∧ Below w2.heap.size w2 wx ∧
    ∃ fs, (∀ W', Keeps (fun b => b < w2.heap.size) wx W' → FnsAt W' vf fs) ∧ ((rdParts first rest).2 = 0 → (rdParts first rest).1 = ⟨g, fs⟩)
/-- The parts' reader, behind a world. -/
def PartC (w2 : World) (first : WPart) (rest : List WPart) (vt : Value) : Prop := ∀ W, Below w2.heap.size w2 W → Calls Tryd.prog 40 #[.agg #[.int .u8 (first.1 : Nat), .string first.2], vt] W fun e w' => ∃ (g : Int) (vf : Value), e = .returned (.tuple #[.agg #[.int .i64 g, vf], errV (rdParts first rest).2]) ∧ ∃ fs : List FnV, (∀ W', Keeps (fun b => b < W.heap.size) w' W' → FnsAt W' vf fs) ∧ ((rdParts first rest).2 = 0 → (rdParts first rest).1 = ⟨g, fs⟩) ∧ Below W.heap.size W w' ∧ Below w2.heap.size w2 w'
theorem partC {w2 : World} {first : WPart} {rest : List WPart} {vt : Value} (hf : first.1 < 256) (hfs : first.2.size ≤ 60000) (hv : PartsAt w2 vt rest) (hsm : Small rest) (hlen : rest.length ≤ 12) : PartC w2 first rest vt := fun W hW =>
  (rparts_any first vt rest W hf hfs (hv.below hW (Nat.le_refl _)) hsm hlen).mono fun _ _ ⟨g, vf, h1, fs, h2, h3, h4⟩ => ⟨g, vf, h1, fs, h2, h3, h4, bel_next hW h4⟩
set_option maxRecDepth 100000 in
set_option maxHeartbeats 6400000 in
theorem decode_any (s : ByteArray) (k : Nat) (ps : List WPart) (re : Nat) (w : World) (hs : s.size ≤ 60000) (hO : OP s k ps re) (hL : Leaves w) :
    Calls Tryd.prog 18 #[.string s] w fun e w' => ∃ (g : Int) (vf : Value), e = .returned (.tuple #[.agg #[.int .i64 g, vf], errV (decE re k ps)]) ∧ ProgAt w' (.agg #[.int .i64 g, vf]) (decV re k ps) ∧ Below w.heap.size w w' := by
  have hal := (Below.refl w.heap.size w).alloc (Nat.le_refl _) (.cells #[.int .i64 0, .slice none 0 0] 24)
  have HZ := Lib.hid (BlkO.new w #[.int .i64 0, .slice none 0 0] 24)
  have HAL := Lib.hid hal
  have HOP := Lib.hid (open_any s k ps re (w.alloc (.cells #[.int .i64 0, .slice none 0 0] 24)) hs hO (hL.next hal))
  have HOO := Lib.hid hO
  have HR9 : Hid (re = 0 ∨ re ≠ 0) := Lib.hid (by omega)
  have HDV : Hid (decE re k ps ≠ 0 → decV re k ps = ⟨0, []⟩) := Lib.hid fun h => if_neg h
  clear hal hO hL
  go_enter Tryd.func18, Tryd.ntmps18
  go_upto_region 1 with fail
  generalize w.alloc (.cells #[.int .i64 0, .slice none 0 0] 24) = w1 at *
  obtain ⟨zb, hzb⟩ : ∃ zb, w.heap.size = zb := ⟨_, rfl⟩
  have HZB := Lib.hid hzb
  rw [hzb] at HZ
  try rw [hzb]
  clear hzb
  go_wp2_with fail
  refine HOP.out.mono ?_
  rintro e w2 ⟨v, rfl, hpa, hb2⟩
  have HZ2 := Lib.hid (HZ.out.below hb2)
  have HPA := Lib.hid hpa
  have HBO : Hid (∀ u u', Below w.heap.size w ((w2.setCell ⟨zb, 0, none⟩ u).setCell ⟨zb, 1, none⟩ u')) := Lib.hid fun u u' =>
    ((HAL.out.trans (hb2.mono HAL.out.size)).setCell (p := ⟨zb, 0, none⟩) (Nat.le_of_eq HZB.out) u).setCell (p := ⟨zb, 1, none⟩) (Nat.le_of_eq HZB.out) u'
  have HB2 := Lib.hid hb2
  rcases HR9.out with h0 | h0
  · subst h0
    rw [errV_0]
    cases ps with
    | nil =>
      have HDE : Hid (decE 0 k [] = 3) := Lib.hid (decE_form fun _ _ h => by cases h)
      obtain ⟨ao, n, cap, rfl, hn, -, -, -, -⟩ := hpa
      obtain rfl : n = 0 := hn
      clear HR9
      by_cases hk : k = 80
      · subst hk
        have z0 := HZ2.out.at_ 0 _ rfl
        have z1 := HZ2.out.at_ 1 _ rfl
        have y0 := HZ2.out.free 0
        have y1 := HZ2.out.free 1
        have HOUT := Lib.hid (((HZ2.out.set 0 (.int .i64 0) (show 0 < 2 by decide)).set 1 (.slice none 0 0) (show 1 < 2 by decide)))
        have q0 := HOUT.out.at_ 0 _ rfl
        have q1 := HOUT.out.at_ 1 _ rfl
        go_wp2_with fail
        refine bodyPost_ret (v := .tuple #[.agg #[.int .i64 0, .slice none 0 0], .iface 26 (.int .i64 3)]) (by simp [results, Tryd.results18, go_sem, q0, q1] <;> rfl) rfl ?_
        exact ⟨_, _, by rw [HDE.out]; rfl, by rw [HDV.out (by rw [HDE.out]; decide)]; exact progAt_zero _, HBO.out _ _⟩
      · have hk1 : ((k : Int) != 80) = true := by simp; omega
        have hk2 : (k : Int) ≠ 80 := by omega
        have z0 := HZ2.out.at_ 0 _ rfl
        have z1 := HZ2.out.at_ 1 _ rfl
        have y0 := HZ2.out.free 0
        have y1 := HZ2.out.free 1
        have HOUT := Lib.hid (((HZ2.out.set 0 (.int .i64 0) (show 0 < 2 by decide)).set 1 (.slice none 0 0) (show 1 < 2 by decide)))
        have q0 := HOUT.out.at_ 0 _ rfl
        have q1 := HOUT.out.at_ 1 _ rfl
        go_wp2_with fail
        refine bodyPost_ret (v := .tuple #[.agg #[.int .i64 0, .slice none 0 0], .iface 26 (.int .i64 3)]) (by simp [results, Tryd.results18, go_sem, q0, q1] <;> rfl) rfl ?_
        exact ⟨_, _, by rw [HDE.out]; rfl, by rw [HDV.out (by rw [HDE.out]; decide)]; exact progAt_zero _, HBO.out _ _⟩
    | cons first rest =>
      obtain ⟨tg, body0⟩ := first
      obtain ⟨ao, n, cap, rfl, hn, hnc, hcm, hx, htags⟩ := hpa
      have hn0 : 0 < n := by rw [hn]; exact Nat.succ_pos _
      have HN : Hid (n = rest.length + 1) := Lib.hid hn
      obtain ⟨b, o, rfl, hbl, hcell⟩ := hx hn0
      obtain ⟨hc0, hc1⟩ := hcell 0 hn0
      rw [Nat.zero_mul, Nat.add_zero] at hc0 hc1
      have hc0' : w2.cell? ⟨b, o, none⟩ = some (.int .u8 (tg : Nat)) := hc0
      have hc1' : w2.cell? ⟨b, o + 1, none⟩ = some (.string body0) := hc1
      have htg : tg < 256 := htags _ List.mem_cons_self
      have hni : ((n : Int) == 0) = false := by rw [beq_eq_false_iff_ne]; omega
      have hnd : decide ((n : Int) = 0) = false := decide_eq_false (by omega)
      have hne : decide (n = 0) = false := decide_eq_false (by omega)
      have hnf : (n == 0) = false := by rw [beq_eq_false_iff_ne]; omega
      have hi0 : (0 : Int) < (n : Int) := by omega
      unfold maxLen at hcm
      clear hc0 hc1 hcell hx hn htags HR9
      by_cases hk : k = 80
      · subst hk
        by_cases ht : tg = 97
        · subst ht
          by_cases hl : 12 < rest.length
          · have HDE : Hid (decE 0 80 ((97, body0) :: rest) = 4) := Lib.hid (decE_long ⟨rfl, rfl⟩ hl)
            have hl1 : IntKind.i64.wrap ((n : Int) - 1) = (n : Int) - 1 := IntWalk.i64_in _ (by omega)
            have hl2 : (12 : Int) < (n : Int) - 1 := by have := HN.out; omega
            clear hl
            have z0 := HZ2.out.at_ 0 _ rfl
            have z1 := HZ2.out.at_ 1 _ rfl
            have y0 := HZ2.out.free 0
            have y1 := HZ2.out.free 1
            have HOUT := Lib.hid (((HZ2.out.set 0 (.int .i64 0) (show 0 < 2 by decide)).set 1 (.slice none 0 0) (show 1 < 2 by decide)))
            have q0 := HOUT.out.at_ 0 _ rfl
            have q1 := HOUT.out.at_ 1 _ rfl
            go_wp2_with fail
            refine bodyPost_ret (v := .tuple #[.agg #[.int .i64 0, .slice none 0 0], .iface 26 (.int .i64 4)]) (by simp [results, Tryd.results18, go_sem, q0, q1] <;> rfl) rfl ?_
            exact ⟨_, _, by rw [HDE.out]; rfl, by rw [HDV.out (by rw [HDE.out]; decide)]; exact progAt_zero _, HBO.out _ _⟩
          · have HDE : Hid (decE 0 80 ((97, body0) :: rest) = if (rdParts (97, body0) rest).2 = 0 then progE (rdParts (97, body0) rest).1 else (rdParts (97, body0) rest).2) := Lib.hid (decE_ok ⟨rfl, rfl⟩ hl)
            have hl2 : ¬ (12 : Int) < (n : Int) - 1 := by have := HN.out; omega
            have HGD : Hid (body0.size ≤ 60000 ∧ Small rest) := Lib.hid (by
              have hg := (HOO.out.good rfl hs).1.2.1
              exact ⟨hg _ List.mem_cons_self, fun q hq => hg q (List.mem_cons_of_mem _ hq)⟩)
            have HPT := Lib.hid (parts_tail HPA.out)
            have HC : Hid (∀ V, Below w2.heap.size w2 V → V.cell? ⟨b, o, none⟩ = some (.int .u8 (97 : Nat)) ∧ V.cell? ⟨b, o + 1, none⟩ = some (.string body0)) := Lib.hid fun V hV => ⟨by rw [hV.cell (p := ⟨b, o, none⟩) hbl]; exact hc0', by rw [hV.cell (p := ⟨b, o + 1, none⟩) hbl]; exact hc1'⟩
            have HL12 : Hid (rest.length ≤ 12) := Lib.hid (by omega)
            have hbb : Below w2.heap.size w2 w2 := Below.refl _ _
            clear hl
            by_cases hcap : cap = 1
            · obtain rfl : n = 1 := by omega
              subst hcap
              have HPT1 : Hid (PartsAt w2 (.slice (some ⟨b, o, none⟩) 0 0) rest) := Lib.hid (by
                have h0 : rest = [] := List.eq_nil_of_length_eq_zero (by have := HN.out; omega)
                rw [h0]
                exact ⟨_, _, _, rfl, rfl, Nat.le_refl _, Nat.zero_le _, fun h => absurd h (Nat.lt_irrefl _), fun q hq => (by cases hq)⟩)
              have HPC := Lib.hid (partC (first := (97, body0)) (show 97 < 256 by decide) HGD.out.1 HPT1.out HGD.out.2 HL12.out)
              unfold PartC at HPC
              clear hnc hcm hn0 hni hnd hne hnf hi0 hl2 htg
              have hl3 : ¬ (12 : Int) < (1 : Int) - 1 := by decide
              go_upto_region 8 with fail
              go_cut [6, 7] from 40 to 48 (fun v6 v7 wx => ReadJ w2 (97, body0) rest v6 v7 wx)
              case first =>
                go_region_held3 (fun V : World => V.cell? ⟨b, o, none⟩ = some (.int .u8 (97 : Nat)) ∧ V.cell? ⟨b, o + 1, none⟩ = some (.string body0)) (first | exact HC.out _ (by assumption) | exact HC.out _ (Below.drew (by assumption)) | exact HC.out _ (hv1.alloc hv1.size _) | exact HC.out _ ((hv1.setCell (p := ⟨w2.heap.size, 0, none⟩) (Nat.le_refl _) _).setCell (p := ⟨w2.heap.size, 1, none⟩) (Nat.le_refl _) _) | go_keep)
                  ((first | (go_at_call 40; refine (HPC.out _ ?_).mono ?_; (first | assumption | exact Below.drew (by assumption) | exact (Below.drew hbb).alloc (Nat.le_refl _) _); rintro e V1 ⟨g, vf, rfl, fs, hfs, himp, hvl, hv1⟩; have HFS := Lib.hid hfs; obtain ⟨a9, n9, c9, hv9, -⟩ := hfs _ (Keeps.refl _ _); subst hv9; have HVL := Lib.hid hvl; clear hvl; (try (have hbk := (BlkO.new w2.drew #[.int .i64 0, .slice none 0 0] 24).below HVL.out; have ba0 : V1.cell? ⟨w2.heap.size, 0, none⟩ = some (.int .i64 0) := hbk.at_ 0 _ rfl; have ba1 : V1.cell? ⟨w2.heap.size, 1, none⟩ = some (.slice none 0 0) := hbk.at_ 1 _ rfl; have bf0 : V1.frozen? ⟨w2.heap.size, 0, none⟩ = false := hbk.free 0; have bf1 : V1.frozen? ⟨w2.heap.size, 1, none⟩ = false := hbk.free 1; have HBK := Lib.hid hbk; clear hbk)))))
                all_goals go_wp2_with fail
                all_goals go_meet
                · have hcz : ∀ j v, [Value.int .i64 g, .slice a9 n9 c9][j]? = some v → (V1.alloc (.cells #[.int .i64 g, .slice a9 n9 c9] 24)).cell? ⟨V1.heap.size, j, none⟩ = some v := fun j v hj => (cell_of_row _ _ _ _ _ _ (heap_alloc_new _ _)).trans (by simpa using hj)
                  exact ⟨_, _, _, rfl, rfl, hcz 0 _ rfl, hcz 1 _ rfl, hv1.alloc hv1.size _, fs, fun W' hW' => HFS.out _ (((Keeps.refl _ _).alloc _).trans (hW'.mono fun b _ e => Nat.lt_of_lt_of_le e (by simp))), himp⟩
                · have hbz := (HBK.out.set 0 (.int .i64 g) (show 0 < 2 by decide)).set 1 (.slice a9 n9 c9) (show 1 < 2 by decide)
                  exact ⟨_, _, _, rfl, rfl, hbz.at_ 0 _ rfl, hbz.at_ 1 _ rfl, (hv1.setCell (p := ⟨w2.heap.size, 0, none⟩) (Nat.le_refl _) _).setCell (p := ⟨w2.heap.size, 1, none⟩) (Nat.le_refl _) _, fs,
                    fun W' hW' => HFS.out _ ((((own_set _ w2.heap.size 0 _).trans (own_set _ w2.heap.size 1 _)).mono fun b _ e => (by have h9 : b = w2.heap.size := e; rw [h9]; simp)).trans (hW'.mono fun b _ e => Nat.lt_of_lt_of_le e (by simp))), himp⟩
              case rest =>
                rename World => w3
                obtain ⟨qb, g, vf, rfl, rfl, p0, p1, hb3, fs, hfs, himp⟩ := hcut
                have HFS := Lib.hid hfs
                have HB3 := Lib.hid hb3
                obtain ⟨a9, n9, c9, hvf, -⟩ := hfs _ (Keeps.refl _ _)
                subst hvf
                have HZ3 := Lib.hid (HZ2.out.below hb3)
                have HBO3 : Hid (∀ W u u', Below w3.heap.size w3 W → Below w.heap.size w ((W.setCell ⟨zb, 0, none⟩ u).setCell ⟨zb, 1, none⟩ u')) := Lib.hid fun W u u' hW =>
                  ((HAL.out.trans (HB2.out.mono HAL.out.size)).trans ((HB3.out.trans (hW.mono HB3.out.size)).mono (Nat.le_trans HAL.out.size HB2.out.size))).setCell (p := ⟨zb, 0, none⟩) (Nat.le_of_eq HZB.out) u |>.setCell (p := ⟨zb, 1, none⟩) (Nat.le_of_eq HZB.out) u'
                have HIMP := Lib.hid himp
                clear hfs hb3 himp hb2 hc0' hc1' hbl
                by_cases hE : (rdParts (97, body0) rest).2 = 0
                · have HV : Hid ((rdParts (97, body0) rest).1 = ⟨g, fs⟩) := Lib.hid (HIMP.out hE)
                  have HDE2 : Hid (decE 0 80 ((97, body0) :: rest) = progE ⟨g, fs⟩) := Lib.hid (by rw [HDE.out, if_pos hE, HV.out])
                  have HRT := Lib.hid (right_any ⟨g, fs⟩ _ w3 ⟨_, rfl, HFS.out _ (Keeps.refl _ _)⟩)
                  rw [hE, errV_0]
                  clear hE HDE
                  go_wp2_with fail
                  refine HRT.out.mono ?_
                  rintro e w4 ⟨rfl, hb4⟩
                  have HB4 := Lib.hid hb4
                  have HZ4 := Lib.hid (HZ3.out.below hb4)
                  have HZL : Hid (zb < w2.heap.size) := Lib.hid HZ2.out.lt
                  have p0' : w4.cell? ⟨qb, 0, none⟩ = some (.int .i64 g) := (Keeps.of_new (S := fun _ => False) hb4).cell_of p0 id
                  have p1' : w4.cell? ⟨qb, 1, none⟩ = some (.slice a9 n9 c9) := (Keeps.of_new (S := fun _ => False) hb4).cell_of p1 id
                  clear hb4 p0 p1 HRT
                  by_cases hP : progE ⟨g, fs⟩ = 0
                  · have HPZ := Lib.hid hP
                    rw [hP, errV_0]
                    clear hP
                    have z0 := HZ4.out.at_ 0 _ rfl
                    have z1 := HZ4.out.at_ 1 _ rfl
                    have y0 := HZ4.out.free 0
                    have y1 := HZ4.out.free 1
                    have HOUT := Lib.hid (((HZ4.out.set 0 (.int .i64 g) (show 0 < 2 by decide)).set 1 (.slice a9 n9 c9) (show 1 < 2 by decide)))
                    have q0 := HOUT.out.at_ 0 _ rfl
                    have q1 := HOUT.out.at_ 1 _ rfl
                    go_wp2_with fail
                    refine bodyPost_ret (v := .tuple #[.agg #[.int .i64 g, .slice a9 n9 c9], .nilIface]) (by simp [results, Tryd.results18, go_sem, q0, q1] <;> rfl) rfl ?_
                    have hk4 : Keeps (fun b => b < w2.heap.size) w3 ((w4.setCell ⟨zb, 0, none⟩ (.int .i64 g)).setCell ⟨zb, 1, none⟩ (.slice a9 n9 c9)) := ((Keeps.of_new HB4.out).setCell (p := ⟨zb, 0, none⟩) (Or.inl HZL.out) _).setCell (p := ⟨zb, 1, none⟩) (Or.inl HZL.out) _
                    exact ⟨_, _, by rw [HDE2.out, HPZ.out]; rfl, by
                      rw [decV_ok (by rw [HDE2.out]; exact HPZ.out), HV.out]
                      exact ⟨_, rfl, HFS.out _ hk4⟩, HBO3.out _ _ _ HB4.out⟩
                  · have HPZ := Lib.hid hP
                    rw [errV_nz hP]
                    clear hP
                    have z0 := HZ4.out.at_ 0 _ rfl
                    have z1 := HZ4.out.at_ 1 _ rfl
                    have y0 := HZ4.out.free 0
                    have y1 := HZ4.out.free 1
                    have HOUT := Lib.hid (((HZ4.out.set 0 (.int .i64 0) (show 0 < 2 by decide)).set 1 (.slice none 0 0) (show 1 < 2 by decide)))
                    have q0 := HOUT.out.at_ 0 _ rfl
                    have q1 := HOUT.out.at_ 1 _ rfl
                    go_wp2_with fail
                    refine bodyPost_ret (v := .tuple #[.agg #[.int .i64 0, .slice none 0 0], .iface 26 (.int .i64 (progE ⟨g, fs⟩ : Nat))]) (by simp [results, Tryd.results18, go_sem, q0, q1] <;> rfl) rfl ?_
                    exact ⟨_, _, by rw [HDE2.out, errV_nz HPZ.out], by rw [HDV.out (by rw [HDE2.out]; exact HPZ.out)]; exact progAt_zero _, HBO3.out _ _ _ HB4.out⟩
                · have HDE2 : Hid (decE 0 80 ((97, body0) :: rest) = (rdParts (97, body0) rest).2 ∧ (rdParts (97, body0) rest).2 ≠ 0) := Lib.hid ⟨by rw [HDE.out, if_neg hE], hE⟩
                  rw [errV_nz hE]
                  clear hE HDE
                  have z0 := HZ3.out.at_ 0 _ rfl
                  have z1 := HZ3.out.at_ 1 _ rfl
                  have y0 := HZ3.out.free 0
                  have y1 := HZ3.out.free 1
                  have HOUT := Lib.hid (((HZ3.out.set 0 (.int .i64 0) (show 0 < 2 by decide)).set 1 (.slice none 0 0) (show 1 < 2 by decide)))
                  have q0 := HOUT.out.at_ 0 _ rfl
                  have q1 := HOUT.out.at_ 1 _ rfl
                  go_wp2_with fail
                  refine bodyPost_ret (v := .tuple #[.agg #[.int .i64 0, .slice none 0 0], .iface 26 (.int .i64 ((rdParts (97, body0) rest).2 : Nat))]) (by simp [results, Tryd.results18, go_sem, q0, q1] <;> rfl) rfl ?_
                  exact ⟨_, _, by rw [HDE2.out.1, errV_nz HDE2.out.2], by rw [HDV.out (by rw [HDE2.out.1]; exact HDE2.out.2)]; exact progAt_zero _, HBO3.out _ _ _ (Below.refl _ _)⟩
            · have HPC := Lib.hid (partC (first := (97, body0)) (show 97 < 256 by decide) HGD.out.1 HPT.out HGD.out.2 HL12.out)
              unfold PartC at HPC
              have hq1 : ¬ cap - 1 = 0 := by omega
              have hq2 : (1 : Int) ≤ (n : Int) := by omega
              have hq3 : (1 : Int) ≤ (cap : Int) := by omega
              have hq4 : 1 ≤ n := by omega
              have hq5 : 1 ≤ cap := by omega
              go_upto_region 8 with fail
              go_cut [6, 7] from 40 to 48 (fun v6 v7 wx => ReadJ w2 (97, body0) rest v6 v7 wx)
              case first =>
                go_region_held3 (fun V : World => V.cell? ⟨b, o, none⟩ = some (.int .u8 (97 : Nat)) ∧ V.cell? ⟨b, o + 1, none⟩ = some (.string body0)) (first | exact HC.out _ (by assumption) | exact HC.out _ (Below.drew (by assumption)) | exact HC.out _ (hv1.alloc hv1.size _) | exact HC.out _ ((hv1.setCell (p := ⟨w2.heap.size, 0, none⟩) (Nat.le_refl _) _).setCell (p := ⟨w2.heap.size, 1, none⟩) (Nat.le_refl _) _) | go_keep)
                  ((first | (go_at_call 40; refine (HPC.out _ ?_).mono ?_; (first | assumption | exact Below.drew (by assumption) | exact (Below.drew hbb).alloc (Nat.le_refl _) _); rintro e V1 ⟨g, vf, rfl, fs, hfs, himp, hvl, hv1⟩; have HFS := Lib.hid hfs; obtain ⟨a9, n9, c9, hv9, -⟩ := hfs _ (Keeps.refl _ _); subst hv9; have HVL := Lib.hid hvl; clear hvl; (try (have hbk := (BlkO.new w2.drew #[.int .i64 0, .slice none 0 0] 24).below HVL.out; have ba0 : V1.cell? ⟨w2.heap.size, 0, none⟩ = some (.int .i64 0) := hbk.at_ 0 _ rfl; have ba1 : V1.cell? ⟨w2.heap.size, 1, none⟩ = some (.slice none 0 0) := hbk.at_ 1 _ rfl; have bf0 : V1.frozen? ⟨w2.heap.size, 0, none⟩ = false := hbk.free 0; have bf1 : V1.frozen? ⟨w2.heap.size, 1, none⟩ = false := hbk.free 1; have HBK := Lib.hid hbk; clear hbk)))))
                all_goals go_wp2_with fail
                all_goals go_meet
                · have hcz : ∀ j v, [Value.int .i64 g, .slice a9 n9 c9][j]? = some v → (V1.alloc (.cells #[.int .i64 g, .slice a9 n9 c9] 24)).cell? ⟨V1.heap.size, j, none⟩ = some v := fun j v hj => (cell_of_row _ _ _ _ _ _ (heap_alloc_new _ _)).trans (by simpa using hj)
                  exact ⟨_, _, _, rfl, rfl, hcz 0 _ rfl, hcz 1 _ rfl, hv1.alloc hv1.size _, fs, fun W' hW' => HFS.out _ (((Keeps.refl _ _).alloc _).trans (hW'.mono fun b _ e => Nat.lt_of_lt_of_le e (by simp))), himp⟩
                · have hbz := (HBK.out.set 0 (.int .i64 g) (show 0 < 2 by decide)).set 1 (.slice a9 n9 c9) (show 1 < 2 by decide)
                  exact ⟨_, _, _, rfl, rfl, hbz.at_ 0 _ rfl, hbz.at_ 1 _ rfl, (hv1.setCell (p := ⟨w2.heap.size, 0, none⟩) (Nat.le_refl _) _).setCell (p := ⟨w2.heap.size, 1, none⟩) (Nat.le_refl _) _, fs,
                    fun W' hW' => HFS.out _ ((((own_set _ w2.heap.size 0 _).trans (own_set _ w2.heap.size 1 _)).mono fun b _ e => (by have h9 : b = w2.heap.size := e; rw [h9]; simp)).trans (hW'.mono fun b _ e => Nat.lt_of_lt_of_le e (by simp))), himp⟩
              case rest =>
                rename World => w3
                obtain ⟨qb, g, vf, rfl, rfl, p0, p1, hb3, fs, hfs, himp⟩ := hcut
                have HFS := Lib.hid hfs
                have HB3 := Lib.hid hb3
                obtain ⟨a9, n9, c9, hvf, -⟩ := hfs _ (Keeps.refl _ _)
                subst hvf
                have HZ3 := Lib.hid (HZ2.out.below hb3)
                have HBO3 : Hid (∀ W u u', Below w3.heap.size w3 W → Below w.heap.size w ((W.setCell ⟨zb, 0, none⟩ u).setCell ⟨zb, 1, none⟩ u')) := Lib.hid fun W u u' hW =>
                  ((HAL.out.trans (HB2.out.mono HAL.out.size)).trans ((HB3.out.trans (hW.mono HB3.out.size)).mono (Nat.le_trans HAL.out.size HB2.out.size))).setCell (p := ⟨zb, 0, none⟩) (Nat.le_of_eq HZB.out) u |>.setCell (p := ⟨zb, 1, none⟩) (Nat.le_of_eq HZB.out) u'
                have HIMP := Lib.hid himp
                clear hfs hb3 himp hb2 hc0' hc1' hbl
                by_cases hE : (rdParts (97, body0) rest).2 = 0
                · have HV : Hid ((rdParts (97, body0) rest).1 = ⟨g, fs⟩) := Lib.hid (HIMP.out hE)
                  have HDE2 : Hid (decE 0 80 ((97, body0) :: rest) = progE ⟨g, fs⟩) := Lib.hid (by rw [HDE.out, if_pos hE, HV.out])
                  have HRT := Lib.hid (right_any ⟨g, fs⟩ _ w3 ⟨_, rfl, HFS.out _ (Keeps.refl _ _)⟩)
                  rw [hE, errV_0]
                  clear hE HDE
                  go_wp2_with fail
                  refine HRT.out.mono ?_
                  rintro e w4 ⟨rfl, hb4⟩
                  have HB4 := Lib.hid hb4
                  have HZ4 := Lib.hid (HZ3.out.below hb4)
                  have HZL : Hid (zb < w2.heap.size) := Lib.hid HZ2.out.lt
                  have p0' : w4.cell? ⟨qb, 0, none⟩ = some (.int .i64 g) := (Keeps.of_new (S := fun _ => False) hb4).cell_of p0 id
                  have p1' : w4.cell? ⟨qb, 1, none⟩ = some (.slice a9 n9 c9) := (Keeps.of_new (S := fun _ => False) hb4).cell_of p1 id
                  clear hb4 p0 p1 HRT
                  by_cases hP : progE ⟨g, fs⟩ = 0
                  · have HPZ := Lib.hid hP
                    rw [hP, errV_0]
                    clear hP
                    have z0 := HZ4.out.at_ 0 _ rfl
                    have z1 := HZ4.out.at_ 1 _ rfl
                    have y0 := HZ4.out.free 0
                    have y1 := HZ4.out.free 1
                    have HOUT := Lib.hid (((HZ4.out.set 0 (.int .i64 g) (show 0 < 2 by decide)).set 1 (.slice a9 n9 c9) (show 1 < 2 by decide)))
                    have q0 := HOUT.out.at_ 0 _ rfl
                    have q1 := HOUT.out.at_ 1 _ rfl
                    go_wp2_with fail
                    refine bodyPost_ret (v := .tuple #[.agg #[.int .i64 g, .slice a9 n9 c9], .nilIface]) (by simp [results, Tryd.results18, go_sem, q0, q1] <;> rfl) rfl ?_
                    have hk4 : Keeps (fun b => b < w2.heap.size) w3 ((w4.setCell ⟨zb, 0, none⟩ (.int .i64 g)).setCell ⟨zb, 1, none⟩ (.slice a9 n9 c9)) := ((Keeps.of_new HB4.out).setCell (p := ⟨zb, 0, none⟩) (Or.inl HZL.out) _).setCell (p := ⟨zb, 1, none⟩) (Or.inl HZL.out) _
                    exact ⟨_, _, by rw [HDE2.out, HPZ.out]; rfl, by
                      rw [decV_ok (by rw [HDE2.out]; exact HPZ.out), HV.out]
                      exact ⟨_, rfl, HFS.out _ hk4⟩, HBO3.out _ _ _ HB4.out⟩
                  · have HPZ := Lib.hid hP
                    rw [errV_nz hP]
                    clear hP
                    have z0 := HZ4.out.at_ 0 _ rfl
                    have z1 := HZ4.out.at_ 1 _ rfl
                    have y0 := HZ4.out.free 0
                    have y1 := HZ4.out.free 1
                    have HOUT := Lib.hid (((HZ4.out.set 0 (.int .i64 0) (show 0 < 2 by decide)).set 1 (.slice none 0 0) (show 1 < 2 by decide)))
                    have q0 := HOUT.out.at_ 0 _ rfl
                    have q1 := HOUT.out.at_ 1 _ rfl
                    go_wp2_with fail
                    refine bodyPost_ret (v := .tuple #[.agg #[.int .i64 0, .slice none 0 0], .iface 26 (.int .i64 (progE ⟨g, fs⟩ : Nat))]) (by simp [results, Tryd.results18, go_sem, q0, q1] <;> rfl) rfl ?_
                    exact ⟨_, _, by rw [HDE2.out, errV_nz HPZ.out], by rw [HDV.out (by rw [HDE2.out]; exact HPZ.out)]; exact progAt_zero _, HBO3.out _ _ _ HB4.out⟩
                · have HDE2 : Hid (decE 0 80 ((97, body0) :: rest) = (rdParts (97, body0) rest).2 ∧ (rdParts (97, body0) rest).2 ≠ 0) := Lib.hid ⟨by rw [HDE.out, if_neg hE], hE⟩
                  rw [errV_nz hE]
                  clear hE HDE
                  have z0 := HZ3.out.at_ 0 _ rfl
                  have z1 := HZ3.out.at_ 1 _ rfl
                  have y0 := HZ3.out.free 0
                  have y1 := HZ3.out.free 1
                  have HOUT := Lib.hid (((HZ3.out.set 0 (.int .i64 0) (show 0 < 2 by decide)).set 1 (.slice none 0 0) (show 1 < 2 by decide)))
                  have q0 := HOUT.out.at_ 0 _ rfl
                  have q1 := HOUT.out.at_ 1 _ rfl
                  go_wp2_with fail
                  refine bodyPost_ret (v := .tuple #[.agg #[.int .i64 0, .slice none 0 0], .iface 26 (.int .i64 ((rdParts (97, body0) rest).2 : Nat))]) (by simp [results, Tryd.results18, go_sem, q0, q1] <;> rfl) rfl ?_
                  exact ⟨_, _, by rw [HDE2.out.1, errV_nz HDE2.out.2], by rw [HDV.out (by rw [HDE2.out.1]; exact HDE2.out.2)]; exact progAt_zero _, HBO3.out _ _ _ (Below.refl _ _)⟩
        · have ht1 : ((tg : Int) != 97) = true := by simp; omega
          have ht2 : (tg : Int) ≠ 97 := by omega
          have HDE : Hid (decE 0 80 ((tg, body0) :: rest) = 3) := Lib.hid (decE_form fun f r h hc => by
            cases h
            exact ht hc.2)
          clear ht
          have z0 := HZ2.out.at_ 0 _ rfl
          have z1 := HZ2.out.at_ 1 _ rfl
          have y0 := HZ2.out.free 0
          have y1 := HZ2.out.free 1
          have HOUT := Lib.hid (((HZ2.out.set 0 (.int .i64 0) (show 0 < 2 by decide)).set 1 (.slice none 0 0) (show 1 < 2 by decide)))
          have q0 := HOUT.out.at_ 0 _ rfl
          have q1 := HOUT.out.at_ 1 _ rfl
          go_wp2_with fail
          refine bodyPost_ret (v := .tuple #[.agg #[.int .i64 0, .slice none 0 0], .iface 26 (.int .i64 3)]) (by simp [results, Tryd.results18, go_sem, q0, q1] <;> rfl) rfl ?_
          exact ⟨_, _, by rw [HDE.out]; rfl, by rw [HDV.out (by rw [HDE.out]; decide)]; exact progAt_zero _, HBO.out _ _⟩
      · have hk1 : ((k : Int) != 80) = true := by simp; omega
        have hk2 : (k : Int) ≠ 80 := by omega
        have HDE : Hid (decE 0 k ((tg, body0) :: rest) = 3) := Lib.hid (decE_form fun f r h hc => hk hc.1)
        clear hk
        have z0 := HZ2.out.at_ 0 _ rfl
        have z1 := HZ2.out.at_ 1 _ rfl
        have y0 := HZ2.out.free 0
        have y1 := HZ2.out.free 1
        have HOUT := Lib.hid (((HZ2.out.set 0 (.int .i64 0) (show 0 < 2 by decide)).set 1 (.slice none 0 0) (show 1 < 2 by decide)))
        have q0 := HOUT.out.at_ 0 _ rfl
        have q1 := HOUT.out.at_ 1 _ rfl
        go_wp2_with fail
        refine bodyPost_ret (v := .tuple #[.agg #[.int .i64 0, .slice none 0 0], .iface 26 (.int .i64 3)]) (by simp [results, Tryd.results18, go_sem, q0, q1] <;> rfl) rfl ?_
        exact ⟨_, _, by rw [HDE.out]; rfl, by rw [HDV.out (by rw [HDE.out]; decide)]; exact progAt_zero _, HBO.out _ _⟩
  · have HDE : Hid (decE re k ps = re ∧ re ≠ 0) := Lib.hid ⟨decE_bad h0, h0⟩
    obtain ⟨ao, n, cap, rfl, -, -, -, -, -⟩ := hpa
    rw [errV_nz h0]
    clear h0 HR9 hb2
    have z0 := HZ2.out.at_ 0 _ rfl
    have z1 := HZ2.out.at_ 1 _ rfl
    have y0 := HZ2.out.free 0
    have y1 := HZ2.out.free 1
    have HOUT := Lib.hid (((HZ2.out.set 0 (.int .i64 0) (show 0 < 2 by decide)).set 1 (.slice none 0 0) (show 1 < 2 by decide)))
    have q0 := HOUT.out.at_ 0 _ rfl
    have q1 := HOUT.out.at_ 1 _ rfl
    go_wp2_with fail
    refine bodyPost_ret (v := .tuple #[.agg #[.int .i64 0, .slice none 0 0], .iface 26 (.int .i64 re)]) (by simp [results, Tryd.results18, go_sem, q0, q1] <;> rfl) rfl ?_
    exact ⟨_, _, by rw [HDE.out.1, errV_nz HDE.out.2], by rw [HDV.out (by rw [HDE.out.1]; exact HDE.out.2)]; exact progAt_zero _, HBO.out _ _⟩
end Go.Proofs.YtjdihgmngiplkaaDoor
