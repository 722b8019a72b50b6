/-
  Texts of one proof, in build order: The walk of the law RoomBalance. | What the listed variable errors.errorType gives the walks. | What the listed variable errors.errorType, listed alone, gives the walks.
-/
import Derived.Test.YtnjdmijcoadidaaGreatDoorR7
import Derived.Test.YtnjdmijcoadidaaGreatDoorTie
import Derived.LaidMore
import Derived.Lib.LaidTab
namespace Go.Proofs.YtnjdmijcoadidaaGreatDoor
open Go.RowKit Go.Maps Pp

/-- A row of counts. -/
structure CntAt (w : World) (cb n : Nat) (cnt : List Int) : Prop where
  len : cnt.length = n
  own : w.ownsRow cb 3 1 (.slice (some ⟨cb, 0, none⟩) n n) n (cnt.map (.int .i64))
theorem CntAt.cell {w : World} {cb n : Nat} {cnt : List Int} (h : CntAt w cb n cnt) {c : Nat} (hc : c < n) : w.cell? ⟨cb, c, none⟩ = some (.int .i64 (cnt.getD c 0)) ∧ w.frozen? ⟨cb, c, none⟩ = false := by
  refine ⟨?_, ?_⟩
  · have h5 := World.ownsRow.cells h.own (g := cb) rfl c _ (ints_at (by rw [h.len]; exact hc))
    rw [addr_addP, Nat.zero_add] at h5
    exact h5
  · rcases h.own.2 with ⟨q, _⟩ | ⟨g, c9, cur, q, _, hg9, _⟩
    · cases q
    · cases q
      exact frozen_of_row w _ _ _ _ hg9
theorem CntAt.set {w : World} {cb n : Nat} {cnt : List Int} (h : CntAt w cb n cnt) (c : Nat) (x : Int) : CntAt (w.setCell ⟨cb, c, none⟩ (.int .i64 x)) cb n (cnt.set c x) := by
  refine ⟨by rw [List.length_set]; exact h.len, ?_⟩
  have h5 := own_setG (off := c) h.own (.int .i64 x)
  rw [← List.map_set] at h5
  exact h5
theorem CntAt.keeps {S : Nat → Prop} {w w' : World} {cb n : Nat} {cnt : List Int} (h : CntAt w cb n cnt) (hk : Keeps S w w') (hS : ¬ S cb) : CntAt w' cb n cnt :=
  ⟨h.len, hk.row h.own fun b hb e => by
    have e2 : cb = b := by injection hb
    rw [e2] at hS; exact hS e⟩
theorem bal_le (c : Int) : ∀ l : List Rm.Ev, Rm.bal c l ≤ (l.length : Int)
  | [] => Int.le_refl _
  | e :: l => by
    have := bal_le c l
    show Rm.balE c e + Rm.bal c l ≤ _
    have h1 : Rm.balE c e ≤ 1 := by
      unfold Rm.balE
      split
      · split
        · omega
        · split <;> omega
      · omega
    simp only [List.length_cons]
    omega
theorem takeE_snoc {l : List Rm.Ev} {i : Nat} {e : Rm.Ev} (hx : l[i]? = some e) : l.take (i + 1) = l.take i ++ [e] := by
  rw [List.take_add_one, hx]; rfl
/-- What a channel's count is behind one more event. -/
theorem bal_step {l : List Rm.Ev} {i : Nat} {e : Rm.Ev} (hx : l[i]? = some e) (c : Int) : Rm.bal c (l.take (i + 1)) = Rm.bal c (l.take i) + Rm.balE c e := by
  rw [takeE_snoc hx, Rm.bal_append]
  show _ = _
  show Rm.bal c (l.take i) + (Rm.balE c e + 0) = _
  omega
def Counts (cnt : List Int) (n : Nat) (l : List Rm.Ev) : Prop := ∀ c : Nat, c < n → cnt.getD c 0 = Rm.bal (c : Int) l
theorem getD_set0 (l : List Int) (t i : Nat) (x : Int) (ht : t < l.length) : (l.set t x).getD i 0 = if i = t then x else l.getD i 0 := by
  rw [List.getD_eq_getElem?_getD, List.getElem?_set]
  by_cases e : t = i
  · subst e; simp [ht]
  · rw [if_neg e, if_neg (fun h => e h.symm), List.getD_eq_getElem?_getD]
theorem Counts.step {cnt : List Int} {n : Nat} {l : List Rm.Ev} {i : Nat} {e : Rm.Ev} (h : Counts cnt n (l.take i)) (hl : cnt.length = n) (hx : l[i]? = some e) {c : Nat} (ho : e.obj = (c : Int)) (hc : c < n) {y : Int} (hy : y = cnt.getD c 0 + Rm.balE (c : Int) e) : Counts (cnt.set c y) n (l.take (i + 1)) := fun k hk => by
  rw [getD_set0 _ _ _ _ (by omega), bal_step hx]
  by_cases e1 : k = c
  · rw [if_pos e1, e1, hy, h c hc]
  · rw [if_neg e1, h k hk]
    unfold Rm.balE
    rw [if_neg (by omega)]
    omega
theorem Counts.other {cnt : List Int} {n : Nat} {l : List Rm.Ev} {i : Nat} {e : Rm.Ev} (h : Counts cnt n (l.take i)) (hx : l[i]? = some e) (h2 : e.what ≠ 2) (h3 : e.what ≠ 3) : Counts cnt n (l.take (i + 1)) := fun k hk => by
  rw [bal_step hx, h k hk]
  unfold Rm.balE
  rw [if_neg h2, if_neg h3]
  split <;> omega
set_option maxRecDepth 100000 in
set_option maxHeartbeats 12800000 in
theorem roomBalance_any (v1 : Value) (Sc : List (List Rm.Ask)) (g : Int) (v3 : Value) (pl : List (Int × Int)) (w : World) (h1 : ScRaw w v1 Sc) (_g0 : -9223372036854775808 ≤ g) (_g1 : g ≤ 9223372036854775807) (h3 : PicksAt w v3 pl ∧ PicksWf pl) (hE : ErrT w) :
    Calls Tryz.prog 8 #[v1, .int .i64 g, v3] w fun e w' => e = .returned (.bool true) ∧ Below w.heap.size w w' := by
  have H1 := Lib.hid h1
  have H3 := Lib.hid h3
  have HE := Lib.hid hE
  clear h1 h3 hE
  go_enter Tryz.func8, Tryz.ntmps8
  go_wp2_with fail
  refine (roomed_any w HE.out).mono ?_
  rintro e w1 ⟨rfl, hb1⟩
  have HB1 := Lib.hid hb1
  clear hb1
  go_wp2_with fail
  refine (opened_any HB1.out H1.out H3.out.1 g).mono ?_
  rintro e w2 ho
  cases ho with
  | none he hb =>
    have HB := Lib.hid (HB1.out.trans (hb.mono HB1.out.size))
    subst he
    clear hb
    go_wp2_with fail
    go_ret
    exact ⟨rfl, HB.out⟩
  | some C rb τ hD he hT hA hb hf h6 hp =>
    subst he
    have hin : Rm.BI (Rm.play C.D (Rm.start (pyDoer Sc) (pickN g 9) py0) pl).1 := by
      rw [hD]; exact Rm.BI.play pl hA.inv (Rm.BI.start _ _)
    have hA1 := hA.play C.bd pl
    have hP := play_open hT hA HE.out H3.out.1 H3.out.2 (by omega) (by omega)
    obtain ⟨s1, hs1⟩ : ∃ s1, s1 = (Rm.play C.D (Rm.start (pyDoer Sc) (pickN g 9) py0) pl).1 := ⟨_, rfl⟩
    rw [← hs1] at hin hA1 hP
    generalize ((Rm.play C.D (Rm.start (pyDoer Sc) (pickN g 9) py0) pl).2 : Nat) = cnt at *
    have HIN : Hid (Rm.EvI s1.pipes.chs.length (Rm.numsN s1.pipes) s1.events) := Lib.hid hin
    have HA1 := Lib.hid hA1
    have HP := Lib.hid hP
    have HPL := Lib.hid hp
    clear hin hA1 hP hs1 hp hT hA hb hf h6 hD
    go_wp2_with fail
    refine HP.out.mono ?_
    rintro e w3 ⟨rfl, hg3⟩
    obtain ⟨τ3, hT3, -⟩ := hg3.ex
    have HT3 := Lib.hid hT3
    have HC := Lib.hid (hall_open hT3 HA1.out (by have := HPL.out; omega) (by have := HPL.out; omega))
    clear hg3 hT3 HP
    go_wp2_with fail
    refine HC.out.mono ?_
    rintro e w4 ⟨v, rfl, hs, hb4⟩
    obtain ⟨a1, k1, a2, k2, a3, k3, a4, k4, a5, k5, rfl, -, -, -, hp4, -⟩ := hs.read.ex
    obtain ⟨nch, hnch⟩ : ∃ n, n = s1.pipes.chs.length := ⟨_, rfl⟩
    have HNCH := Lib.hid hnch
    have hn32 : nch ≤ 32 := by rw [hnch]; exact HA1.out.inv.ok.many
    rw [← hnch] at hp4 HIN ⊢
    have HT4 := Lib.hid (HT3.out.new (Keeps.of_new hb4))
    obtain ⟨arr, harr⟩ : ∃ arr : Array Value, arr = #[.int .i64 s1.fin, .int .i64 s1.now, .int .i64 (nch : Nat), .slice a1 s1.tasks.length k1, .slice a2 (wakesV s1).length k2, .slice a3 s1.globals.length k3, .slice a4 nch k4, .slice a5 s1.out.length k5] := ⟨_, rfl⟩
    obtain ⟨w5, hw5⟩ : ∃ w5, w5 = w4.alloc (.cells arr 47) := ⟨_, rfl⟩
    have hb5 : Below w4.heap.size w4 w5 := by rw [hw5]; exact (Below.refl _ w4).alloc (Nat.le_refl _) _
    have hs5 : w5.heap.size = w4.heap.size + 1 := by rw [hw5]; simp
    have c6 : w5.cell? ⟨w4.heap.size, 6, none⟩ = some (.slice a4 nch k4) := by rw [hw5]; exact alloc_cells w4 arr _ 6 _ (by rw [harr]; rfl)
    have HRP := Lib.hid (hp4.below hb5)
    have HT5 := Lib.hid (HT4.out.new (Keeps.of_new hb5))
    have HW5 := Lib.hid hw5
    rw [harr] at hw5
    have hwn : IntKind.i64.wrap ((nch : Int) + 1) = (nch : Int) + 1 := by rw [IntWalk.i64_in _ (by omega)]
    clear hs hb4 hp4 hnch HC harr HT4 HT3
    go_upto_region 8 with fail
    rw [← hw5]
    clear hw5
    generalize hhb : w4.heap.size = hb at *
    have HHB : Hid (hb < w5.heap.size) := Lib.hid (by omega)
    clear hb5 hs5 hhb
    have hmk := make_intR (nch + 1) (by omega) w5
    have hmo := made_own w5 (nch + 1) (by omega)
    obtain ⟨w6, hw6⟩ : ∃ w6, w6 = w5.alloc (.cells (madeCells #[.int .i64 0] (nch + 1)) 3) := ⟨_, rfl⟩
    rw [← hw6] at hmk hmo
    have hmk' : (Instr.makeSlice 26 (.int .i64 ((nch : Int) + 1)) (.int .i64 ((nch : Int) + 1))).run Tryz.prog w5 = .ok (.slice (some ⟨w5.heap.size, 0, none⟩) (nch + 1) (nch + 1)) w6 := hmk
    clear hmk
    have hb6 : Below w5.heap.size w5 w6 := by rw [hw6]; exact (Below.refl _ w5).alloc (Nat.le_refl _) _
    have hs6 : w6.heap.size = w5.heap.size + 1 := by rw [hw6]; simp
    have HT6 := Lib.hid (HT5.out.new (Keeps.of_new hb6))
    have HC := Lib.hid (events_open HT6.out HA1.out (by have := HPL.out; omega))
    have HCN : Hid (CntAt w6 w5.heap.size (nch + 1) (List.replicate (nch + 1) 0)) := Lib.hid ⟨by simp, by
      have h5 := hmo
      unfold OwnI at h5
      rw [List.length_replicate] at h5
      exact h5⟩
    have HC6 := Lib.hid c6
    have HB6 := Lib.hid hb6
    have HS6 := Lib.hid hs6
    clear hmo hb6 hs6 hw6
    go_upto_region 9 with fail
    clear hmk' c6
    generalize hcb : w5.heap.size = cb at *
    have HCB := Lib.hid hcb
    clear hcb
    go_wp2_with fail
    refine HC.out.mono ?_
    rintro e w7 ⟨u, rfl, ho, hb7⟩
    have HR := Lib.hid (readE_of ho)
    have HT7 := Lib.hid (HT6.out.new (Keeps.of_new hb7))
    obtain ⟨au, cu, rfl, hcu, hcm, -⟩ := readE_of ho
    obtain ⟨m, hm⟩ : ∃ m, m = s1.events.length := ⟨_, rfl⟩
    have HM := Lib.hid hm
    have hmb : m ≤ 10000 := by have := HA1.out.events; have := HPL.out; omega
    have HGE : Hid (∀ b, (Value.slice au m cu).ownBlock = some b → cb < b) := Lib.hid fun b hb => by
      rw [hm] at hb
      have h9 := (World.ownsRow.lt ho b hb).1
      have := HS6.out
      omega
    have HB57 : Hid (Below cb w5 w7) := Lib.hid (HB6.out.trans (hb7.mono (by have := HS6.out; omega)))
    have HCN7 := Lib.hid (HCN.out.keeps (Keeps.of_new (S := fun _ => False) hb7) id)
    have HCL : Hid (cb < w7.heap.size) := Lib.hid (by have := HS6.out; have := hb7.size; omega)
    rw [← hm] at HR hcu ⊢
    unfold maxLen at hcm
    clear ho hb7 hm HC
    go_wp2_with fail
    go_loopw [34] (fun iv wr => ∃ (i : Nat) (cnt : List Int), i ≤ m ∧ iv = .int .i64 i ∧ Counts cnt (nch + 1) (s1.events.take i) ∧ CntAt wr cb (nch + 1) cnt ∧ Keeps (fun b => b = cb) w7 wr) (fun iv _ => m - (intOf iv).toNat)
    case atStart => exact ⟨0, _, Nat.zero_le _, rfl, fun c hc => by
      rw [List.getD_eq_getElem?_getD, List.getElem?_replicate, if_pos hc]; rfl, HCN7.out, Keeps.refl _ _⟩
    case round =>
      obtain ⟨i, cnt, hi, rfl, hct, hcn, hk⟩ := hrel
      rename World => wr
      have HCT := Lib.hid hct
      have HCC := Lib.hid hcn
      have HK := Lib.hid hk
      have hb5r : Below cb w5 wr := HB57.out.trans (hk.below (Nat.le_of_lt HCL.out) fun b _ e => by rw [show b = cb from e]; exact Nat.le_refl _)
      have HB5R := Lib.hid hb5r
      have h6r : wr.cell? ⟨hb, 6, none⟩ = some (.slice a4 nch k4) := (hb5r.cell (p := ⟨hb, 6, none⟩) (by show hb < cb; have := HHB.out; have := HCB.out; omega)).trans HC6.out
      have hcbr : cb < wr.heap.size := Nat.lt_of_lt_of_le HCL.out hk.size
      by_cases hin : i < m
      · obtain ⟨⟨et, ew, eo⟩, hx⟩ : ∃ x, s1.events[i]? = some x := ⟨_, List.getElem?_eq_getElem (by rw [← HM.out]; exact hin)⟩
        obtain ⟨gg, hga, q0, q1, q2⟩ := HR.out.at (Below.refl _ w7) hx
        subst hga
        have hgc : ¬ gg = cb := fun e => by have := HGE.out gg rfl; omega
        have r0 := hk.cell_of q0 hgc
        have r1 := hk.cell_of q1 hgc
        have r2 := hk.cell_of q2 hgc
        simp only at r0 r1 r2
        have hii : (0 : Int) ≤ (i : Int) ∧ (i : Int) < (m : Int) := by omega
        obtain ⟨wx, hwx⟩ : ∃ wx, wx = wr.alloc (.cells #[.int .i64 et, .int .i64 ew, .int .i64 eo] 70) := ⟨_, rfl⟩
        have hcc := alloc_cells wr #[.int .i64 et, .int .i64 ew, .int .i64 eo] 70
        rw [← hwx] at hcc
        have x1 := hcc 1 _ rfl
        have x2 := hcc 2 _ rfl
        have hbx : Below wr.heap.size wr wx := by rw [hwx]; exact (Below.refl _ wr).alloc (Nat.le_refl _) _
        have hkx : Keeps (fun b => b = cb) w7 wx := hk.trans (Keeps.of_new hbx)
        have hcx := hcn.keeps (Keeps.of_new (S := fun _ => False) hbx) id
        have h6x := (hbx.cell (p := ⟨hb, 6, none⟩) (block_lt_of_cell h6r)).trans h6r
        have hebl : ¬ wr.heap.size = cb := by omega
        have HX := Lib.hid hx
        have HEV : Hid ((ew = 2 ∨ ew = 3) → 1 ≤ eo ∧ eo ≤ (nch : Int)) := Lib.hid (HIN.out.obj _ (List.mem_of_getElem? hx))
        have HKX := Lib.hid hkx
        have HCX := Lib.hid hcx
        clear hcc q0 q1 q2 hgc hcx hkx hbx hb5r hct hcn hk h6r hx
        go_upto_region 12 with fail
        rw [← hwx]
        clear hwx r0 r1 r2
        generalize wr.heap.size = eb at *
        by_cases hw2 : ew = 2
        · subst hw2
          obtain ⟨ho1, ho2⟩ := HEV.out (Or.inl rfl)
          obtain ⟨c, rfl⟩ := Int.eq_ofNat_of_zero_le (show 0 ≤ eo by omega)
          obtain ⟨x, hxx⟩ : ∃ x, x = cnt.getD c 0 := ⟨_, rfl⟩
          have hxb : x = Rm.bal (c : Int) (s1.events.take i) := by rw [hxx]; exact HCT.out c (by omega)
          have hx0 : 0 ≤ x := by rw [hxb]; exact HIN.out.pre i c
          have hx1 : x ≤ 10000 := by have := bal_le (c : Int) (s1.events.take i); rw [List.length_take] at this; omega
          obtain ⟨p1, p2⟩ := HCX.out.cell (c := c) (by omega)
          rw [← hxx] at p1
          have t1 : ¬ (c : Int) < 1 := by omega
          have t2 : ¬ (nch : Int) < (c : Int) := by omega
          have t3 : (0 : Int) ≤ (c : Int) ∧ (c : Int) < (nch : Int) + 1 := by omega
          have t4 : IntKind.i64.wrap (x + 1) = x + 1 := IntWalk.i64_in _ (by omega)
          have t5 : ¬ (x + 1 < 0) := by omega
          obtain ⟨wy, hwy⟩ : ∃ wy, wy = wx.setCell ⟨cb, c, none⟩ (.int .i64 (x + 1)) := ⟨_, rfl⟩
          have y1 : wy.cell? ⟨eb, 1, none⟩ = some (.int .i64 2) := by rw [hwy, World.cell?_setCell_other _ _ _ _ (by intro e; injection e with e; exact hebl e.symm)]; exact x1
          have y2 : wy.cell? ⟨eb, 2, none⟩ = some (.int .i64 c) := by rw [hwy, World.cell?_setCell_other _ _ _ _ (by intro e; injection e with e; exact hebl e.symm)]; exact x2
          have y3 : wy.cell? ⟨cb, c, none⟩ = some (.int .i64 (x + 1)) := by rw [hwy]; exact World.cell?_setCell_same _ _ _ p1
          have HCY : Hid (CntAt wy cb (nch + 1) (cnt.set c (x + 1))) := Lib.hid (by rw [hwy]; exact HCX.out.set c (x + 1))
          have HKY : Hid (Keeps (fun b => b = cb) w7 wy) := Lib.hid (by rw [hwy]; exact HKX.out.setCell (p := ⟨cb, c, none⟩) (Or.inl rfl) _)
          have HCTY : Hid (Counts (cnt.set c (x + 1)) (nch + 1) (s1.events.take (i + 1))) := Lib.hid (HCT.out.step HCX.out.len HX.out rfl (by omega) (by rw [hxx]; unfold Rm.balE; simp))
          clear hxx hxb hx0 hx1 ho1 ho2
          go_upto_region 18 with fail
          rw [← hwy]
          clear hwy p1 p2 x1 x2 h6x
          go_wp2_with fail
          go_roundw
          case rel => exact ⟨i + 1, _, by omega, by go_num, HCTY.out, HCY.out, HKY.out⟩
          case measure => simp [intOf]; omega
        by_cases hw3 : ew = 3
        · subst hw3
          obtain ⟨ho1, ho2⟩ := HEV.out (Or.inr rfl)
          obtain ⟨c, rfl⟩ := Int.eq_ofNat_of_zero_le (show 0 ≤ eo by omega)
          obtain ⟨x, hxx⟩ : ∃ x, x = cnt.getD c 0 := ⟨_, rfl⟩
          have hxb : x = Rm.bal (c : Int) (s1.events.take i) := by rw [hxx]; exact HCT.out c (by omega)
          have hx0 : 0 ≤ x - 1 := by
            have h9 := HIN.out.pre (i + 1) c
            rw [bal_step HX.out, ← hxb] at h9
            unfold Rm.balE at h9
            simp at h9
            omega
          have hx1 : x ≤ 10000 := by have := bal_le (c : Int) (s1.events.take i); rw [List.length_take] at this; omega
          obtain ⟨p1, p2⟩ := HCX.out.cell (c := c) (by omega)
          rw [← hxx] at p1
          have t1 : ¬ (c : Int) < 1 := by omega
          have t2 : ¬ (nch : Int) < (c : Int) := by omega
          have t3 : (0 : Int) ≤ (c : Int) ∧ (c : Int) < (nch : Int) + 1 := by omega
          have t4 : IntKind.i64.wrap (x + 1) = x + 1 := IntWalk.i64_in _ (by omega)
          have t6 : IntKind.i64.wrap (x + 1 - 2) = x + 1 - 2 := IntWalk.i64_in _ (by omega)
          have t5 : ¬ (x + 1 - 2 < 0) := by omega
          obtain ⟨wy, hwy⟩ : ∃ wy, wy = wx.setCell ⟨cb, c, none⟩ (.int .i64 (x + 1)) := ⟨_, rfl⟩
          obtain ⟨wz, hwz⟩ : ∃ wz, wz = wy.setCell ⟨cb, c, none⟩ (.int .i64 (x + 1 - 2)) := ⟨_, rfl⟩
          have hne : ∀ j, (⟨eb, j, none⟩ : Addr) ≠ ⟨cb, c, none⟩ := fun j e => by injection e with e; exact hebl e
          have y1 : wy.cell? ⟨eb, 1, none⟩ = some (.int .i64 3) := by rw [hwy, World.cell?_setCell_other _ _ _ _ (fun e => hne 1 e.symm)]; exact x1
          have y2 : wy.cell? ⟨eb, 2, none⟩ = some (.int .i64 c) := by rw [hwy, World.cell?_setCell_other _ _ _ _ (fun e => hne 2 e.symm)]; exact x2
          have y3 : wy.cell? ⟨cb, c, none⟩ = some (.int .i64 (x + 1)) := by rw [hwy]; exact World.cell?_setCell_same _ _ _ p1
          have y4 : wy.frozen? ⟨cb, c, none⟩ = false := by rw [hwy, World.frozen?_setCell]; exact p2
          have z2 : wz.cell? ⟨eb, 2, none⟩ = some (.int .i64 c) := by rw [hwz, World.cell?_setCell_other _ _ _ _ (fun e => hne 2 e.symm)]; exact y2
          have z3 : wz.cell? ⟨cb, c, none⟩ = some (.int .i64 (x + 1 - 2)) := by rw [hwz]; exact World.cell?_setCell_same _ _ _ y3
          have HCY : Hid (CntAt wz cb (nch + 1) (cnt.set c (x + 1 - 2))) := Lib.hid (by
            have h9 := (HCX.out.set c (x + 1)).set c (x + 1 - 2)
            rw [List.set_set] at h9
            rw [hwz, hwy]; exact h9)
          have HKY : Hid (Keeps (fun b => b = cb) w7 wz) := Lib.hid (by rw [hwz, hwy]; exact (HKX.out.setCell (p := ⟨cb, c, none⟩) (Or.inl rfl) _).setCell (p := ⟨cb, c, none⟩) (Or.inl rfl) _)
          have HCTY : Hid (Counts (cnt.set c (x + 1 - 2)) (nch + 1) (s1.events.take (i + 1))) := Lib.hid (HCT.out.step HCX.out.len HX.out rfl (by omega) (by rw [hxx]; unfold Rm.balE; simp; omega))
          clear hxx hxb hx0 hx1 ho1 ho2 hne
          go_upto_region 18 with fail
          rw [← hwy]
          clear hwy p1 p2 x1 x2 h6x
          go_upto_region 20 with fail
          rw [← hwz]
          clear hwz y1 y2 y3 y4
          go_wp2_with fail
          go_roundw
          case rel => exact ⟨i + 1, _, by omega, by go_num, HCTY.out, HCY.out, HKY.out⟩
          case measure => simp [intOf]; omega
        · have h2 : (ew == 2) = false := by rw [beq_eq_false_iff_ne]; exact hw2
          have h3 : (ew == 3) = false := by rw [beq_eq_false_iff_ne]; exact hw3
          have HCTY : Hid (Counts cnt (nch + 1) (s1.events.take (i + 1))) := Lib.hid (HCT.out.other HX.out hw2 hw3)
          clear hw2 hw3
          go_wp2_with fail
          go_roundw
          case rel => exact ⟨i + 1, _, by omega, by go_num, HCTY.out, HCX.out, HKX.out⟩
          case measure => simp [intOf]; omega
      · obtain rfl : i = m := by omega
        have hnn : ¬ (i : Int) < (i : Int) := by omega
        have hfin : ∀ k, k < nch → cnt.getD (k + 1) 0 = Rm.numsN s1.pipes k := fun k hk9 => by
          rw [hct (k + 1) (by omega), HM.out, List.take_length]
          have h9 := HIN.out.val k hk9
          rw [← h9]
          rfl
        have HFIN := Lib.hid hfin
        have HRPR := Lib.hid (HRP.out.below (HCB.out ▸ hb5r))
        have HBF : Hid (Below w.heap.size w wr) := Lib.hid (HT5.out.bel.trans (hb5r.mono (by have := HT5.out.bel.size; have := HCB.out; omega)))
        clear hct hcn hk hb5r hfin hnn hcbr
        have hnn : ¬ (i : Int) < (i : Int) := by omega
        go_wp2_with fail
        go_loopw [12] (fun iv wq => ∃ j q : Nat, j ≤ nch ∧ iv = .int .i64 j ∧ wq = wr.drewN q) (fun iv _ => nch - (intOf iv).toNat)
        case atStart => exact ⟨0, 0, Nat.zero_le _, rfl, rfl⟩
        case round =>
          obtain ⟨j, q, hj, rfl, rfl⟩ := hrel
          have h6q : (wr.drewN q).cell? ⟨hb, 6, none⟩ = some (.slice a4 nch k4) := h6r
          by_cases hjn : j < nch
          · obtain ⟨ch, hx⟩ : ∃ x, s1.pipes.chs[j]? = some x := ⟨_, List.getElem?_eq_getElem (by rw [← HNCH.out]; exact hjn)⟩
            obtain ⟨ao, cap, e1, hc1, hc2, h9⟩ := HRPR.out
            obtain ⟨gp, e2, -, h10⟩ := h9 (by rw [← HNCH.out]; omega)
            obtain ⟨b0, l0, b1, l1, b2, l2, hcells, -⟩ := h10 j ch hx
            injection e1 with e3 e4 e5
            rw [e2] at e3
            clear e4 e5
            have f1 : wr.cell? ⟨gp, j * 5 + 1, none⟩ = some (.slice b0 ch.nums.length l0) := hcells 1 _ rfl
            obtain ⟨p1, -⟩ := HCC.out.cell (c := j + 1) (by omega)
            have hval : cnt.getD (j + 1) 0 = (ch.nums.length : Int) := by rw [HFIN.out j hjn]; exact Rm.numsN_get hx
            rw [hval] at p1
            have hjj : (0 : Int) ≤ (j : Int) ∧ (j : Int) < (nch : Int) := by omega
            have t3 : (0 : Int) ≤ (j : Int) + 1 ∧ (j : Int) + 1 < (nch : Int) + 1 := by omega
            have t4 : IntKind.i64.wrap ((j : Int) + 1) = (j : Int) + 1 := IntWalk.i64_in _ (by omega)
            obtain ⟨ln, hln⟩ : ∃ ln, ln = ch.nums.length := ⟨_, rfl⟩
            rw [← hln] at p1 f1
            have t5 : ((ln : Int) != (ln : Int)) = false := by simp
            clear h9 h10 hcells hval hx hc1 hc2 e2 hln
            subst e3
            go_wp2_with fail
            go_quiet (fail)
            go_wp2_with fail
            go_roundw
            case rel => exact ⟨j + 1, _, by omega, by go_num, rfl⟩
            case measure => simp [intOf]; omega
          · obtain rfl : j = nch := by omega
            have hnn2 : ¬ (j : Int) < (j : Int) := by omega
            have HBQ : Hid (Below w.heap.size w (wr.drewN q)) := Lib.hid (HBF.out.trans ((below_drewN wr q).mono HBF.out.size))
            go_wp2_with fail
            go_ret
            exact ⟨rfl, HBQ.out⟩
end Go.Proofs.YtnjdmijcoadidaaGreatDoor

namespace Go.Proofs.YtnjdmijcoadidaaGreatDoor
open Go.RowKit
theorem etG : Tryz.prog.globalNamed "errors.errorType" = some 0 := by kernel_rfl
theorem etRt : (Tryz.prog.cutTypes.find? (·.1 == "internal/reflectlite.rtype")).map (·.2) = some 289 := by kernel_rfl
theorem etOne : ((List.range Tryz.prog.types.size).filter fun t => Tryz.prog.rowNamed t [101, 114, 114, 111, 114]) = [33] := by kernel_rfl
theorem errT_of_laid {W : World} {l : List (String × DataW Unit)} (h : laidMetH Tryz.prog l W) (hm : ("errors.errorType", Rows.laid_errors_errorType) ∈ l) : ErrT W := by
  obtain ⟨name, u, ty, e1, e2, e3, e4, e5⟩ := (laidMetH_iff.1 h).2 _ (List.mem_filter.2 ⟨hm, rfl⟩)
  have en : name = [101, 114, 114, 111, 114] := (Option.some.inj e1).symm
  subst en
  obtain rfl := Option.some.inj (etRt.symm.trans e2)
  have hr : ty ∈ (List.range Tryz.prog.types.size).filter fun t => Tryz.prog.rowNamed t [101, 114, 114, 111, 114] := List.mem_filter.2 ⟨List.mem_range.2 e3, e4⟩
  rw [etOne] at hr
  obtain rfl := List.mem_singleton.1 hr
  have hh : typeHandle Tryz.prog 33 = .pointer (some ⟨1, 33, none⟩) := by kernel_rfl
  rw [hh] at e5
  simpa [ErrT] using World.var?_cell etG e5 0
end Go.Proofs.YtnjdmijcoadidaaGreatDoor

namespace Go.Proofs.YtnjdmijcoadidaaGreatDoor
open Go.RowKit
theorem errT_only {W : World} (h : laidMetH Tryz.prog [("errors.errorType", Rows.laid_errors_errorType)] W) : ErrT W := errT_of_laid h (List.mem_cons_self ..)
end Go.Proofs.YtnjdmijcoadidaaGreatDoor
