/-
  The walk of the law RingDrops: what is dropped is gone, all others are there, in their order.
-/
import Derived.Test.YthdckapgpibmiaaDoorDropW
import Derived.Test.YthdckapgpibmiaaDoorDropL
import Derived.Test.YthdckapgpibmiaaDoorFilled
import Derived.Test.YthdckapgpibmiaaDoorRinged
import Derived.Test.YthdckapgpibmiaaDoorArgs
import Derived.Test.YthdckapgpibmiaaDoorEqualI
import Derived.Test.YthdckapgpibmiaaDoorRingI3
import Derived.Deep.QuietTactic
import Derived.BigQuiet
import Derived.Deep.DeepCutAuto
import Derived.Deep.CutRange
namespace Go.Proofs.YthdckapgpibmiaaDoor
open Go.RowKit Go.Shelf

theorem not_two' {a b k : Nat} (h1 : k ≠ a) (h2 : k ≠ b) : ¬ Two a b k := by rintro (e | e) <;> contradiction
/-- All that is looked at behind Drop. -/
structure DropE (w W : World) (rb sb n bm ba : Nat) (most : Int) (K u u0 : List Int) (vi va : Value) : Prop where
  ring : RingL eI W rb sb n K
  own : IntsAt W vi u0
  asked : IntsAt W va u
  hm : Box W bm (.int .i64 most)
  ha : Box W ba va
  bel : Below w.heap.size w W
theorem DropE.fresh {w W W' : World} {rb sb n bm ba : Nat} {most : Int} {K u u0 : List Int} {vi va : Value} (h : DropE w W rb sb n bm ba most K u u0 vi va) (hk : Keeps (fun _ => False) W W') : DropE w W' rb sb n bm ba most K u u0 vi va :=
  ⟨h.ring.keeps hk id id, h.own.keeps hk fun _ _ => id, h.asked.keeps hk fun _ _ => id, h.hm.keeps hk id, h.ha.keeps hk id, h.bel.trans (hk.below h.bel.size fun _ _ e => e.elim)⟩

/-- What stays of the things from the k-th to the j-th. -/
def staysD (u0 : List Int) (k j : Nat) (most : Int) : List Int := ((u0.take j).drop k).filter fun x => !decide (x < most)
theorem staysD_zero (u0 : List Int) (k : Nat) (most : Int) : staysD u0 k k most = [] := by
  rw [staysD, List.drop_eq_nil_of_le (by rw [List.length_take]; omega), List.filter_nil]
theorem staysD_all (u0 : List Int) (k : Nat) (most : Int) : staysD u0 k u0.length most = (u0.drop k).filter fun x => !decide (x < most) := by rw [staysD, List.take_length]
theorem staysD_succ (u0 : List Int) (k j : Nat) (most : Int) (h1 : k ≤ j) (h2 : j < u0.length) : staysD u0 k (j + 1) most = if u0.getD j 0 < most then staysD u0 k j most else staysD u0 k j most ++ [u0.getD j 0] := by
  have e : u0.getD j 0 = u0[j] := by rw [List.getD_eq_getElem?_getD, List.getElem?_eq_getElem h2]; rfl
  have e2 : (u0.take (j + 1)).drop k = (u0.take j).drop k ++ [u0[j]] := by
    rw [List.take_succ_eq_append_getElem h2, List.drop_append_of_le_length (by rw [List.length_take]; omega)]
  rw [staysD, e2, List.filter_append, e]
  by_cases h : u0[j] < most <;> simp [h, staysD]
theorem staysD_le (u0 : List Int) (k j : Nat) (most : Int) : (staysD u0 k j most).length ≤ u0.length - k := by
  refine Nat.le_trans (List.length_filter_le _ _) ?_
  rw [List.length_drop, List.length_take]
  omega
theorem intsAt_drop {w : World} {a a' : Option Addr} {n c n' c' : Nat} {l : List Int} {k : Nat} (h : IntsAt w (.slice a n c) l) (hn' : n' = l.length - k) (hc' : n' ≤ c') (hcc : c' ≤ c) (ha : 0 < l.length - k → a' = a.map (·.add k)) : IntsAt w (.slice a' n' c') (l.drop k) := by
  obtain ⟨a0, n0, c0, hv, hn, hnc, hcm, hx⟩ := h
  rw [Value.slice.injEq] at hv
  obtain ⟨rfl, rfl, rfl⟩ := hv
  refine ⟨_, _, _, rfl, by rw [List.length_drop]; exact hn', hc', Nat.le_trans hcc hcm, fun h0 => ?_⟩
  obtain ⟨b, o, rfl, hb, hcell⟩ := hx (by omega)
  refine ⟨b, o + k, by rw [ha (by omega), Option.map_some, addr_add], hb, fun j hj => ?_⟩
  have := hcell (k + j) (by omega)
  rw [List.getD_eq_getElem?_getD, List.getElem?_drop, Nat.add_assoc, this, List.getD_eq_getElem?_getD]
theorem counts_all (p : Int → Bool) : ∀ l : List Int, (l.filter p).length + (l.filter fun x => !p x).length = l.length
  | [] => rfl
  | x :: r => by
    have := counts_all p r
    cases hp : p x <;> simp [hp] <;> omega

set_option maxRecDepth 100000 in
set_option maxHeartbeats 3200000 in
theorem ringDrops_any (size : Int) (v : Value) (l : List Int) (fst most : Int) (w : World) (_h1 : -9223372036854775808 ≤ size) (_h2 : size ≤ 9223372036854775807) (_h3 : -9223372036854775808 ≤ fst) (_h4 : fst ≤ 9223372036854775807) (_h5 : -9223372036854775808 ≤ most) (_h6 : most ≤ 9223372036854775807) (hv : NumsAt .i64 w v l) (hE : ErrT w) :
    Calls Tryd.prog 4 #[.int .i64 size, v, .int .i64 fst, .int .i64 most] w fun e w' => e = .returned (.bool true) ∧ Below w.heap.size w w' := by
  have HE := Lib.hid hE
  have hints := hv.ints
  obtain ⟨ao, m, cap, rfl, hm, hmc, hcm, hx, -⟩ := hv
  unfold maxLen at hcm
  have HI := Lib.hid hints
  have HM := Lib.hid hm
  clear hE hx hints hm
  by_cases hbig : 100 < m
  · have h1i : (100 : Int) < (m : Int) := by omega
    go_enter Tryd.func4, Tryd.ntmps4
    go_wp2_with fail
    refine (ringed_any _ (HE.out.alloc _)).mono ?_
    rintro e w1 ⟨rfl, hb1⟩
    have hb : Below w.heap.size w w1 := ((Below.refl _ w).alloc (Nat.le_refl _) _).trans (hb1.mono (by simp))
    go_wp2_with fail
    go_ret
    exact ⟨rfl, hb⟩
  · have h1i : ¬ (100 : Int) < (m : Int) := by omega
    go_enter Tryd.func4, Tryd.ntmps4
    go_wp2_with fail
    refine (ringed_any _ (HE.out.alloc _)).mono ?_
    rintro e w1 ⟨rfl, hb1⟩
    have HB1 : Hid (Below w.heap.size w w1) := Lib.hid (((Below.refl _ w).alloc (Nat.le_refl _) _).trans (hb1.mono (by simp)))
    have BM1 : Hid (Box w1 w.heap.size (.int .i64 most)) := Lib.hid ((Box.new w (.int .i64 most) 3).keeps (Keeps.of_new hb1) (S := fun _ => False) id)
    clear hb1
    go_wp2_with fail
    refine (filled_any size _ l _ (HI.out.below HB1.out)).mono ?_
    rintro e w2 ⟨rb, sb, B, n, vi, rfl, hn, hR, hb2⟩
    generalize l.take n = u0 at *
    obtain ⟨ai, ci, hvi⟩ := hR.own.slice
    subst hvi
    have HR2 := Lib.hid hR
    have hL : u0.length ≤ 64 := Nat.le_trans hR.ring.le hn
    have HB2 : Hid (Below w1.heap.size w1 w2) := Lib.hid hb2
    clear hR hb2
    go_wp2_with fail
    have hpk := pick_any fst (u0.length + 1) w2 (by omega) (by omega)
    rw [show (((u0.length + 1 : Nat)) : Int) = (u0.length : Int) + 1 from by omega] at hpk
    refine hpk.mono ?_
    rintro e w3 ⟨fk, hfk, rfl, rfl⟩
    clear hpk
    go_wp2_with fail
    have HRL : Hid (RingL eI w2 rb sb n (u0.drop 0) ∧ Keeps (Two rb sb) w2 w2) := Lib.hid ⟨HR2.out.ring, Keeps.refl _ _⟩
    go_loopw [11] (fun i wr => ∃ k : Nat, k ≤ fk ∧ i = .int .i64 k ∧ RingL eI wr rb sb n (u0.drop k) ∧ Keeps (Two rb sb) w2 wr) (fun i _ => fk - (intOf i).toNat)
    case atStart => exact ⟨0, Nat.zero_le _, rfl, HRL.out⟩
    case round =>
      obtain ⟨k, hk, rfl, hrl, hkr⟩ := hrel
      clear HRL
      by_cases hkf : k < fk
      · have hdr : u0.drop k = u0[k]'(by omega) :: u0.drop (k + 1) := List.drop_eq_getElem_cons (by omega)
        rw [hdr] at hrl
        generalize u0[k]'(by omega) = y at *
        clear hdr
        have HRL := Lib.hid hrl
        have HKR := Lib.hid hkr
        clear hrl hkr
        go_wp2_with fail
        refine (lpopI_ok HRL.out).mono ?_
        rintro e w4 ⟨rfl, hr4, hk4⟩
        go_wp2_with fail
        go_roundw
        case rel => exact ⟨k + 1, by omega, by go_num, hr4, HKR.out.trans hk4⟩
        case measure => simp [intOf]; omega
      · obtain rfl : k = fk := by omega
        have hkk : ¬ (k : Int) < (k : Int) := by omega
        have HRL := Lib.hid hrl
        have HKR := Lib.hid hkr
        clear hrl hkr
        go_wp2_with fail
        have hw1 : w.heap.size < w1.heap.size := BM1.out.lt
        have hlo1 := HR2.out.lo1
        have hlo2 := HR2.out.lo2
        have hhi1 := HR2.out.hi1
        have hhi2 := HR2.out.hi2
        have hsz2 := HR2.out.size
        have hszr := HKR.out.size
        have hrbl := HR2.out.ring.lt
        have hk5 : Keeps (fun _ => False) wr (wr.alloc (.cells #[.slice none 0 0] 30)) := (Keeps.refl _ wr).alloc _
        have hmb : Box (wr.alloc (.cells #[.slice none 0 0] 30)) w.heap.size (.int .i64 most) :=
          (((BM1.out.keeps (Keeps.of_below HB2.out fun _ _ h => h) (show ¬ w1.heap.size ≤ w.heap.size by omega)).keeps HKR.out (not_two' (by omega) (by omega)))).alloc _
        have hF := fspec_drops wr.heap.size w.heap.size (wr.heap.size + 1) most (by omega) (by omega) (by omega)
        refine (dropI_any hF (.slice none 0 0) _ (HRL.out.keeps hk5 id id) hn ⟨ownI_nil _ _, Box.new wr _ _, hmb, by simp⟩ (by simp; omega) (fun k' e => by
          have hsa : (wr.alloc (.cells #[.slice none 0 0] 30)).heap.size = wr.heap.size + 1 := by simp
          rcases e with e | e <;> omega) (fun k' e => by cases e)).mono ?_
        rintro e w6 ⟨rfl, hr6, va, ⟨hO6, ha6, hm6, hB6⟩, hk6, hn6⟩
        have HDE : Hid (DropE w w6 rb sb n w.heap.size wr.heap.size most ((u0.drop k).filter fun x => !decide (x < most)) (u0.drop k) u0 (.slice ai u0.length ci) va) := Lib.hid (by
          have hoff := HR2.out.own.off HR2.out.two
          have hoB := HR2.out.own.le
          have hoL : ∀ k', (Value.slice ai u0.length ci).ownBlock = some k' → k' < w2.heap.size := fun k' e => (World.ownsRow.lt HR2.out.own k' e).2
          refine ⟨hr6, ?_, hO6.ints, hm6, ha6, ?_⟩
          · refine (((HR2.out.own.keeps HKR.out hoff).keeps hk5 fun _ _ => id).keeps hk6 fun k' e => ?_).ints
            have h1 := hoB k' e
            have h2 := hoL k' e
            rintro (e2 | e2 | (e2 | e2) | e2)
            · omega
            · omega
            · omega
            · omega
            · cases e2
          · refine ((HB1.out.trans (HB2.out.mono (by omega))).trans (HKR.out.below (by omega) fun k' _ e => by rcases e with e | e <;> omega)).trans ((hk5.below (by omega) fun _ _ e => e.elim).trans (hk6.below (by simp; omega) fun k' _ e => ?_))
            rcases e with e | e | (e | e) | e
            · omega
            · omega
            · omega
            · omega
            · cases e)
        clear hO6 ha6 hm6 hB6 hr6 hk6 hn6 hF hmb hk5 hlo1 hlo2 hhi1 hhi2 hsz2 hrbl hw1
        generalize hba : wr.heap.size = ba at *
        have hku : k ≤ u0.length := by omega
        have hcnt := counts_all (fun x => decide (x < most)) (u0.drop k)
        rw [List.length_drop] at hcnt
        have HKE : Hid (staysD u0 k u0.length most = (u0.drop k).filter fun x => !decide (x < most)) := Lib.hid (staysD_all u0 k most)
        generalize hK0 : (u0.drop k).filter (fun x => !decide (x < most)) = K at *
        generalize hD0 : ((u0.drop k).filter fun x => decide (x < most)).length = d at *
        have HK0 := Lib.hid hK0
        clear hK0 hD0
        have HST : Hid (OwnI w6 w6.heap.size (.slice none 0 0) (staysD u0 k k most)) := Lib.hid (by rw [staysD_zero]; exact ownI_nil _ _)
        go_wp2_with fail
        go_loopw [15, 13] (fun i v wr => ∃ j : Nat, k ≤ j ∧ j ≤ u0.length ∧ i = .int .i64 j ∧ OwnI wr w6.heap.size v (staysD u0 k j most) ∧ Keeps (fun _ => False) w6 wr) (fun i _ _ => u0.length - (intOf i).toNat)
        case atStart => exact ⟨k, Nat.le_refl _, hku, rfl, HST.out, Keeps.refl _ _⟩
        case round =>
          obtain ⟨j, hkj, hj, rfl, hO, hkw⟩ := hrel
          obtain ⟨a7, c7, hv7⟩ := hO.slice
          subst hv7
          have hle7 := staysD_le u0 k j most
          have HO7 := Lib.hid hO
          have HK7 := Lib.hid hkw
          have HE7 := Lib.hid (HDE.out.fresh hkw)
          clear HST hO hkw
          by_cases hju : j < u0.length
          · have hsu := staysD_succ u0 k j most hkj hju
            obtain ⟨a0, n0, c0, hv0, hn0, hnc0, hc0, hx0⟩ := HE7.out.own
            rw [Value.slice.injEq] at hv0
            obtain ⟨rfl, rfl, rfl⟩ := hv0
            obtain ⟨vb, vo, rfl, hvb, hcell⟩ := hx0 (by omega)
            have hc := hcell j hju
            have hb := HE7.out.hm.cell
            have HX7 := Lib.hid hcell
            clear hcell hx0
            generalize u0.getD j 0 = x at *
            have HSU := Lib.hid hsu
            clear hsu
            generalize hTj : staysD u0 k j most = tj at *
            by_cases hxm : x < most
            · have hxm2 : ¬ most ≤ x := by omega
              have HSV : Hid (staysD u0 k (j + 1) most = tj) := Lib.hid (by rw [HSU.out, if_pos hxm])
              go_wp2_with fail
              go_quiet (fail)
              go_wp2_with fail
              go_roundw
              case rel => exact ⟨j + 1, by omega, by omega, by go_num, by rw [HSV.out]; exact HO7.out, keeps_drewN HK7.out _⟩
              case measure => simp [intOf]; omega
            · have hxm2 : most ≤ x := by omega
              have HSV : Hid (staysD u0 k (j + 1) most = tj ++ [x]) := Lib.hid (by rw [HSU.out, if_neg hxm])
              have hkz := HK7.out.size
              go_wp2_with fail
              go_quiet (fail)
              go_wp2_with (at_builtin; go_loud (refine wpList_appendI rfl _ _ rfl _ w6.heap.size _ tj x HO7.out rfl rfl (by omega) hkz ?_; intro a8 c8 w8 hO8 hK8 hN8; have HO8 := Lib.hid hO8; have HK8 := Lib.hid hK8; clear hO8 hK8 hN8))
              go_roundw
              case rel =>
                refine ⟨j + 1, by omega, by omega, by go_num, by rw [HSV.out]; exact HO8.out, (keeps_drewN HK7.out _).trans' HK8.out fun i hi e => ?_⟩
                have := HO7.out.le i e
                omega
              case measure => simp [intOf]; omega
          · obtain rfl : j = u0.length := by omega
            have hjj : ¬ (u0.length : Int) < (u0.length : Int) := by omega
            have hke := HKE.out
            clear HKE
            generalize staysD u0 k u0.length most = tj at *
            subst hke
            have hz : (u0.length : Int) - (k : Int) - (tj.length : Int) = (d : Int) := by omega
            have hba7 := HE7.out.ha.cell
            have hci : u0.length ≤ ci := by
              obtain ⟨a0, n0, c0, hv, hn, hnc, hcm, hx⟩ := HE7.out.own
              rw [Value.slice.injEq] at hv
              obtain ⟨rfl, rfl, rfl⟩ := hv
              exact hnc
            have HLN : Hid (∀ W, (∃ m, W = wr.drewN m) → Calls Tryd.prog 13 #[.pointer (some ⟨rb, 0, none⟩)] W fun e w' => e = .returned (.int .i64 tj.length) ∧ ∃ m, w' = wr.drewN m) := Lib.hid (by
              rintro _ ⟨m, rfl⟩
              refine (llenI (HE7.out.fresh (keeps_drewN (Keeps.refl _ _) m)).ring).mono ?_
              rintro e w' ⟨rfl, rfl⟩
              exact ⟨rfl, m, rfl⟩)
            have HEQ : Hid (∀ W b c', (∃ m, W = wr.drewN m) → u0.length - k ≤ c' → c' ≤ ci → (0 < u0.length - k → b = ai.map (·.add k)) → Calls Tryd.prog 19 #[va, .slice b (u0.length - k) c'] W fun e w' => e = .returned (.bool true) ∧ ∃ m, w' = wr.drewN m) := Lib.hid (by
              rintro _ b c' ⟨m, rfl⟩ h1 h2 h3
              have hE9 := HE7.out.fresh (keeps_drewN (Keeps.refl _ _) m)
              refine (equalI_any va _ (u0.drop k) _ hE9.asked (intsAt_drop hE9.own rfl h1 h2 h3)).mono ?_
              rintro e w' ⟨rfl, m2, rfl⟩
              exact ⟨rfl, m + m2, by rw [World.drewN_drewN]⟩)
            go_wp2_with fail
            go_cut [90] from 67 to 89 (fun v wx => v = .bool false ∧ ∃ m, wx = wr.drewN m)
            case first =>
              by_cases hck : ci = k
              · go_quiet ((first | (go_at_call 19; exact HEQ.out _ _ _ ⟨_, rfl⟩ (by omega) (by omega) (fun h => absurd h (by omega))) | (go_at_call 13; exact HLN.out _ ⟨_, rfl⟩)))
                go_wp2_with fail
                go_meet
                exact ⟨rfl, _, rfl⟩
              · go_quiet ((first | (go_at_call 19; exact HEQ.out _ _ _ ⟨_, rfl⟩ (by omega) (by omega) (fun _ => rfl)) | (go_at_call 13; exact HLN.out _ ⟨_, rfl⟩)))
                go_wp2_with fail
                go_meet
                exact ⟨rfl, _, rfl⟩
            case rest =>
              obtain ⟨rfl, m9, hw9⟩ := hcut
              subst hw9
              have HE9 := Lib.hid (HE7.out.fresh (keeps_drewN (Keeps.refl _ _) m9))
              have HO9 : Hid (OwnI (wr.drewN m9) w6.heap.size (.slice a7 tj.length c7) tj) := Lib.hid HO7.out
              have HI9 := Lib.hid HO9.out.ints
              have htl : tj.length ≤ 64 := by omega
              clear HLN HEQ HE7 HO7 hba7 HDE
              generalize wr.drewN m9 = wd at *
              go_wp2_with fail
              go_loopw [16] (fun i wx => ∃ j m : Nat, j ≤ tj.length ∧ i = .int .i64 j ∧ wx = wd.drewN m) (fun i _ => tj.length - (intOf i).toNat)
              case atStart => exact ⟨0, 0, Nat.zero_le _, rfl, rfl⟩
              case round =>
                obtain ⟨j, m, hj, rfl, rfl⟩ := hrel
                by_cases hjt : j < tj.length
                · obtain ⟨a0, n0, c0, hv0, hn0, hnc0, hc0, hx0⟩ := HI9.out
                  rw [Value.slice.injEq] at hv0
                  obtain ⟨rfl, rfl, rfl⟩ := hv0
                  obtain ⟨vb, vo, rfl, hvb, hcell⟩ := hx0 (by omega)
                  have hc := hcell j hjt
                  clear hcell hx0
                  have HLA : Hid (Calls Tryd.prog 12 #[.pointer (some ⟨rb, 0, none⟩), .int .i64 j] (wd.drewN m) fun e w' => e = .returned (.tuple #[.int .i64 (tj.getD j 0), .nilIface]) ∧ ∃ m2, w' = (wd.drewN m).drewN m2) := Lib.hid (by
                    obtain ⟨row, f, _, hR⟩ := (HE9.out.fresh (keeps_drewN (Keeps.refl _ _) m)).ring
                    exact atI_ok _ hR j _ (by rw [List.getD_eq_getElem?_getD, List.getElem?_eq_getElem hjt]; rfl))
                  generalize tj.getD j 0 = x at *
                  go_wp2_with fail
                  refine HLA.out.mono ?_
                  rintro e w' ⟨rfl, m2, rfl⟩
                  go_wp2_with fail
                  go_roundw
                  case rel => exact ⟨j + 1, m + m2, by omega, by go_num, by first | rfl | rw [World.drewN_drewN]⟩
                  case measure => simp [intOf]; omega
                · obtain rfl : j = tj.length := by omega
                  have hjj2 : ¬ (tj.length : Int) < (tj.length : Int) := by omega
                  go_wp2_with fail
                  go_ret
                  exact ⟨rfl, (HE9.out.fresh (keeps_drewN (Keeps.refl _ _) m)).bel⟩
end Go.Proofs.YthdckapgpibmiaaDoor
