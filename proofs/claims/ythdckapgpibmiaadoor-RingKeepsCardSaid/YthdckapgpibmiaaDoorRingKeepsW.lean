/-
  The walk of the law RingKeeps: what a ring has, whatever is put in, taken out, and dropped, is the document's.
-/
import Derived.Test.YthdckapgpibmiaaDoorDropW
import Derived.Test.YthdckapgpibmiaaDoorKeepsF
import Derived.Test.YthdckapgpibmiaaDoorMidI
import Derived.Test.YthdckapgpibmiaaDoorRingOps
import Derived.Test.YthdckapgpibmiaaDoorRingI3
import Derived.Test.YthdckapgpibmiaaDoorTell
import Derived.Test.YthdckapgpibmiaaDoorStays
import Derived.Deep.QuietTactic
import Derived.BigQuiet
import Derived.Deep.DeepCutAuto
import Derived.Deep.CutRange
import Derived.Deep.CutBlock
namespace Go.Proofs.YthdckapgpibmiaaDoor
open Go.RowKit Go.Shelf

/-- The ring and the list hold the same. -/
structure KeepsJ (w W : World) (rb sb B n : Nat) (v : Value) (xs : List Int) : Prop where
  ring : RingL eI W rb sb n xs
  own : MidI W B v xs
  lo1 : w.heap.size ≤ rb
  lo2 : w.heap.size ≤ sb
  hi1 : rb < B
  hi2 : sb < B
  size : B ≤ W.heap.size
  bel : Below w.heap.size w W
  err : ErrT W
  lowerr : 0 < w.heap.size
theorem KeepsJ.fresh {w W W' : World} {rb sb B n : Nat} {v : Value} {xs : List Int} (h : KeepsJ w W rb sb B n v xs) (hk : Keeps (fun _ => False) W W') : KeepsJ w W' rb sb B n v xs :=
  ⟨h.ring.keeps hk id id, h.own.keeps hk fun _ _ => id, h.lo1, h.lo2, h.hi1, h.hi2, Nat.le_trans h.size hk.size, h.bel.trans (hk.below h.bel.size fun _ _ e => e.elim), hk.cell_of h.err id, h.lowerr⟩

theorem KeepsJ.off {w W : World} {rb sb B n : Nat} {v : Value} {xs : List Int} (h : KeepsJ w W rb sb B n v xs) (k : Nat) (hk : B ≤ k ∨ k < w.heap.size) : ¬ Two rb sb k := by
  have h1 := h.lo1
  have h2 := h.lo2
  have h3 := h.hi1
  have h4 := h.hi2
  rintro (e | e) <;> omega
/-- The ring has turned, the list stands. -/
theorem KeepsJ.turn {w W W' : World} {rb sb B n : Nat} {v : Value} {xs ys : List Int} (h : KeepsJ w W rb sb B n v xs) (hr : RingL eI W' rb sb n ys) (hk : Keeps (Two rb sb) W W') (hxy : xs = ys := by rfl) : KeepsJ w W' rb sb B n v ys := by
  subst hxy
  have h1 := h.lo1
  have h2 := h.lo2
  have h3 := h.hi1
  have h4 := h.hi2
  refine ⟨hr, h.own.keeps hk fun k e e2 => ?_, h1, h2, h3, h4, Nat.le_trans h.size hk.size, h.bel.trans (hk.below h.bel.size fun k _ e => by rcases e with e | e <;> omega), hk.cell_of h.err (h.off _ (Or.inr h.lowerr)), h.lowerr⟩
  · have := h.own.le k e
    rcases e2 with e2 | e2 <;> omega

set_option maxRecDepth 100000 in
set_option maxHeartbeats 6400000 in
theorem ringKeeps_any (size : Int) (v : Value) (l : List (Int × Int)) (w : World) (_h1 : -9223372036854775808 ≤ size) (_h2 : size ≤ 9223372036854775807) (hv : RopsAt w v l) (hE : ErrT w) :
    Calls Tryd.prog 3 #[.int .i64 size, v] w fun e w' => e = .returned (.bool true) ∧ Below w.heap.size w w' := by
  have HE := Lib.hid hE
  obtain ⟨ao, m, cap, rfl, hm, hmc, hcm, hx, hwf⟩ := hv
  unfold maxLen at hcm
  have HX := Lib.hid hx
  have HWF := Lib.hid hwf
  have HM := Lib.hid hm
  clear hE hx hwf hm
  by_cases hbig : 200 < m
  · have h1i : (200 : Int) < (m : Int) := by omega
    go_enter Tryd.func3, Tryd.ntmps3
    go_wp2_with fail
    go_ret
    exact ⟨rfl, Below.refl _ _⟩
  · have h1i : ¬ (200 : Int) < (m : Int) := by omega
    by_cases hs : size < 0 ∨ 64 < size
    · have HS := Lib.hid hs
      have hd : decide (size < 0) = true ∨ (decide (size < 0) = false ∧ decide (64 < size) = true) := by
        by_cases h0 : size < 0
        · exact Or.inl (decide_eq_true h0)
        · exact Or.inr ⟨decide_eq_false h0, decide_eq_true (by omega)⟩
      clear hs
      rcases hd with hd | ⟨hd, hd2⟩
      · go_enter Tryd.func3, Tryd.ntmps3
        go_wp2_with fail
        refine (newI_no w size HS.out).mono ?_
        rintro e w1 ⟨rfl, rfl⟩
        go_wp2_with fail
        refine (bare_errno 2 w HE.out).mono ?_
        rintro e w2 ⟨rfl, hb⟩
        go_wp2_with fail
        go_ret
        exact ⟨rfl, hb⟩
      · go_enter Tryd.func3, Tryd.ntmps3
        go_wp2_with fail
        refine (newI_no w size HS.out).mono ?_
        rintro e w1 ⟨rfl, rfl⟩
        go_wp2_with fail
        refine (bare_errno 2 w HE.out).mono ?_
        rintro e w2 ⟨rfl, hb⟩
        go_wp2_with fail
        go_ret
        exact ⟨rfl, hb⟩
    · obtain ⟨n, rfl⟩ : ∃ n : Nat, size = (n : Int) := ⟨size.toNat, by omega⟩
      have hn : n ≤ 64 := by omega
      have hd : decide ((n : Int) < 0) = false := decide_eq_false (by omega)
      have hd2 : decide (64 < (n : Int)) = false := decide_eq_false (by omega)
      have hd3 : ¬ (64 < (n : Int)) := by omega
      have hd4 : ¬ (64 < n) := by omega
      go_enter Tryd.func3, Tryd.ntmps3
      go_wp2_with fail
      refine (newI_ok w n hn).mono ?_
      rintro e w1 ⟨rfl, hr1, hb1, hsz1⟩
      have HJ0 : ∃ sb B, KeepsJ w w1 (w.heap.size + 1) sb B n (.slice none 0 0) [] := ⟨w.heap.size, w.heap.size + 2, hr1, MidI.nil _ _, by omega, by omega, by omega, by omega, by omega, hb1, (Keeps.of_new hb1 : Keeps (fun _ => False) w w1).cell_of HE.out id, block_lt_of_cell HE.out⟩
      clear hr1 hb1 hsz1
      generalize w.heap.size + 1 = rb at *
      obtain ⟨sb, B, hJ1⟩ := HJ0
      have HJ1 := Lib.hid hJ1
      clear hJ1
      go_wp2_with fail
      go_loopw [7, 8] (fun v i wr => ∃ (k : Nat) (xs : List Int), k ≤ m ∧ i = .int .i64 k ∧ KeepsJ w wr rb sb B n v xs) (fun _ i _ => m - (intOf i).toNat)
      case atStart => exact ⟨0, [], Nat.zero_le _, rfl, HJ1.out⟩
      case round =>
        obtain ⟨k, xs, hk, rfl, hJ⟩ := hrel
        obtain ⟨aI, cI, hvI⟩ := hJ.own.slice
        subst hvI
        have HJ := Lib.hid hJ
        have hxn : xs.length ≤ n := hJ.ring.le
        have hIC : xs.length ≤ cI := by
          obtain ⟨_, _, _, hv, hl, hlc, _, _⟩ := hJ.own.ints
          rw [Value.slice.injEq] at hv
          omega
        clear hJ HJ1
        by_cases hkm : k < m
        · obtain ⟨b, o, rfl, hbl, hcell⟩ := HX.out (by omega)
          obtain ⟨hc0, hc1⟩ := hcell k hkm
          have hmem : l.getD k (0, 0) ∈ l := by
            have := HM.out
            rw [List.getD_eq_getElem?_getD, List.getElem?_eq_getElem (by omega)]
            exact List.getElem_mem _
          have hw1 := (HWF.out _ hmem).1
          have hw2 := (HWF.out _ hmem).2
          have hkb : Keeps (fun _ => False) w w := Keeps.refl _ _
          rw [← HJ.out.bel.cell (p := ⟨b, o + k * 2, none⟩) hbl] at hc0
          rw [← HJ.out.bel.cell (p := ⟨b, o + k * 2 + 1, none⟩) hbl] at hc1
          clear hmem hcell hkb
          generalize l.getD k (0, 0) = p at *
          obtain ⟨t, N⟩ := p
          go_upto_block 2 with fail
          have hx0 : (wr.alloc (.cells #[.int .i64 t, .int .i64 N] 32)).cell? ⟨wr.heap.size, 0, none⟩ = some (.int .i64 t) := by rw [World.cell?_alloc_at _ _ _ _ rfl]; rfl
          have hx1 : (wr.alloc (.cells #[.int .i64 t, .int .i64 N] 32)).cell? ⟨wr.heap.size, 1, none⟩ = some (.int .i64 N) := by rw [World.cell?_alloc_at _ _ _ _ rfl]; rfl
          have HJA : Hid (KeepsJ w (wr.alloc (.cells #[.int .i64 t, .int .i64 N] 32)) rb sb B n (.slice aI xs.length cI) xs) := Lib.hid (HJ.out.fresh ((Keeps.refl _ wr).alloc _))
          have hbB : B ≤ wr.heap.size := HJ.out.size
          have HOB : Hid (∀ k, (Value.slice aI xs.length cI).ownBlock = some k → B ≤ k ∧ k < wr.heap.size) := Lib.hid HJ.out.own.le
          generalize wr.alloc (.cells #[.int .i64 t, .int .i64 N] 32) = W0 at *
          generalize wr.heap.size = bx at *
          go_cut [7] (fun v wx => ∃ ys : List Int, KeepsJ w wx rb sb B n v ys ∧ wx.cell? ⟨bx, 1, none⟩ = some (.int .i64 N))
          case first =>
            by_cases ht0 : t = 0
            · subst ht0
              by_cases hfl : xs.length < n
              · have hflI : (xs.length : Int) < (n : Int) := by omega
                have hszW := HJA.out.size
                go_wp2_with (at_builtin; go_loud (refine wpList_appendM rfl _ _ rfl _ B _ xs N HJA.out.own rfl rfl (by omega) hszW ?_; intro a4 c4 w4 hO4 hK4; have HO4 := Lib.hid hO4; have HK4 := Lib.hid hK4; have hx4 := hK4.cell_of hx1 (fun e => Nat.lt_irrefl _ (HOB.out _ e).2); clear hO4 hK4))
                have HR4 : Hid (RingL eI w4 rb sb n xs) := Lib.hid (HJA.out.ring.keeps HK4.out (fun e => by have := HOB.out _ e; have := HJA.out.hi1; omega) (fun e => by have := HOB.out _ e; have := HJA.out.hi2; omega))
                refine (lpushI_ok HR4.out hfl N).mono ?_
                rintro e w5 ⟨rfl, hr5, hk5⟩
                have HJ5 : Hid (KeepsJ w w5 rb sb B n (.slice a4 (xs.length + 1) c4) (xs ++ [N])) := Lib.hid (by
                  have hsz4 := HK4.out.size
                  have hlo1 := HJA.out.lo1
                  have hlo2 := HJA.out.lo2
                  have hi1 := HJA.out.hi1
                  have hi2 := HJA.out.hi2
                  refine ⟨hr5, HO4.out.keeps hk5 fun k e e2 => ?_, hlo1, hlo2, hi1, hi2, Nat.le_trans hszW (Nat.le_trans hsz4 hk5.size), (HJA.out.bel.trans (HK4.out.below HJA.out.bel.size fun k _ e => by have := HOB.out k e; omega)).trans (hk5.below (Nat.le_trans HJA.out.bel.size hsz4) fun k _ e => by rcases e with e | e <;> omega), ?_, ?_⟩
                  · have := HO4.out.le k e
                    rcases e2 with e2 | e2 <;> omega
                  · have hge : 0 < w.heap.size := HJA.out.lowerr
                    exact hk5.cell_of (HK4.out.cell_of HJA.out.err fun e => absurd (HOB.out 0 e).1 (by omega)) (HJA.out.off _ (Or.inr HJA.out.lowerr))
                  · exact HJA.out.lowerr)
                have hx5 := hk5.cell_of hx4 (HJA.out.off bx (Or.inl hbB))
                clear hr5 hk5
                go_wp2_with fail
                refine (bare_nil w5).mono ?_
                rintro e w6 ⟨rfl, rfl⟩
                go_wp2_with fail
                go_meet
                exact ⟨_, HJ5.out, hx5⟩
              · have hflI : ¬ (xs.length : Int) < (n : Int) := by omega
                go_wp2_with fail
                refine (lpushI_full HJA.out.ring (by omega) N).mono ?_
                rintro e w5 ⟨rfl, hr5, hk5⟩
                have HJ5 : Hid (KeepsJ w w5 rb sb B n (.slice aI xs.length cI) xs) := Lib.hid (HJA.out.turn hr5 hk5)
                have hx5 := hk5.cell_of hx1 (HJA.out.off bx (Or.inl hbB))
                clear hr5 hk5
                go_wp2_with fail
                refine (bare_errno 12 w5 HJ5.out.err).mono ?_
                rintro e w6 ⟨rfl, hb6⟩
                have HJ6 := Lib.hid (HJ5.out.fresh (Keeps.of_new hb6))
                have hx6 := (Keeps.of_new hb6 : Keeps (fun _ => False) w5 w6).cell_of hx5 id
                clear hb6
                go_wp2_with fail
                go_meet
                exact ⟨_, HJ6.out, hx6⟩
            by_cases ht1 : t = 1
            · subst ht1
              by_cases hfl : xs.length < n
              · have hflI : (xs.length : Int) < (n : Int) := by omega
                have hszW := HJA.out.size
                go_wp2_with (at_builtin; go_loud (refine wpList_appendM rfl _ _ rfl _ B _ xs N HJA.out.own rfl rfl (by omega) hszW ?_; intro a4 c4 w4 hO4 hK4; have HO4 := Lib.hid hO4; have HK4 := Lib.hid hK4; have hx4 := hK4.cell_of hx1 (fun e => Nat.lt_irrefl _ (HOB.out _ e).2); clear hO4 hK4))
                have HR4 : Hid (RingL eI w4 rb sb n xs) := Lib.hid (HJA.out.ring.keeps HK4.out (fun e => by have := HOB.out _ e; have := HJA.out.hi1; omega) (fun e => by have := HOB.out _ e; have := HJA.out.hi2; omega))
                refine (lpushI_ok HR4.out hfl N).mono ?_
                rintro e w5 ⟨rfl, hr5, hk5⟩
                have HJ5 : Hid (KeepsJ w w5 rb sb B n (.slice a4 (xs.length + 1) c4) (xs ++ [N])) := Lib.hid (by
                  have hsz4 := HK4.out.size
                  have hlo1 := HJA.out.lo1
                  have hlo2 := HJA.out.lo2
                  have hi1 := HJA.out.hi1
                  have hi2 := HJA.out.hi2
                  refine ⟨hr5, HO4.out.keeps hk5 fun k e e2 => ?_, hlo1, hlo2, hi1, hi2, Nat.le_trans hszW (Nat.le_trans hsz4 hk5.size), (HJA.out.bel.trans (HK4.out.below HJA.out.bel.size fun k _ e => by have := HOB.out k e; omega)).trans (hk5.below (Nat.le_trans HJA.out.bel.size hsz4) fun k _ e => by rcases e with e | e <;> omega), ?_, ?_⟩
                  · have := HO4.out.le k e
                    rcases e2 with e2 | e2 <;> omega
                  · have hge : 0 < w.heap.size := HJA.out.lowerr
                    exact hk5.cell_of (HK4.out.cell_of HJA.out.err fun e => absurd (HOB.out 0 e).1 (by omega)) (HJA.out.off _ (Or.inr HJA.out.lowerr))
                  · exact HJA.out.lowerr)
                have hx5 := hk5.cell_of hx4 (HJA.out.off bx (Or.inl hbB))
                clear hr5 hk5
                go_wp2_with fail
                refine (bare_nil w5).mono ?_
                rintro e w6 ⟨rfl, rfl⟩
                go_wp2_with fail
                go_meet
                exact ⟨_, HJ5.out, hx5⟩
              · have hflI : ¬ (xs.length : Int) < (n : Int) := by omega
                go_wp2_with fail
                refine (lpushI_full HJA.out.ring (by omega) N).mono ?_
                rintro e w5 ⟨rfl, hr5, hk5⟩
                have HJ5 : Hid (KeepsJ w w5 rb sb B n (.slice aI xs.length cI) xs) := Lib.hid (HJA.out.turn hr5 hk5)
                have hx5 := hk5.cell_of hx1 (HJA.out.off bx (Or.inl hbB))
                clear hr5 hk5
                go_wp2_with fail
                refine (bare_errno 12 w5 HJ5.out.err).mono ?_
                rintro e w6 ⟨rfl, hb6⟩
                have HJ6 := Lib.hid (HJ5.out.fresh (Keeps.of_new hb6))
                have hx6 := (Keeps.of_new hb6 : Keeps (fun _ => False) w5 w6).cell_of hx5 id
                clear hb6
                go_wp2_with fail
                go_meet
                exact ⟨_, HJ6.out, hx6⟩
            have gt0 : (t == 0) = false := beq_eq_false_iff_ne.2 ht0
            have gt1 : (t == 1) = false := beq_eq_false_iff_ne.2 ht1
            by_cases ht2 : t = 2
            · subst ht2
              clear gt0 gt1
              by_cases h0 : xs.length = 0
              · have hnil : xs = [] := List.eq_nil_of_length_eq_zero h0
                have HNL := Lib.hid hnil
                have HRN : Hid (RingL eI W0 rb sb n []) := Lib.hid (hnil ▸ HJA.out.ring)
                have h0i : (xs.length : Int) = 0 := by omega
                have h0b : ((xs.length : Int) == 0) = true := by rw [h0i]; rfl
                have h0c : (xs.length == 0) = true := by rw [h0]; rfl
                clear hnil
                go_wp2_with fail
                refine (lpopI_none HRN.out).mono ?_
                rintro e w5 ⟨rfl, hr5, hk5⟩
                have HJ5 : Hid (KeepsJ w w5 rb sb B n (.slice aI xs.length cI) xs) := Lib.hid (HJA.out.turn (HNL.out ▸ hr5) hk5)
                clear hr5 hk5
                go_wp2_with fail
                refine (bare_errno 8 w5 HJ5.out.err).mono ?_
                rintro e w6 ⟨rfl, hb6⟩
                have HJ6 := Lib.hid (HJ5.out.fresh (Keeps.of_new hb6))
                clear hb6
                go_wp2_with fail
                go_roundw
                case rel =>
                  have hJ6 := HJ6.out
                  rw [h0] at hJ6
                  exact ⟨k + 1, xs, by omega, by go_num, hJ6⟩
                case measure => simp [intOf]; omega
              · obtain ⟨x, r, hxr⟩ : ∃ x r, xs = x :: r := by
                  cases xs with
                  | nil => exact absurd rfl h0
                  | cons x r => exact ⟨x, r, rfl⟩
                have hlr : xs.length = r.length + 1 := by rw [hxr]; rfl
                have HXR := Lib.hid hxr
                have HRX : Hid (RingL eI W0 rb sb n (x :: r)) := Lib.hid (hxr ▸ HJA.out.ring)
                have h0i : ¬ (xs.length : Int) = 0 := by omega
                have h0b : ((xs.length : Int) == 0) = false := beq_eq_false_iff_ne.2 h0i
                have h0c : (xs.length == 0) = false := beq_eq_false_iff_ne.2 h0
                have h0p : 0 < xs.length := by omega
                have h0q : (0 : Int) < (xs.length : Int) := by omega
                clear hxr
                go_wp2_with fail
                refine (lpopI_ok HRX.out).mono ?_
                rintro e w5 ⟨rfl, hr5, hk5⟩
                have HOW : Hid (MidI w5 B (.slice aI xs.length cI) xs) := Lib.hid (HJA.out.own.keeps hk5 fun k e => HJA.out.off k (Or.inl (HJA.out.own.le k e).1))
                have HJ5 : Hid (∀ v', MidI w5 B v' r → KeepsJ w w5 rb sb B n v' r) := Lib.hid fun v' hv' => by
                  have h1 := HJA.out.lo1
                  have h2 := HJA.out.lo2
                  exact ⟨hr5, hv', h1, h2, HJA.out.hi1, HJA.out.hi2, Nat.le_trans HJA.out.size hk5.size, HJA.out.bel.trans (hk5.below HJA.out.bel.size fun k _ e => by rcases e with e | e <;> omega), hk5.cell_of HJA.out.err (HJA.out.off _ (Or.inr HJA.out.lowerr)), HJA.out.lowerr⟩
                have hx5 := hk5.cell_of hx1 (HJA.out.off bx (Or.inl hbB))
                clear hr5 hk5
                obtain ⟨a0, n0, c0, hv0, hn0, hnc0, hcc0, hxx⟩ := HOW.out.ints
                rw [Value.slice.injEq] at hv0
                obtain ⟨rfl, rfl, rfl⟩ := hv0
                obtain ⟨vb, vo, rfl, hvb, hcell⟩ := hxx h0p
                have hcy := hcell 0 h0p
                rw [HXR.out] at hcy
                have hcy' : w5.cell? ⟨vb, vo, none⟩ = some (.int .i64 x) := hcy
                clear hcell hxx hcc0 hcy
                have HTL : Hid (∀ a' c', c' = cI - 1 → (a' = some ⟨vb, vo + 1, none⟩ ∨ (cI = 1 ∧ a' = some ⟨vb, vo, none⟩)) → MidI w5 B (.slice a' r.length c') r) := Lib.hid fun a' c' h1 h2 => by
                  have hO := HOW.out
                  rw [HXR.out] at hO
                  exact hO.tail a' c' h1 (h2.imp (fun e => by rw [e, Option.map_some, addr_add]) id)
                by_cases hc1 : cI = 1
                · go_wp2_with fail
                  go_meet
                  exact ⟨r, HJ5.out _ (HTL.out _ _ (by omega) (Or.inr ⟨hc1, rfl⟩)), hx5⟩
                · go_wp2_with fail
                  go_meet
                  exact ⟨r, HJ5.out _ (HTL.out _ _ (by omega) (Or.inl rfl)), hx5⟩
            have gt2 : (t == 2) = false := beq_eq_false_iff_ne.2 ht2
            by_cases ht3 : t = 3
            · subst ht3
              clear gt0 gt1 gt2
              have HST : Hid (OwnI W0 W0.heap.size (.slice none 0 0) (staysD xs 0 0 N)) := Lib.hid (by rw [staysD_zero]; exact ownI_nil _ _)
              have hbx : bx < W0.heap.size := block_lt_of_cell hx1
              go_wp2_with fail
              go_loopw [14, 13] (fun i v wr => ∃ j : Nat, j ≤ xs.length ∧ i = .int .i64 j ∧ OwnI wr W0.heap.size v (staysD xs 0 j N) ∧ Keeps (fun _ => False) W0 wr) (fun i _ _ => xs.length - (intOf i).toNat)
              case atStart => exact ⟨0, Nat.zero_le _, rfl, HST.out, Keeps.refl _ _⟩
              case round =>
                obtain ⟨j, hj, rfl, hO, hkw⟩ := hrel
                obtain ⟨a7, c7, hv7⟩ := hO.slice
                subst hv7
                have hle7 := staysD_le xs 0 j N
                have HO7 := Lib.hid hO
                have HK7 := Lib.hid hkw
                have HJ7 := Lib.hid (HJA.out.fresh hkw)
                have hx7 := hkw.cell_of hx1 id
                clear HST hO hkw
                by_cases hju : j < xs.length
                · have hsu := staysD_succ xs 0 j N (Nat.zero_le _) hju
                  obtain ⟨a0, n0, c0, hv0, hn0, hnc0, hcc0, hxx⟩ := HJ7.out.own.ints
                  rw [Value.slice.injEq] at hv0
                  obtain ⟨rfl, rfl, rfl⟩ := hv0
                  obtain ⟨vb, vo, rfl, hvb, hcell⟩ := hxx (by omega)
                  have hc := hcell j hju
                  clear hcell hxx hcc0
                  generalize xs.getD j 0 = x at *
                  have HSU := Lib.hid hsu
                  clear hsu
                  generalize hTj : staysD xs 0 j N = tj at *
                  by_cases hxm : x < N
                  · have hxm2 : ¬ N ≤ x := by omega
                    have HSV : Hid (staysD xs 0 (j + 1) N = tj) := Lib.hid (by rw [HSU.out, if_pos hxm])
                    go_wp2_with fail
                    go_quiet (fail)
                    go_wp2_with fail
                    go_roundw
                    case rel => exact ⟨j + 1, by omega, by go_num, by rw [HSV.out]; exact HO7.out, keeps_drewN HK7.out _⟩
                    case measure => simp [intOf]; omega
                  · have hxm2 : N ≤ x := by omega
                    have HSV : Hid (staysD xs 0 (j + 1) N = tj ++ [x]) := Lib.hid (by rw [HSU.out, if_neg hxm])
                    have hkz := HK7.out.size
                    go_wp2_with fail
                    go_quiet (fail)
                    go_wp2_with (at_builtin; go_loud (refine wpList_appendI rfl _ _ rfl _ W0.heap.size _ tj x HO7.out rfl rfl (by omega) hkz ?_; intro a8 c8 w8 hO8 hK8 hN8; have HO8 := Lib.hid hO8; have HK8 := Lib.hid hK8; clear hO8 hK8 hN8))
                    go_roundw
                    case rel =>
                      refine ⟨j + 1, by omega, by go_num, by rw [HSV.out]; exact HO8.out, (keeps_drewN HK7.out _).trans' HK8.out fun i hi e => ?_⟩
                      have := HO7.out.le i e
                      omega
                    case measure => simp [intOf]; omega
                · obtain rfl : j = xs.length := by omega
                  have hjj : ¬ (xs.length : Int) < (xs.length : Int) := by omega
                  have HKE : Hid (staysD xs 0 xs.length N = xs.filter fun x => !decide (x < N)) := Lib.hid (staysD_all xs 0 N)
                  have hcnt := counts_all (fun x => decide (x < N)) xs
                  rw [← HKE.out] at hcnt
                  generalize hTj : staysD xs 0 xs.length N = tj at *
                  have HDQ : Hid (Calls Tryd.prog 10 #[.pointer (some ⟨rb, 0, none⟩), .func (.func 11) #[] #[.pointer (some ⟨bx, 0, none⟩)]] wr fun e w' => e = .returned (.int .i64 ((xs.filter fun x => decide (x < N)).length : Nat)) ∧ w'.cell? ⟨bx, 1, none⟩ = some (.int .i64 N) ∧ KeepsJ w w' rb sb B n (.slice a7 tj.length c7) tj) := Lib.hid (by
                    have h1 := HJ7.out.lo1
                    have h2 := HJ7.out.lo2
                    have h3 := HJ7.out.hi1
                    have h4 := HJ7.out.hi2
                    have h5 := HJ7.out.size
                    have h6 := HJA.out.size
                    have h7 := HK7.out.size
                    refine (dropI_any (fspec_keeps bx N) (.slice none 0 0) wr HJ7.out.ring hn ⟨rfl, hx7⟩ (by omega) (fun k e => by omega) (fun k e => by cases e)).mono ?_
                    rintro e w8 ⟨rfl, hr8, va, ⟨rfl, hx8⟩, hk8, hn8⟩
                    refine ⟨rfl, hx8, by rw [HKE.out]; exact hr8, (MidI.of_own (HO7.out.keeps hk8 fun k e e2 => ?_)).mono h6, h1, h2, h3, h4, Nat.le_trans h5 hk8.size, HJ7.out.bel.trans (hk8.below HJ7.out.bel.size fun k _ e2 => ?_), hk8.cell_of HJ7.out.err fun e2 => ?_, HJ7.out.lowerr⟩
                    · have := HO7.out.le k e
                      rcases e2 with e2 | e2 | e2 | e2
                      · omega
                      · omega
                      · omega
                      · cases e2
                    · have h9 := HJA.out.bel.size
                      rcases e2 with e2 | e2 | e2 | e2
                      · omega
                      · omega
                      · omega
                      · cases e2
                    · have h9 := HJ7.out.lowerr
                      rcases e2 with e2 | e2 | e2 | e2
                      · exact absurd e2 (show ¬ (0 = rb) by omega)
                      · exact absurd e2 (show ¬ (0 = sb) by omega)
                      · exact absurd e2 (show ¬ (0 = bx) by omega)
                      · cases e2)
                  generalize (xs.filter fun x => decide (x < N)).length = d at *
                  have hz : (xs.length : Int) - (tj.length : Int) = (d : Int) := by omega
                  go_wp2_with fail
                  refine HDQ.out.mono ?_
                  rintro e w8 ⟨rfl, hx8, hJ8⟩
                  have HJ8 := Lib.hid hJ8
                  clear hJ8
                  go_wp2_with fail
                  go_meet
                  exact ⟨_, HJ8.out, hx8⟩
            have gt3 : (t == 3) = false := beq_eq_false_iff_ne.2 ht3
            go_wp2_with fail
            go_meet
            exact ⟨xs, HJA.out, hx1⟩
          case rest =>
            obtain ⟨ys, hJ9, hc9⟩ := hcut
            obtain ⟨a9, c9, hv9⟩ := hJ9.own.slice
            subst hv9
            have HJ9 := Lib.hid hJ9
            have hyn : ys.length ≤ n := hJ9.ring.le
            clear hJ9 hx0 hx1 HJA HJ hc0 hc1
            have HTL : Hid (∀ W : World, Keeps (fun _ => False) wc W → KeepsJ w W rb sb B n (.slice a9 ys.length c9) ys) := Lib.hid fun W hW => HJ9.out.fresh hW
            by_cases hN : 0 ≤ N ∧ N < (ys.length : Int)
            · obtain ⟨N', rfl⟩ : ∃ N' : Nat, N = N' := ⟨N.toNat, by omega⟩
              have hlt : N' < ys.length := by omega
              have HLA : Hid (Calls Tryd.prog 12 #[.pointer (some ⟨rb, 0, none⟩), .int .i64 N'] wc fun e w' => e = .returned (.tuple #[.int .i64 (ys.getD N' 0), .nilIface]) ∧ ∃ m2, w' = wc.drewN m2) := Lib.hid (by
                obtain ⟨row, f, _, hR⟩ := HJ9.out.ring
                exact atI_ok _ hR N' _ (by rw [List.getD_eq_getElem?_getD, List.getElem?_eq_getElem hlt]; rfl))
              obtain ⟨a0, n0, c0, hv0, hn0, hnc0, hcc0, hx0⟩ := HJ9.out.own.ints
              rw [Value.slice.injEq] at hv0
              obtain ⟨rfl, rfl, rfl⟩ := hv0
              obtain ⟨vb, vo, rfl, hvb, hcell⟩ := hx0 (by omega)
              have hcy := hcell N' hlt
              clear hcell hx0 hN hcc0
              generalize ys.getD N' 0 = x at *
              have hltI : (N' : Int) < (ys.length : Int) := by omega
              go_wp2_with fail
              refine HLA.out.mono ?_
              rintro e w8 ⟨rfl, m8, rfl⟩
              go_wp2_with fail
              refine (llenI (HTL.out _ (keeps_drewN (Keeps.refl _ _) m8)).ring).mono ?_
              rintro e w9 ⟨rfl, rfl⟩
              go_wp2_with fail
              refine (lsizeI (HTL.out _ (keeps_drewN (Keeps.refl _ _) m8)).ring).mono ?_
              rintro e w9 ⟨rfl, rfl⟩
              go_wp2_with fail
              go_roundw
              case rel => exact ⟨k + 1, ys, by omega, by go_num, HTL.out _ (keeps_drewN (Keeps.refl _ _) m8)⟩
              case measure => simp [intOf]; omega
            · have HNo : Hid (N < 0 ∨ (ys.length : Int) ≤ N) := Lib.hid (by omega)
              have hNd : decide (0 ≤ N) = false ∨ (decide (0 ≤ N) = true ∧ decide (N < (ys.length : Int)) = false) := by
                by_cases h0 : 0 ≤ N
                · exact Or.inr ⟨decide_eq_true h0, decide_eq_false (by omega)⟩
                · exact Or.inl (decide_eq_false h0)
              clear hN
              rcases hNd with hd1 | ⟨hd1, hd2⟩
              · go_wp2_with fail
                refine (latI_no HJ9.out.ring N HNo.out).mono ?_
                rintro e w8 ⟨rfl, rfl⟩
                go_wp2_with fail
                refine (bare_errno 2 wc HJ9.out.err).mono ?_
                rintro e w8 ⟨rfl, hb8⟩
                have HJ8 := Lib.hid (HTL.out _ (Keeps.of_new hb8))
                clear hb8
                go_wp2_with fail
                refine (llenI HJ8.out.ring).mono ?_
                rintro e w9 ⟨rfl, rfl⟩
                go_wp2_with fail
                refine (lsizeI HJ8.out.ring).mono ?_
                rintro e w9 ⟨rfl, rfl⟩
                go_wp2_with fail
                go_roundw
                case rel => exact ⟨k + 1, ys, by omega, by go_num, HJ8.out⟩
                case measure => simp [intOf]; omega
              · go_wp2_with fail
                refine (latI_no HJ9.out.ring N HNo.out).mono ?_
                rintro e w8 ⟨rfl, rfl⟩
                go_wp2_with fail
                refine (bare_errno 2 wc HJ9.out.err).mono ?_
                rintro e w8 ⟨rfl, hb8⟩
                have HJ8 := Lib.hid (HTL.out _ (Keeps.of_new hb8))
                clear hb8
                go_wp2_with fail
                refine (llenI HJ8.out.ring).mono ?_
                rintro e w9 ⟨rfl, rfl⟩
                go_wp2_with fail
                refine (lsizeI HJ8.out.ring).mono ?_
                rintro e w9 ⟨rfl, rfl⟩
                go_wp2_with fail
                go_roundw
                case rel => exact ⟨k + 1, ys, by omega, by go_num, HJ8.out⟩
                case measure => simp [intOf]; omega
        · obtain rfl : k = m := by omega
          have hkk : ¬ (k : Int) < (k : Int) := by omega
          go_wp2_with fail
          go_ret
          exact ⟨rfl, HJ.out.bel⟩
end Go.Proofs.YthdckapgpibmiaaDoor
