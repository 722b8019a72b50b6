/-
  The walk of the law ClockSorts: times come in their order, each once.
-/
import Derived.Test.YtonpbbflloljgaaSortIds
import Derived.Test.YtonpbbflloljgaaAppendIs
import Derived.Deep.Cut
import Derived.Deep.QuietTactic
namespace Go.Proofs.Ytonpbbflloljgaa
open Go.RowKit

/-- The clock and the list's variable, between two steps. -/
structure Sor (w wr : World) (cb : Nat) (ao : Option Addr) (n cap : Nat) (F : Nat → Prop) (now : Int) (le : List Hp.E) : Prop where
  c : ClockAt wr cb F now le
  lo : ∀ b, F b → w.heap.size < b
  box : wr.cell? ⟨w.heap.size, 0, none⟩ = some (.slice ao n cap)
  below : Below w.heap.size w wr
  big : cb < wr.heap.size
theorem Sor.step {w wr w' : World} {cb n cap : Nat} {ao : Option Addr} {F F' : Nat → Prop} {now now' : Int} {le le' : List Hp.E} (h : Sor w wr cb ao n cap F now le) (hc : ClockAt w' cb F' now' le') (hg : Grows wr F F') (hk : Keeps F wr w') : Sor w w' cb ao n cap F' now' le' := by
  have hb := block_lt_of_cell h.box
  have hb' : w.heap.size < wr.heap.size := hb
  refine ⟨hc, fun b hb2 => ?_, hk.cell_of h.box (fun e => by have := h.lo _ e; exact absurd this (Nat.lt_irrefl _)), h.below.trans (hk.below h.below.size (fun k _ e => Nat.le_of_lt (h.lo k e))), Nat.lt_of_lt_of_le h.big hk.size⟩
  rcases hg b hb2 with e | e
  · exact h.lo b e
  · omega
/-- What is written elsewhere. -/
theorem Sor.other {w wr w' : World} {cb n cap : Nat} {ao : Option Addr} {F S : Nat → Prop} {now : Int} {le : List Hp.E} (h : Sor w wr cb ao n cap F now le) (hk : Keeps S wr w') (hs : ∀ b, F b → ¬ S b) (hs2 : ∀ b, S b → w.heap.size < b) : Sor w w' cb ao n cap F now le :=
  ⟨h.c.keeps hk hs, h.lo, hk.cell_of h.box (fun e => absurd (hs2 _ e) (Nat.lt_irrefl _)), h.below.trans (hk.below h.below.size (fun k _ e => Nat.le_of_lt (hs2 k e))), Nat.lt_of_lt_of_le h.big hk.size⟩

/-- The first loop's state behind k rounds. -/
structure Sor1 (w wr : World) (cb : Nat) (ao : Option Addr) (n cap : Nat) (l : List Int) (F : Nat → Prop) (le : List Hp.E) (vi : Value) (k : Nat) : Prop where
  s : Sor w wr cb ao n cap F 0 le
  p : le.Perm (entsN l k)
  o : OwnI wr cb vi ((idsN l k).map fun i : Nat => (i : Int))
  off : Off vi F
theorem Sor1.no {w wr w' : World} {cb n cap : Nat} {ao : Option Addr} {l : List Int} {F F' : Nat → Prop} {le l3 : List Hp.E} {vi r : Value} {k : Nat} (h : Sor1 w wr cb ao n cap l F le vi k) (hx : ¬ 0 ≤ l.getD k 0) (hc : ClockAt w' cb F' 0 l3) (hg : Grows wr F F') (hk : Keeps F wr w') (hr : SetR 0 le (l.getD k 0) (k : Int) r l3) :
    r = .iface 47 (.int .i64 2) ∧ Sor1 w w' cb ao n cap l F' l3 vi (k + 1) := by
  rcases hr with ⟨_, h2, rfl⟩ | ⟨h1, _⟩ | ⟨h1, _⟩
  · refine ⟨h2, h.s.step hc hg hk, ?_, ?_, ?_⟩
    · unfold entsN; rw [idsN_no l k hx]; exact h.p
    · rw [idsN_no l k hx]; exact h.o.keeps hk h.off
    · intro b hb e
      rcases hg b e with q | q
      · exact h.off b hb q
      · have := (World.ownsRow.lt h.o b hb).2; omega
  · exact absurd h1 hx
  · exact absurd h1 hx
/-- Behind a Set that took its id: the id is yet to be noted. -/
theorem Sor1.yes {w wr w' : World} {cb n cap : Nat} {ao : Option Addr} {l : List Int} {F F' : Nat → Prop} {le l3 : List Hp.E} {vi r : Value} {k : Nat} (h : Sor1 w wr cb ao n cap l F le vi k) (hx : 0 ≤ l.getD k 0) (hc : ClockAt w' cb F' 0 l3) (hg : Grows wr F F') (hk : Keeps F wr w') (hr : SetR 0 le (l.getD k 0) (k : Int) r l3) :
    r = .nilIface ∧ Sor w w' cb ao n cap F' 0 l3 ∧ l3.Perm (entsN l (k + 1)) ∧ OwnI w' cb vi ((idsN l k).map fun i : Nat => (i : Int)) ∧ Off vi F' := by
  obtain ⟨h1, h2⟩ := hr.done hx (entsN_not h.p)
  refine ⟨h1, h.s.step hc hg hk, ?_, h.o.keeps hk h.off, fun b hb e => ?_⟩
  · unfold entsN; rw [idsN_yes l k hx, List.map_append]
    exact h2.trans (List.Perm.append_right _ h.p)
  · rcases hg b e with q | q
    · exact h.off b hb q
    · have := (World.ownsRow.lt h.o b hb).2; omega

theorem Sor1.note {w w3 w4 : World} {cb n cap : Nat} {ao : Option Addr} {l : List Int} {F : Nat → Prop} {l3 : List Hp.E} {vi v4 : Value} {k : Nat} (hcb : w.heap.size < cb) (hx : 0 ≤ l.getD k 0) (hS : Sor w w3 cb ao n cap F 0 l3) (hp : l3.Perm (entsN l (k + 1))) (ho : OwnI w3 cb vi ((idsN l k).map fun i : Nat => (i : Int))) (hf : Off vi F)
    (h4 : OwnI w4 cb v4 (((idsN l k).map fun i : Nat => (i : Int)) ++ [(k : Int)])) (hk : Keeps (fun b => vi.ownBlock = some b) w3 w4) (hN : ∀ b, v4.ownBlock = some b → vi.ownBlock = some b ∨ w3.heap.size ≤ b) : Sor1 w w4 cb ao n cap l F l3 v4 (k + 1) := by
  refine ⟨hS.other hk (fun b hb e => hf b e hb) (fun b e => by have := (World.ownsRow.lt ho b e).1; omega), hp, ?_, fun b hb e => ?_⟩
  · rw [idsN_yes l k hx, List.map_append]; exact h4
  · rcases hN b hb with q | q
    · exact hf b q e
    · have := hS.c.fl b e; omega

theorem keepsDrawn (w : World) (n : Nat) : Keeps (fun _ => False) w (w.drewN n) := ⟨rfl, rfl, rfl, Nat.le_refl _, fun _ _ _ => rfl⟩
/-- The second loop's state, without what came. -/
structure Sor2 (w wr : World) (cb : Nat) (ao : Option Addr) (n cap : Nat) (F : Nat → Prop) (now : Int) (le : List Hp.E) (vi vg : Value) (xs got : List Int) : Prop where
  s : Sor w wr cb ao n cap F now le
  o : OwnI wr cb vg got
  og : Off vg F
  i : IntsAt wr vi xs
  oi : Off vi F
  iv : ∀ b, vi.ownBlock = some b → cb ≤ b ∧ b < wr.heap.size
  ap : ∀ b, vi.ownBlock = some b → vg.ownBlock ≠ some b
theorem Sor2.due {w wr w' : World} {cb n cap : Nat} {ao : Option Addr} {F : Nat → Prop} {now m : Int} {le l' : List Hp.E} {vi vg : Value} {xs got : List Int} (h : Sor2 w wr cb ao n cap F now le vi vg xs got) (hc : ClockAt w' cb F m l') (hk : Keeps F wr w') : Sor2 w w' cb ao n cap F m l' vi vg xs got :=
  ⟨h.s.step hc (fun b e => Or.inl e) hk, h.o.keeps hk h.og, h.og, h.i.keeps hk h.oi, h.oi, fun b e => by have := h.iv b e; have := hk.size; omega, h.ap⟩
theorem Sor2.fresh {w wr w' : World} {cb n cap : Nat} {ao : Option Addr} {F : Nat → Prop} {now : Int} {le : List Hp.E} {vi vg : Value} {xs got : List Int} (h : Sor2 w wr cb ao n cap F now le vi vg xs got) (hk : Keeps (fun _ => False) wr w') : Sor2 w w' cb ao n cap F now le vi vg xs got :=
  ⟨h.s.other hk (fun _ _ e => e) (fun _ e => absurd e id), h.o.keeps hk (fun _ _ e => e), h.og, h.i.keeps hk (fun _ _ e => e), h.oi, fun b e => by have := h.iv b e; have := hk.size; omega, h.ap⟩
theorem Sor2.app {w wr w' : World} {cb n cap : Nat} {ao : Option Addr} {F : Nat → Prop} {now : Int} {le : List Hp.E} {vi vg v' : Value} {xs got got' : List Int} (hcb : w.heap.size < cb) (h : Sor2 w wr cb ao n cap F now le vi vg xs got) (ho : OwnI w' cb v' got') (hk : Keeps (fun b => vg.ownBlock = some b) wr w') (hN : ∀ b, v'.ownBlock = some b → vg.ownBlock = some b ∨ wr.heap.size ≤ b) : Sor2 w w' cb ao n cap F now le vi v' xs got' := by
  refine ⟨h.s.other hk (fun b hb e => h.og b e hb) (fun b e => by have := (World.ownsRow.lt h.o b e).1; omega), ho, fun b hb e => ?_, h.i.keeps hk (fun b hb e => h.ap b hb e), h.oi, fun b e => by have := h.iv b e; have := hk.size; omega, fun b e q => ?_⟩
  · rcases hN b hb with q | q
    · exact h.og b q e
    · have := h.s.c.fl b e; omega
  · rcases hN b q with r | r
    · exact h.ap b e r
    · have := (h.iv b e).2; omega
theorem Sor2.start {w wr : World} {cb n cap : Nat} {ao : Option Addr} {F : Nat → Prop} {now : Int} {le : List Hp.E} {vi : Value} {xs : List Int} (h : Sor w wr cb ao n cap F now le) (hi : IntsAt wr vi xs) (hoi : Off vi F) (hiv : ∀ b, vi.ownBlock = some b → cb ≤ b ∧ b < wr.heap.size) : Sor2 w wr cb ao n cap F now le vi (.slice none 0 0) xs [] :=
  ⟨h, ownI_nil _ _, (fun b hb => by cases hb), hi, hoi, hiv, fun b _ q => by cases q⟩
theorem GotR.len {l : List Int} {le : List Hp.E} {got : List Int} (h : GotR l le got) : got.length + le.length ≤ l.length := by
  have h1 := h.perm.length_eq
  have h2 := idsN_len l l.length
  unfold entsN at h1
  simp at h1
  omega

set_option maxHeartbeats 3200000 in
set_option maxRecDepth 100000 in
theorem clockSorts_any (v : Value) (l : List Int) (w : World) (hv : NumsAt .i64 w v l) :
    Calls Try.prog 3 #[v] w fun e w' => e = .returned (.bool true) ∧ Below w.heap.size w w' := by
  obtain ⟨ao, n, cap, rfl, hn, hnc, hcm, hx, -⟩ := hv
  unfold maxLen at hcm
  have HB0 : Hid (Below w.heap.size w (w.alloc (.cells #[.slice ao n cap] 22))) := Lib.hid ((Below.refl _ _).alloc (Nat.le_refl _) _)
  have hbx : Hid (∀ W, Below (w.heap.size + 1) (w.alloc (.cells #[.slice ao n cap] 22)) W → W.cell? ⟨w.heap.size, 0, none⟩ = some (.slice ao n cap)) := Lib.hid fun W hb => by
    rw [hb.cell (p := ⟨w.heap.size, 0, none⟩) (Nat.lt_succ_self _)]; exact (Box.new w _ _).cell
  by_cases hbig : 200 < n
  · have h1i : (200 : Int) < (n : Int) := by omega
    clear hn hx
    go_enter Try.func3, Try.ntmps3
    go_wp2_with fail
    refine (clocked_any _).mono ?_
    rintro e w1 ⟨rfl, hb1⟩
    have hc0 := hbx.out w1 (hb1.mono (B' := w.heap.size + 1) (by simp))
    have HB1 := Lib.hid (HB0.out.trans (hb1.mono (B' := w.heap.size) (by simp)))
    clear hb1
    go_wp2_with fail
    go_ret
    exact ⟨rfl, HB1.out⟩
  · have h1i : ¬ (200 : Int) < (n : Int) := by omega
    have HX := Lib.hid hx
    have HN := Lib.hid hn
    clear hx hn
    go_enter Try.func3, Try.ntmps3
    go_wp2_with fail
    refine (clocked_any _).mono ?_
    rintro e w1 ⟨rfl, hb1⟩
    have hc0 := hbx.out w1 (hb1.mono (B' := w.heap.size + 1) (by simp))
    have hs1 : w.heap.size < w1.heap.size := by have := hb1.size; simp at this; omega
    have HB1 := Lib.hid (HB0.out.trans (hb1.mono (B' := w.heap.size) (by simp)))
    clear hb1 hbx
    go_wp2_with fail
    have HS0 : Hid (Sor1 w (w1.alloc (.cells #[.int .i64 0, .slice none 0 0, .map none, .nilFunc] 31)) w1.heap.size ao n cap l (fun b => b = w1.heap.size) [] (.slice none 0 0) 0) := Lib.hid (by
      refine ⟨⟨fresh_clock w1, fun b hb => by rw [hb]; exact hs1, ?_, HB1.out.alloc HB1.out.size _, by simp⟩, List.Perm.refl _, ownI_nil _ _, fun b hb => by cases hb⟩
      rw [((Below.refl w1.heap.size w1).alloc (Nat.le_refl _) _).cell (p := ⟨w.heap.size, 0, none⟩) hs1]; exact hc0)
    generalize w1.alloc (.cells #[.int .i64 0, .slice none 0 0, .map none, .nilFunc] 31) = w2 at *
    clear hc0
    go_loopw [4, 5] (fun vi i wr => ∃ (k : Nat) (F : Nat → Prop) (le : List Hp.E), k ≤ n ∧ i = .int .i64 (k : Int) ∧ Sor1 w wr w1.heap.size ao n cap l F le vi k) (fun _ i _ => n - (intOf i).toNat)
    case atStart => exact ⟨0, _, _, Nat.zero_le _, rfl, HS0.out⟩
    case round =>
      obtain ⟨k, F, le, hk, rfl, hS⟩ := hrel
      clear HS0
      have HS := Lib.hid hS
      have hbox := hS.s.box
      clear hS
      by_cases hkn : k < n
      · obtain ⟨b, o, rfl, hbl, hcell⟩ := HX.out (by omega)
        have HC : Hid (∀ W : World, Below w.heap.size w W → W.cell? ⟨b, o + k, none⟩ = some (.int .i64 (l.getD k 0))) := Lib.hid fun W h => by rw [h.cell (p := ⟨b, o + k, none⟩) hbl]; exact hcell k hkn
        have hc := HC.out _ HS.out.s.below
        have hln : le.length < 1000 := by have := HS.out.p.length_eq; have := idsN_len l k; unfold entsN at *; simp at *; omega
        have HWK := Lib.hid (wf_small (k : Int) (by omega) (by omega))
        have hki : (k : Int) < (n : Int) := by omega
        clear hcell hbl
        by_cases hpos : 0 ≤ l.getD k 0
        · go_wp2_with fail
          refine (cset_any _ HS.out.s.c (l.getD k 0) k HWK.out hln).mono ?_
          rintro e w3 ⟨r3, F3, l3, rfl, hC3, hG3, hK3, hR3⟩
          obtain ⟨rfl, hS3, hP3, hO3, hF3⟩ := HS.out.yes hpos hC3 hG3 hK3 hR3
          have HS3 := Lib.hid hS3
          have HP3 := Lib.hid hP3
          have HO3 := Lib.hid hO3
          have HF3 := Lib.hid hF3
          clear hC3 hG3 hK3 hR3 hS3 hP3 hO3 hF3
          have hl3 : ((idsN l k).map fun i : Nat => (i : Int)).length ≤ 1000000 := by rw [List.length_map]; have := idsN_len l k; omega
          have HL3 := Lib.hid hl3
          clear hl3
          go_wp2_with (at_builtin; refine wpList_appendI rfl _ _ rfl _ w1.heap.size _ _ (k : Int) HO3.out rfl rfl HL3.out (Nat.le_of_lt HS3.out.big) ?_; intro a4 c4 w4 hO4 hK4 hN4; have HS4 := Lib.hid (Sor1.note hs1 hpos HS3.out HP3.out HO3.out HF3.out hO4 hK4 hN4); clear hO4 hK4 hN4)
          go_roundw
          case rel => exact ⟨k + 1, _, _, by omega, by go_num, by have h := HS4.out; rw [List.length_map] at h; exact h⟩
          case measure => simp [intOf]; omega
        · obtain ⟨x, hxd⟩ : ∃ x, x = l.getD k 0 := ⟨_, rfl⟩
          have HNO : Hid (∀ (w' : World) (F' : Nat → Prop) (l3 : List Hp.E) (r : Value), ClockAt w' w1.heap.size F' 0 l3 → Grows wr F F' → Keeps F wr w' → SetR 0 le x (k : Int) r l3 → r = .iface 47 (.int .i64 2) ∧ Sor1 w w' w1.heap.size (some ⟨b, o, none⟩) n cap l F' l3 u4 (k + 1)) := Lib.hid fun w' F' l3 r a b c d => HS.out.no hpos a b c (by rw [← hxd]; exact d)
          have HC2 : Hid (∀ W : World, Below w.heap.size w W → W.cell? ⟨b, o + k, none⟩ = some (.int .i64 x)) := Lib.hid (by rw [hxd]; exact HC.out)
          rw [← hxd] at hc hpos
          clear HC hxd
          have hx1 : x < 0 := by omega
          go_wp2_with fail
          refine (cset_any _ HS.out.s.c x k HWK.out hln).mono ?_
          rintro e w3 ⟨r3, F3, l3, rfl, hC3, hG3, hK3, hR3⟩
          obtain ⟨rfl, hS3⟩ := HNO.out _ _ _ _ hC3 hG3 hK3 hR3
          have HS3 := Lib.hid hS3
          have hbox3 := HS3.out.s.box
          have hc3 := HC2.out _ HS3.out.s.below
          clear hC3 hG3 hK3 hR3 hS3
          go_wp2_with fail
          go_roundw
          case rel => exact ⟨k + 1, _, _, by omega, by go_num, HS3.out⟩
          case measure => simp [intOf]; omega
      · obtain rfl : n = k := by omega
        go_wp2_with fail
        refine (sort_ids wr l (idsN l n) u4 w1.heap.size w.heap.size n cap ao HN.out HS.out.o (by have := idsN_len l n; omega) (idsN_rise l n) (idsN_lt l n) HS.out.s.box (fun h => by
          obtain ⟨b, o, e, hbl, hcell⟩ := HX.out h
          exact ⟨b, o, e, Nat.lt_trans hbl hs1, fun i hi => by rw [HS.out.s.below.cell (p := ⟨b, o + i, none⟩) hbl]; exact hcell i hi⟩) hs1).mono ?_
        rintro e w4 ⟨rfl, xs, hxs, hxm, hxi, hxk⟩
        have HXS := Lib.hid hxs
        have HXM := Lib.hid hxm
        have HXI := Lib.hid hxi
        have HS4 : Hid (Sor w w4 w1.heap.size ao n cap F 0 le) := Lib.hid (HS.out.s.other hxk (fun b hb e => HS.out.off b e hb) (fun b e => by have := (World.ownsRow.lt HS.out.o b e).1; omega))
        have HP4 := Lib.hid HS.out.p
        have HOF := Lib.hid HS.out.off
        have HVI : Hid (∀ b, u4.ownBlock = some b → w1.heap.size ≤ b ∧ b < w4.heap.size) := Lib.hid fun b e => by have := World.ownsRow.lt HS.out.o b e; have := hxk.size; omega
        clear hxs hxm hxi hxk HS hbox
        go_wp2_with fail
        have HG0 : Hid (GotR l le []) := Lib.hid (GotR.start (by have h := HP4.out; rw [HN.out] at h; exact h))
        have HL0 : Hid (le.length ≤ n - 0) := Lib.hid (by have := HG0.out.len; have := HN.out; omega)
        have HT0 : Hid (Sor2 w w4 w1.heap.size ao n cap F 0 le u4 (.slice none 0 0) xs []) := Lib.hid (Sor2.start HS4.out HXI.out HOF.out HVI.out)
        go_loopw [6, 7] (fun vg i wr => ∃ (k : Nat) (now : Int) (le : List Hp.E) (got : List Int), k ≤ n + 1 ∧ i = .int .i64 (k : Int) ∧ le.length ≤ n - k ∧ GotR l le got ∧ Sor2 w wr w1.heap.size ao n cap F now le u4 vg xs got) (fun _ i _ => n + 1 - (intOf i).toNat)
        case atStart => exact ⟨0, 0, le, [], Nat.zero_le _, rfl, HL0.out, HG0.out, HT0.out⟩
        case round =>
          obtain ⟨k, now, le5, got, hk5, rfl, hl5, hg5, ht5⟩ := hrel
          have HG5 := Lib.hid hg5
          have HT5 := Lib.hid ht5
          have HL5 := Lib.hid hl5
          have hbox5 := ht5.s.box
          clear hg5 ht5 hl5 HG0 HL0 HT0 HS4 HP4 HXI HVI
          by_cases hkn : k ≤ n
          · have hki : (k : Int) ≤ (n : Int) := by omega
            go_wp2_with fail
            refine (cdue_any _ HT5.out.s.c).mono ?_
            rintro e w6 ⟨vd, ids, m, l6, rfl, hO6, hC6, hK6, hR6⟩
            obtain ⟨hG6, hF6, hlen6⟩ := HG5.out.due hR6
            have HG6 := Lib.hid hG6
            have HF6 := Lib.hid hF6
            have HL6 : Hid (l6.length ≤ n - (k + 1)) := Lib.hid (by have := HL5.out; omega)
            have HT6 := Lib.hid (HT5.out.due hC6 hK6)
            obtain ⟨ad, cd, rfl⟩ := hO6.slice
            have HO6 := Lib.hid hO6
            have HI6 := Lib.hid hO6.ints
            have hbox6 := HT6.out.s.box
            clear hO6 hC6 hK6 hR6 hG6 hF6 hlen6 hbox5
            go_wp2_with fail
            go_loopw [9] (fun i wq => ∃ (j q : Nat), j ≤ ids.length ∧ i = .int .i64 (j : Int) ∧ wq = w6.drewN q) (fun i _ => ids.length - (intOf i).toNat)
            case atStart => exact ⟨0, 0, Nat.zero_le _, rfl, rfl⟩
            case round =>
              obtain ⟨j, q, hj, rfl, rfl⟩ := hrel
              by_cases hjn : j < ids.length
              · have hIx := HI6.out
                obtain ⟨a3, n3, c3, hv3, hn3, _, hcm3, hx3⟩ := hIx
                cases hv3
                obtain ⟨b2, o2, rfl, hbl2, hcell2⟩ := hx3 (by omega)
                obtain ⟨jn, hy1, hy2, hy3⟩ := HF6.out (ids.getD j 0) (by rw [List.getD_eq_getElem?_getD, List.getElem?_eq_getElem hjn]; exact List.getElem_mem hjn)
                have hjl : jn < n := by have := HN.out; omega
                obtain ⟨lb, lo, rfl, hlb, hlc⟩ := HX.out (by omega)
                have hd1 := hcell2 j hjn
                rw [hy1] at hd1
                have hd2 : w6.cell? ⟨lb, lo + jn, none⟩ = some (.int .i64 m) := by
                  rw [HT6.out.s.below.cell (p := ⟨lb, lo + jn, none⟩) hlb, ← hy3]; exact hlc jn hjl
                have hj1 : (0 : Int) ≤ (j : Int) ∧ (j : Int) < (ids.length : Int) := by omega
                have hj2 : (j : Int) < (ids.length : Int) := by omega
                have hj3 : (0 : Int) ≤ (jn : Int) ∧ (jn : Int) < (n : Int) := by omega
                have hj4 : decide ((jn : Int) < 0) = false := decide_eq_false (by omega)
                have hj5 : decide ((n : Int) ≤ (jn : Int)) = false := decide_eq_false (by omega)
                have hw1 : IntKind.i64.wrap (jn : Int) = (jn : Int) := IntWalk.i64_in _ (by omega)
                have HNW : Hid (∀ z, Calls Try.prog 11 #[.pointer (some ⟨w1.heap.size, 0, none⟩)] (w6.drewN (q + z)) fun e w' => e = .returned (.int .i64 m) ∧ ∃ n, w' = w6.drewN (q + n)) := Lib.hid (by
                  intro z
                  refine (cnow_any _ (HT6.out.fresh (keepsDrawn w6 (q + z))).s.c).mono ?_
                  rintro e w' ⟨rfl, rfl⟩
                  exact ⟨rfl, z, rfl⟩)
                have hil : (ids.length : Int) ≤ 200 := by have := HG6.out.len; have := HN.out; rw [List.length_append] at *; omega
                clear hcell2 hx3 hlc hy1 hy2 hy3 hbl2 hlb hcm3
                go_upto_region 23 with fail
                go_quiet ((first | (go_at_call 11; exact HNW.out _)))
                go_wp2_with fail
                go_roundw
                case rel => exact ⟨j + 1, _, by omega, by go_num, rfl⟩
                case measure => simp [intOf]; omega
              · obtain rfl : ids.length = j := by omega
                have HT7 := Lib.hid (HT6.out.fresh (keepsDrawn w6 q))
                have HO7 := Lib.hid (HO6.out.keeps (keepsDrawn w6 q) (fun _ _ e => e))
                have HL7 : Hid (got.length + ids.length ≤ 1000000) := Lib.hid (by have := HG6.out.len; have := HN.out; rw [List.length_append] at *; omega)
                clear HT6 HO6 HI6 hbox6 HT5
                generalize w6.drewN q = w7 at *
                go_wp2_with (at_builtin; refine wpList_appendIs rfl _ _ rfl _ w1.heap.size wr.heap.size _ _ got ids HT7.out.o rfl HO7.out rfl HL7.out (Nat.le_of_lt HT7.out.s.big) ?_; intro v8 w8 hO8 hK8 hN8; have HT8 := Lib.hid (HT7.out.app hs1 hO8 hK8 hN8); clear hO8 hK8 hN8)
                go_roundw
                case rel => exact ⟨k + 1, m, l6, got ++ ids, by omega, by go_num, HL6.out, HG6.out, HT8.out⟩
                case measure => simp [intOf]; omega
          · obtain rfl : k = n + 1 := by omega
            have hle : le5 = [] := List.eq_nil_of_length_eq_zero (by have := HL5.out; omega)
            subst hle
            have hgx : got = xs := HG5.out.done HXS.out (by have h := HXM.out; rw [HN.out] at h; exact h)
            subst hgx
            have HBE : Hid (∀ m, Below w.heap.size w (wr.drewN m)) := Lib.hid fun m => (HT5.out.fresh (keepsDrawn wr m)).s.below
            clear HG5 HL5
            go_wp2_with fail
            refine (equalI_any _ _ got _ HT5.out.o.ints HT5.out.i).mono ?_
            rintro e w' ⟨rfl, m2, rfl⟩
            have hC9 := (HT5.out.fresh (keepsDrawn wr m2)).s.c
            have HC9 := Lib.hid hC9
            clear hC9 hbox5
            go_wp2_with fail
            refine (clen_any _ HC9.out).mono ?_
            rintro e w' ⟨rfl, rfl⟩
            go_wp2_with fail
            go_ret
            exact ⟨rfl, HBE.out _⟩
end Go.Proofs.Ytonpbbflloljgaa
