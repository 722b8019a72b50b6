/-
  The walk of the reference's Due, and of the laws' sameInts at lists that are the same.
-/
import Derived.Test.YthdckapgpibmiaaDoorRefClock
import Derived.Test.YthdckapgpibmiaaDoorOwnI
import Derived.Test.YthdckapgpibmiaaDoorShelf
import Derived.Lib.OwnBridge
import Derived.Sort.Grow
namespace Go.Proofs.YthdckapgpibmiaaDoor
open Go.RowKit Go.Maps

theorem ranges_keeps {S : Nat → Prop} {w w' : World} {R : Value → Option (DataW Unit × List MemPlace)} {k : TypeId} {b r n : Nat} {D : DataW Unit} {left : Lit → Bool} {cnt : Nat} (h : w.ranges Tryd.prog k R b r n D left cnt) (hk : Keeps S w w') (h1 : ¬ S b) (h2 : ¬ S r) : w'.ranges Tryd.prog k R b r n D left cnt := by
  obtain ⟨es, clock, since, seen, c0, hb, F, hs, hD, hr, rest⟩ := h
  exact ⟨es, clock, since, seen, c0, by rw [hk.block b (Array.getElem?_eq_some_iff.1 hb).1 h1]; exact hb, F, hs, hD, by rw [hk.block r (Array.getElem?_eq_some_iff.1 hr).1 h2]; exact hr, rest⟩
theorem keeps_sorted {enc : Int → Value} (w : World) (g q : Nat) (d : Array Int) (os : Array Obj) : Keeps (fun b => b = g) w (Sort.grow (Sort.putRow enc (Sort.ahead w q) g 0 d) os) := by
  refine ⟨rfl, rfl, rfl, ?_, fun k hk hn => ?_⟩
  · simp [Sort.grow, Sort.putRow, Sort.mapBlock, Sort.ahead]
  · have hgk : g ≠ k := fun e => hn e.symm
    have e1 : (Sort.grow (Sort.putRow enc (Sort.ahead w q) g 0 d) os).heap = (w.heap.modify g (Sort.onCells (Sort.putCells enc 0 d))) ++ os := rfl
    rw [e1, Array.getElem?_append_left (by simpa using hk), Array.getElem?_modify, if_neg hgk]
theorem ownI_sorted {w : World} {B g n cap q : Nat} {zs ys : List Int} {os : Array Obj} (h : OwnI w B (.slice (some ⟨g, 0, none⟩) n cap) zs) (hn : n = zs.length) (hy : ys.length = zs.length) : OwnI (Sort.grow (Sort.putRow (Value.int .i64) (Sort.ahead w q) g 0 ys.toArray) os) B (.slice (some ⟨g, 0, none⟩) n cap) ys := by
  subst hn
  have h1 := Lib.ownsRow_putRow (q := q) (k := zs.length) (ys := ys) h hy (Nat.le_refl _)
  rw [← hy, List.take_length] at h1
  have hk : Keeps (fun _ => False) (Sort.putRow (Value.int .i64) (Sort.ahead w q) g 0 ys.toArray) (Sort.grow (Sort.putRow (Value.int .i64) (Sort.ahead w q) g 0 ys.toArray) os) :=
    Keeps.of_new ⟨rfl, rfl, rfl, by simp [Sort.grow], fun k hk => Array.getElem?_append_left hk⟩
  rw [← hy]
  exact hk.row h1 fun _ _ => id

/-- What Due comes to. -/
def RefDueP (w : World) (rb mb : Nat) (now : Int) (l : List Hp.E) (e : Ending) (w' : World) : Prop :=
  ∃ (v : Value) (ids : List Int) (m : Int) (D' : DataW Unit) (l' : List Hp.E), e = .returned v ∧ OwnI w' w.heap.size v ids ∧ RefC w' rb mb m D' l' ∧ Keeps (fun b => b = rb ∨ b = mb) w w' ∧
    ((l = [] ∧ ids = [] ∧ m = now ∧ l' = []) ∨ ((∃ e ∈ l, e.1 = m) ∧ (∀ e ∈ l, m ≤ e.1) ∧ ids.Pairwise (· < ·) ∧ (∀ id, id ∈ ids ↔ (m, id) ∈ l) ∧ l' = l.filter fun e => decide (m < e.1)))
/-- Those of the earliest time that have come so far. -/
structure DueJ (w2 wr : World) (rb mb r B : Nat) (x : Int) (D : DataW Unit) (l : List Hp.E) (v : Value) (ks : List Int) (left : Lit → Bool) (cnt : Nat) : Prop where
  rg : wr.ranges Tryd.prog 3 (plainElem Tryd.prog 3) mb r 1000000 D left cnt
  own : OwnI wr B v ks
  c : RefC wr rb mb x D l
  mem : ∀ id, id ∈ ks ↔ (x, id) ∈ l ∧ left (.int .i64 id) = false
  nod : ks.Nodup
  k : Keeps (fun _ => False) w2 wr
  lo : w2.heap.size ≤ r
  hi : r < B
  size : B ≤ wr.heap.size
  len : ks.length + cnt ≤ l.length
  rlt : rb < w2.heap.size
  mlt : mb < w2.heap.size
  wf : ∀ k ∈ ks, (Lit.int .i64 k).wf = true
theorem struck_iff {left : Lit → Bool} {a id : Int} : (left (.int .i64 a) && !(Lit.int .i64 a).sameKey (.int .i64 id)) = false ↔ left (.int .i64 a) = false ∨ a = id :=
  ⟨struck, fun h => by
    rcases h with h | rfl
    · rw [h]; rfl
    · exact struck_self left a⟩
/-- One that comes at another time. -/
theorem DueJ.pass {w2 wr w1 : World} {rb mb r B : Nat} {x : Int} {D : DataW Unit} {l : List Hp.E} {v : Value} {ks : List Int} {left : Lit → Bool} {cnt cnt1 : Nat} (h : DueJ w2 wr rb mb r B x D l v ks left cnt) {id c : Int} (hat : ∀ z, D.atKey (.int .i64 id) z = .lit (.int .i64 c))
    (hlx : left (.int .i64 id) = true) (hrg : w1.ranges Tryd.prog 3 (plainElem Tryd.prog 3) mb r 1000000 D (fun z => left z && !z.sameKey (.int .i64 id)) cnt1) (hg : wr.grownBy w1 (some r)) (hlt : cnt1 < cnt) (hne : c ≠ x) : DueJ w2 w1 rb mb r B x D l v ks (fun z => left z && !z.sameKey (.int .i64 id)) cnt1 := by
  have hin := h.c.tell.mem hat
  have hk : Keeps (fun b => b = r) wr w1 := Keeps.of_grownBy hg fun k _ e => by injection e with e; exact e.symm
  have h1 := h.lo
  have h2 := h.hi
  have h3 := h.rlt
  have h4 := h.mlt
  refine ⟨hrg, h.own.keeps hk (fun k e e2 => by have := h.own.le k e; omega), h.c.keeps hk (by omega) (by omega), fun j => ?_, h.nod, h.k.trans' hk (fun i hi e => by omega), h1, h2, Nat.le_trans h.size hk.size, by have := h.len; omega, h3, h4, h.wf⟩
  rw [h.mem, struck_iff]
  constructor
  · rintro ⟨e1, e2⟩; exact ⟨e1, Or.inl e2⟩
  · rintro ⟨e1, e2 | rfl⟩
    · exact ⟨e1, e2⟩
    · have := h.c.tell.same e1 hin rfl
      injection this with e3 _
      exact absurd e3.symm hne
/-- One of that time. -/
theorem DueJ.take {w2 wr w1 w3 : World} {rb mb r B : Nat} {x : Int} {D : DataW Unit} {l : List Hp.E} {v v' : Value} {ks : List Int} {left : Lit → Bool} {cnt cnt1 : Nat} (h : DueJ w2 wr rb mb r B x D l v ks left cnt) {id : Int} (hat : ∀ z, D.atKey (.int .i64 id) z = .lit (.int .i64 x))
    (hlx : left (.int .i64 id) = true) (hrg : w1.ranges Tryd.prog 3 (plainElem Tryd.prog 3) mb r 1000000 D (fun z => left z && !z.sameKey (.int .i64 id)) cnt1) (hg : wr.grownBy w1 (some r)) (hlt : cnt1 < cnt)
    (hwx : (Lit.int .i64 id).wf = true) (hO : OwnI w3 B v' (ks ++ [id])) (hK : Keeps (fun b => v.ownBlock = some b) w1 w3) : DueJ w2 w3 rb mb r B x D l v' (ks ++ [id]) (fun z => left z && !z.sameKey (.int .i64 id)) cnt1 := by
  have hin := h.c.tell.mem hat
  have hk : Keeps (fun b => b = r) wr w1 := Keeps.of_grownBy hg fun k _ e => by injection e with e; exact e.symm
  have h1 := h.lo
  have h2 := h.hi
  have h3 := h.rlt
  have h4 := h.mlt
  refine ⟨ranges_keeps hrg hK (fun e => by have := h.own.le mb e; omega) (fun e => by have := h.own.le r e; omega), hO, ?_, fun j => ?_, ?_, (h.k.trans' hk (fun i hi e => by omega)).trans' hK (fun i hi e => ?_), h1, h2, Nat.le_trans h.size (Nat.le_trans hk.size hK.size), by rw [List.length_append]; have := h.len; simp; omega, h3, h4, fun k hk => (List.mem_append.1 hk).elim (h.wf k) fun e => by rw [List.mem_singleton] at e; rw [e]; exact hwx⟩
  · exact (h.c.keeps hk (by omega) (by omega)).keeps hK (fun e => by have := h.own.le rb e; omega) (fun e => by have := h.own.le mb e; omega)
  · rw [List.mem_append, h.mem, struck_iff, List.mem_singleton]
    constructor
    · rintro (⟨e1, e2⟩ | rfl)
      · exact ⟨e1, Or.inl e2⟩
      · exact ⟨hin, Or.inr rfl⟩
    · rintro ⟨e1, e2 | e2⟩
      · exact Or.inl ⟨e1, e2⟩
      · exact Or.inr e2
  · rw [List.nodup_append]
    refine ⟨h.nod, by simp, fun a ha b hb e => ?_⟩
    rw [List.mem_singleton] at hb
    rw [e, hb] at ha
    have := ((h.mem id).1 ha).2
    rw [hlx] at this
    cases this
  · have := h.own.le i e
    omega

/-- What is left behind the first j of those that came. -/
def leftOfD (l : List Hp.E) (ks : List Int) (j : Nat) : List Hp.E := l.filter fun e => !decide (e.2 ∈ ks.take j)
theorem leftOfD_zero (l : List Hp.E) (ks : List Int) : leftOfD l ks 0 = l := by simp [leftOfD]
theorem leftOfD_succ (l : List Hp.E) (ks : List Int) (j : Nat) (h : j < ks.length) : (leftOfD l ks j).filter (fun e => !decide (e.2 = ks.getD j 0)) = leftOfD l ks (j + 1) := by
  unfold leftOfD
  rw [List.filter_filter]
  refine List.filter_congr fun e _ => ?_
  have e1 : ks.getD j 0 = ks[j] := by rw [List.getD_eq_getElem?_getD, List.getElem?_eq_getElem h]; rfl
  have hmem : e.2 ∈ ks.take (j + 1) ↔ e.2 ∈ ks.take j ∨ e.2 = ks[j] := by rw [List.take_succ_eq_append_getElem h, List.mem_append, List.mem_singleton]
  rw [e1, Bool.eq_iff_iff]
  simp only [Bool.and_eq_true, Bool.not_eq_true', decide_eq_false_iff_not, hmem, not_or]
  exact and_comm
theorem leftOfD_len (l : List Hp.E) (ks : List Int) (j : Nat) : (leftOfD l ks j).length ≤ l.length := List.length_filter_le _ _
theorem leftOfD_all {D : DataW Unit} {l : List Hp.E} {ks : List Int} {x : Int} (hm : MapOf D l) (hle : ∀ e ∈ l, x ≤ e.1) (hk : ∀ id, id ∈ ks ↔ (x, id) ∈ l) : leftOfD l ks ks.length = l.filter fun e => decide (x < e.1) := by
  unfold leftOfD
  rw [List.take_length]
  refine List.filter_congr fun e he => ?_
  have := hle e he
  by_cases h : e.1 = x
  · have h1 : e.2 ∈ ks := (hk e.2).2 (by rw [← h]; exact he)
    simp [h1, h]
  · have h1 : e.2 ∉ ks := fun h1 => h (by rw [hm.same he ((hk e.2).1 h1) rfl])
    simp [h1]; omega

set_option maxRecDepth 100000 in
set_option maxHeartbeats 3200000 in
theorem refDue_any {rb mb : Nat} {now : Int} {D : DataW Unit} {l : List Hp.E} (w : World) (h : RefC w rb mb now D l) :
    Calls Tryd.prog 25 #[.pointer (some ⟨rb, 0, none⟩)] w fun e w' => RefDueP w rb mb now l e w' := by
  have HH := Lib.hid h
  clear h
  go_enter Tryd.func25, Tryd.ntmps25
  go_wp2_with fail
  refine (refNext_any w HH.out).mono ?_
  rintro e w1 ⟨x, b, rfl, hb1, hx⟩
  have H1 := Lib.hid (HH.out.keeps (Keeps.of_new hb1) (S := fun _ => False) id id)
  have HB1 := Lib.hid hb1
  have HX := Lib.hid hx
  clear hb1 hx
  cases b with
  | false =>
    go_wp2_with fail
    go_ret
    unfold RefDueP
    rcases HX.out with ⟨e, _⟩ | ⟨_, _, hl⟩
    · cases e
    · exact ⟨_, [], now, D, l, rfl, ownI_nil _ _, H1.out, Keeps.of_new HB1.out, Or.inl ⟨hl, rfl, rfl, hl⟩⟩
  | true =>
    have a0 := H1.out.c0
    have a1 := H1.out.c1
    have z0 := H1.out.z0
    have HXX : Hid ((∃ e ∈ l, e.1 = x) ∧ ∀ e ∈ l, x ≤ e.1) := Lib.hid (by
      rcases HX.out with ⟨_, h1⟩ | ⟨e, _⟩
      · exact h1
      · cases e)
    have hks : Keeps (fun b => b = rb) w1 (w1.setCell ⟨rb, 0, none⟩ (.int .i64 x)) := (Keeps.refl (fun b => b = rb) w1).setCell (p := ⟨rb, 0, none⟩) (Or.inl rfl) _
    have H2 : Hid (RefC (w1.setCell ⟨rb, 0, none⟩ (.int .i64 x)) rb mb x D l) := Lib.hid ⟨World.cell?_setCell_same _ _ _ a0, (World.cell?_setCell_other _ _ _ _ (by intro e; injection e with _ e; omega)).trans a1, by rw [World.frozen?_setCell]; exact z0, hks.map H1.out.map (fun e => H1.out.ne e.symm), H1.out.tell, H1.out.len⟩
    have HK2 : Hid (Keeps (fun b => b = rb ∨ b = mb) w (w1.setCell ⟨rb, 0, none⟩ (.int .i64 x))) := Lib.hid ((Keeps.of_new HB1.out).trans' hks fun i _ e => Or.inl e)
    clear hks HX
    go_upto_region 6 with fail
    clear a0 z0
    have b1 := H2.out.c1
    generalize w1.setCell ⟨rb, 0, none⟩ (.int .i64 x) = w2 at *
    go_wp2_with (at_range; refine wpList_range_own _ rfl _ 50 rfl 3 3 keyedI Tryd.underlying50 _ mb 1000000 D rfl H2.out.map ?_; intro w3 hrg3 hg3 hs3; have HR3 := Lib.hid hrg3; have HG3 := Lib.hid hg3; have HS3 := Lib.hid hs3; clear hrg3 hg3 hs3)
    have HJ3 : Hid (DueJ w2 w3 rb mb w2.heap.size (w2.heap.size + 1) x D l (.slice none 0 0) [] (Maps.has D) (Maps.size D)) := Lib.hid (by
      have hk : Keeps (fun _ => False) w2 w3 := ⟨HG3.out.os, HG3.out.tape, HG3.out.output, HG3.out.size, fun i hi _ => HG3.out.block i hi (by simp)⟩
      refine ⟨HR3.out, ownI_nil _ _, H2.out.keeps hk id id, fun id => ⟨fun e => (by cases e), fun ⟨h1, h2⟩ => ?_⟩, List.nodup_nil, hk, Nat.le_refl _, Nat.lt_succ_self _, Nat.le_of_eq HS3.out.symm, by rw [H2.out.tell.size]; simp, H2.out.lt, H2.out.map.lt, (fun k hk => by cases hk)⟩
      rw [(H2.out.tell.has id).2 (idIn_iff.2 ⟨_, h1, rfl⟩)] at h2
      cases h2)
    go_frame
    go_loopw [5] (fun v wr => ∃ (ks : List Int) (left : Lit → Bool) (cnt : Nat), DueJ w2 wr rb mb w2.heap.size (w2.heap.size + 1) x D l v ks left cnt) (fun _ wr => wr.rangeLeft mb w2.heap.size)
    case atStart => exact ⟨[], _, _, HJ3.out⟩
    case round =>
      obtain ⟨ks, left, cnt, hJ⟩ := hrel
      obtain ⟨a5, c5, hv5⟩ := hJ.own.slice
      subst hv5
      have HJ := Lib.hid hJ
      have hm0 : wr.rangeLeft mb w2.heap.size = cnt := hJ.rg.left_eq
      have hkl : ks.length ≤ 1000 := by have := hJ.len; have := HH.out.len; omega
      have c1 := hJ.c.c1
      clear hJ HJ3 HR3 HG3 HS3 a1
      go_wp2_with (at_next; refine wpList_next_ranges_ii _ rfl _ rfl 3 3 .i64 .i64 keyedI Tryd.underlying3 Tryd.underlying3 mb w2.heap.size 1000000 _ _ _ rfl HJ.out.rg ?_ ?_)
      · intro hc0 hl0
        have HL0 := Lib.hid hl0
        clear hl0
        have HMEM : Hid (∀ id, id ∈ ks ↔ (x, id) ∈ l) := Lib.hid fun id => ⟨fun h => ((HJ.out.mem id).1 h).1, fun h => (HJ.out.mem id).2 ⟨h, HL0.out _⟩⟩
        have hkn : 0 < ks.length := by
          obtain ⟨⟨e, he, h1⟩, _⟩ := HXX.out
          exact List.length_pos_of_mem ((HMEM.out e.2).2 (by rw [← h1]; exact he))
        obtain ⟨g, c, hgv, hgB, hgl, _, hcm, _, hHl⟩ := Lib.holds_of_ownsRow HJ.out.own (by intro e; rw [Value.slice.injEq] at e; omega)
        rw [Value.slice.injEq] at hgv
        obtain ⟨rfl, _, rfl⟩ := hgv
        have HC0 : Hid (RefC wr rb mb x D (leftOfD l ks 0)) := Lib.hid (by rw [leftOfD_zero]; exact HJ.out.c)
        have hmg : mb < w2.heap.size := HJ.out.mlt
        have hrg : rb < w2.heap.size := HJ.out.rlt
        clear hHl hm0
        go_wp2_with fail
        go_loopw [40] (fun i wx => ∃ (j : Nat) (Dj : DataW Unit), j ≤ ks.length ∧ i = .int .i64 j ∧ RefC wx rb mb x Dj (leftOfD l ks j) ∧ Keeps (fun b => b = mb) wr wx) (fun i _ => ks.length - (intOf i).toNat)
        case atStart => exact ⟨0, D, Nat.zero_le _, rfl, HC0.out, Keeps.refl _ _⟩
        case round =>
          obtain ⟨j, Dj, hj, rfl, hC, hkx⟩ := hrel
          have HC := Lib.hid hC
          have HKX := Lib.hid hkx
          have HOX : Hid (OwnI wr (w2.heap.size + 1) (.slice (some ⟨g, 0, none⟩) ks.length c5) ks) := Lib.hid (HJ.out.own.keeps hkx fun k e e2 => by have := HJ.out.own.le k e; omega)
          have d1 := hC.c1
          clear hC hkx HC0
          by_cases hjk : j < ks.length
          · obtain ⟨a0, n0, c0, hv0, hn0, hnc0, hcc0, hxx⟩ := HOX.out.ints
            rw [Value.slice.injEq] at hv0
            obtain ⟨rfl, rfl, rfl⟩ := hv0
            obtain ⟨vb, vo, hvb0, hvb, hcell⟩ := hxx (by omega)
            rw [Option.some.injEq, Addr.mk.injEq] at hvb0
            obtain ⟨rfl, rfl, _⟩ := hvb0
            have hcj := hcell j hjk
            rw [Nat.zero_add] at hcj
            have HWF : Hid ((Lit.int .i64 (ks.getD j 0)).wf = true) := Lib.hid (HJ.out.wf _ (by rw [List.getD_eq_getElem?_getD, List.getElem?_eq_getElem hjk]; exact List.getElem_mem _))
            have HNX : Hid (leftOfD l ks (j + 1) = (leftOfD l ks j).filter fun e => !decide (e.2 = ks.getD j 0)) := Lib.hid (leftOfD_succ l ks j hjk).symm
            clear hcell hxx hcc0
            generalize ks.getD j 0 = id at *
            go_wp2_with (at_delete; refine wpList_delete_own _ rfl _ _ 50 3 rfl 3 keyedI Tryd.underlying50 _ mb 1000000 Dj rfl HC.out.map _ _ rfl (keyOf_int_mk Tryd.underlying3 HWF.out) ?_; intro w9 hown9 hturn9; have HO9 := Lib.hid hown9; have HT9 := Lib.hid hturn9; clear hown9 hturn9)
            have hk9 : Keeps (fun b => b = mb) wr w9 := Keeps.of_grownBy HT9.out.grown fun k _ e => by cases e; rfl
            go_roundw
            case rel => exact ⟨j + 1, _, by omega, by go_num, HC.out.turn hk9 HO9.out (by rw [HNX.out]; exact HC.out.tell.del (HC.out.map.tidy keyedI) id) (Nat.le_trans (leftOfD_len _ _ _) HH.out.len), HKX.out.trans hk9⟩
            case measure => simp [intOf]; omega
          · obtain rfl : j = ks.length := by omega
            have hjj : ¬ (ks.length : Int) < (ks.length : Int) := by omega
            have hHx : Sort.Holds (Value.int .i64) wr g 0 ks.toArray := by
              obtain ⟨g', c', hgv', _, _, _, _, _, hH'⟩ := Lib.holds_of_ownsRow HOX.out (by intro e; rw [Value.slice.injEq] at e; omega)
              rw [Value.slice.injEq, Option.some.injEq, Addr.mk.injEq] at hgv'
              obtain ⟨⟨rfl, _⟩, _⟩ := hgv'
              exact hH'
            have HHX := Lib.hid hHx
            have hgx : g < wr.heap.size := Nat.lt_of_lt_of_le hgl HKX.out.size
            clear hHx
            go_wp2_with fail
            refine (Tryd.sort_Ints g 0 c5 ks wr HHX.out hgx (by omega)).mono ?_
            rintro e w9 ⟨rfl, nn, os, rfl⟩
            go_wp2_with fail
            go_ret
            have hks := keeps_sorted (enc := Value.int .i64) wr g nn (ks.mergeSort fun x y => decide (x ≤ y)).toArray os
            have hperm := List.mergeSort_perm ks fun x y => decide (x ≤ y)
            have hww : w.heap.size ≤ w2.heap.size := HK2.out.size
            have hO9 := ownI_sorted (q := nn) (os := os) HOX.out rfl (List.length_mergeSort (le := fun x y => decide (x ≤ y)) ks)
            unfold RefDueP
            refine ⟨_, _, x, Dj, _, rfl, ⟨hO9.1, hO9.2.imp id fun ⟨g, cap, cur, e1, e2, e3⟩ => ⟨g, cap, cur, e1, by omega, e3⟩⟩, HC.out.keeps hks (by omega) (by omega), ?_, Or.inr ⟨HXX.out.1, HXX.out.2, ?_, fun id => ?_, ?_⟩⟩
            · exact ((HK2.out.trans' HJ.out.k fun _ _ e => e.elim).trans' HKX.out fun i _ e => Or.inr e).trans' hks fun i hi e => by omega
            · have h1 := List.pairwise_mergeSort (le := fun x y : Int => decide (x ≤ y)) (fun a b c h1 h2 => by simp at h1 h2 ⊢; omega) (fun a b => by simp; omega) ks
              have h2 : (ks.mergeSort fun x y => decide (x ≤ y)).Nodup := hperm.nodup_iff.2 HJ.out.nod
              refine (h1.and h2).imp fun ⟨h3, h4⟩ => ?_
              simp at h3
              omega
            · rw [hperm.mem_iff]; exact HMEM.out id
            · exact leftOfD_all HH.out.tell HXX.out.2 HMEM.out
      · intro id c w4 cnt4 hwx hwc hlx hat hrg4 hlt hg4 hs4 hen
        have HWX := Lib.hid hwx
        have HLX := Lib.hid hlx
        have HAT := Lib.hid hat
        have HRG4 := Lib.hid hrg4
        have HG4 := Lib.hid hg4
        have hm1 : w4.rangeLeft mb w2.heap.size = cnt4 := hrg4.left_eq
        have hz4 : w2.heap.size + 1 ≤ w4.heap.size := by rw [hs4]; exact HJ.out.size
        clear hwx hwc hlx hat hrg4 hg4 hs4
        by_cases hcx : c = x
        · subst hcx
          have HO4 : Hid (OwnI w4 (w2.heap.size + 1) (.slice a5 ks.length c5) ks) := Lib.hid (HJ.out.own.keeps (Keeps.of_grownBy (S := fun b => b = w2.heap.size) HG4.out fun k _ e => by injection e with e; exact e.symm) fun k e e2 => by have := HJ.out.own.le k e; omega)
          go_wp2_with (at_builtin; go_loud (refine wpList_appendI rfl _ _ rfl _ (w2.heap.size + 1) _ ks id HO4.out rfl rfl (by omega) hz4 ?_; intro a6 c6 w6 hO6 hK6 hN6; have HO6 := Lib.hid hO6; have HK6 := Lib.hid hK6; clear hO6 hK6 hN6))
          have HJ6 := Lib.hid (HJ.out.take HAT.out HLX.out HRG4.out HG4.out hlt HWX.out HO6.out HK6.out)
          have hm6 : w6.rangeLeft mb w2.heap.size = cnt4 := HJ6.out.rg.left_eq
          go_roundw
          case rel => exact ⟨_, _, _, HJ6.out⟩
          case measure => rw [hm6, hm0]; exact hlt
        · have hcb : (c == x) = false := beq_eq_false_iff_ne.2 hcx
          have HJ6 := Lib.hid (HJ.out.pass HAT.out HLX.out HRG4.out HG4.out hlt hcx)
          go_wp2_with fail
          go_roundw
          case rel => exact ⟨_, _, _, HJ6.out⟩
          case measure => rw [hm1, hm0]; exact hlt
end Go.Proofs.YthdckapgpibmiaaDoor
