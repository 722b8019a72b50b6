/-
  The reference's clock: a map of times by ids, and the walks of NewClock, Set, Next.
-/
import Derived.Test.YthdckapgpibmiaaDoorClocked
import Derived.Maps.RangeWalk
namespace Go.Proofs.YthdckapgpibmiaaDoor
open Go.RowKit Go.Maps

/-- The map that tells each id its time. -/
structure MapOf (D : DataW Unit) (l : List Hp.E) : Prop where
  has : ∀ id : Int, Maps.has D (.int .i64 id) = true ↔ IdIn l id
  tm : ∀ e ∈ l, ∀ z, D.atKey (.int .i64 e.2) z = .lit (.int .i64 e.1)
  size : Maps.size D = l.length
  once : (l.map (·.2)).Nodup
theorem idIn_perm {l l' : List Hp.E} (h : l.Perm l') {id : Int} : IdIn l id ↔ IdIn l' id := by
  rw [idIn_iff, idIn_iff]
  exact ⟨fun ⟨e, he, h2⟩ => ⟨e, h.mem_iff.1 he, h2⟩, fun ⟨e, he, h2⟩ => ⟨e, h.mem_iff.2 he, h2⟩⟩
theorem MapOf.perm {D : DataW Unit} {l l' : List Hp.E} (h : MapOf D l) (hp : l.Perm l') : MapOf D l' :=
  ⟨fun id => (h.has id).trans (idIn_perm hp), fun e he => h.tm e (hp.mem_iff.2 he), by rw [h.size, hp.length_eq], (hp.map (·.2)).nodup_iff.1 h.once⟩
theorem MapOf.nil : MapOf (.map []) [] := ⟨(fun id => by
  rw [idIn_iff]
  constructor
  · intro h; cases h
  · rintro ⟨e, he, _⟩; cases he), (fun e he => by cases he), rfl, List.nodup_nil⟩
theorem MapOf.no {D : DataW Unit} {l : List Hp.E} (h : MapOf D l) {id : Int} (hn : ¬ IdIn l id) : Maps.has D (.int .i64 id) = false := by
  cases hh : Maps.has D (.int .i64 id) with
  | false => rfl
  | true => exact absurd ((h.has id).1 hh) hn
theorem MapOf.same {D : DataW Unit} {l : List Hp.E} (h : MapOf D l) {a b : Hp.E} (ha : a ∈ l) (hb : b ∈ l) (e : a.2 = b.2) : a = b := by
  have h1 := h.tm a ha .nil
  rw [e, h.tm b hb .nil] at h1
  injection h1 with h1
  injection h1 with _ h1
  exact Prod.ext h1.symm e
theorem MapOf.mem {D : DataW Unit} {l : List Hp.E} (h : MapOf D l) {id t : Int} (hat : ∀ z, D.atKey (.int .i64 id) z = .lit (.int .i64 t)) : (t, id) ∈ l := by
  obtain ⟨e, he, h2⟩ := idIn_iff.1 ((h.has id).1 (has_true_of_atKey hat))
  have h1 := h.tm e he .nil
  rw [h2, hat] at h1
  injection h1 with h1
  injection h1 with _ h1
  have : (t, id) = e := Prod.ext h1 h2.symm
  rw [this]; exact he
theorem MapOf.put {D : DataW Unit} {l : List Hp.E} (h : MapOf D l) (hD : Tidy D) (t id : Int) (hn : ¬ IdIn l id) : MapOf (D.put (.int .i64 id) (.lit (.int .i64 t))) (l ++ [(t, id)]) := by
  refine ⟨fun j => ?_, fun e he z => ?_, ?_, ?_⟩
  · rw [has_put hD, h.has, idIn_iff, idIn_iff]
    constructor
    · rintro (rfl | ⟨e, he, h2⟩)
      · exact ⟨(t, j), by simp, rfl⟩
      · exact ⟨e, List.mem_append_left _ he, h2⟩
    · rintro ⟨e, he, h2⟩
      rcases List.mem_append.1 he with h3 | h3
      · exact Or.inr ⟨e, h3, h2⟩
      · rw [List.mem_singleton] at h3
        subst h3
        exact Or.inl h2.symm
  · rw [at_put hD]
    rcases List.mem_append.1 he with h3 | h3
    · rw [if_neg fun e2 => hn (idIn_iff.2 ⟨e, h3, e2⟩)]
      exact h.tm e h3 z
    · rw [List.mem_singleton] at h3
      subst h3
      rw [if_pos rfl]
  · rw [size_put hD, if_neg (by rw [h.no hn]; simp), h.size, List.length_append]; rfl
  · rw [List.map_append, List.nodup_append]
    refine ⟨h.once, by simp, fun a ha b hb e => ?_⟩
    simp only [List.map_cons, List.map_nil, List.mem_singleton] at hb
    obtain ⟨x, hx, h2⟩ := List.mem_map.1 ha
    exact hn (idIn_iff.2 ⟨x, hx, by rw [h2, e, hb]⟩)
theorem MapOf.del {D : DataW Unit} {l : List Hp.E} (h : MapOf D l) (hD : Tidy D) (id : Int) : MapOf (D.del (.int .i64 id)) (l.filter fun e => !decide (e.2 = id)) := by
  have hon : ((l.filter fun e => !decide (e.2 = id)).map (·.2)).Nodup := h.once.sublist (List.filter_sublist.map _)
  refine ⟨fun j => ?_, fun e he z => ?_, ?_, hon⟩
  · rw [has_del, h.has, idIn_iff, idIn_iff]
    constructor
    · rintro ⟨hne, e, he, h2⟩
      exact ⟨e, List.mem_filter.2 ⟨he, by simp [h2, hne]⟩, h2⟩
    · rintro ⟨e, he, h2⟩
      obtain ⟨h3, h4⟩ := List.mem_filter.1 he
      simp at h4
      exact ⟨fun e2 => h4 (h2.trans e2), e, h3, h2⟩
  · obtain ⟨h3, h4⟩ := List.mem_filter.1 he
    simp at h4
    rw [atKey_del_other (lit_ne h4)]
    exact h.tm e h3 z
  · have hs := size_del (k := .int .i64 id) hD
    rw [h.size] at hs
    by_cases hi : IdIn l id
    · rw [if_pos ((h.has id).2 hi)] at hs
      obtain ⟨e, he, h2⟩ := idIn_iff.1 hi
      have hp : l.Perm (e :: l.filter fun e => !decide (e.2 = id)) := by
        have hnl : l.Nodup := List.Pairwise.of_map (S := (· ≠ ·)) (·.2) (fun a b h5 e5 => h5 (by rw [e5])) h.once
        refine (List.perm_ext_iff_of_nodup hnl ?_).2 fun a => ?_
        · rw [List.nodup_cons]
          exact ⟨fun h5 => by have := (List.mem_filter.1 h5).2; simp [h2] at this, hnl.filter _⟩
        · rw [List.mem_cons, List.mem_filter]
          constructor
          · intro ha
            by_cases e3 : a.2 = id
            · exact Or.inl (h.same ha he (e3.trans h2.symm))
            · exact Or.inr ⟨ha, by simp [e3]⟩
          · rintro (rfl | ⟨ha, _⟩)
            · exact he
            · exact ha
      have := hp.length_eq
      rw [List.length_cons] at this
      omega
    · rw [h.no hi] at hs
      have : l.filter (fun e => !decide (e.2 = id)) = l := List.filter_eq_self.2 fun e he => by
        have : e.2 ≠ id := fun e2 => hi (idIn_iff.2 ⟨e, he, e2⟩)
        simp [this]
      rw [this]
      simpa using hs

/-- The reference's clock in memory. -/
structure RefC (w : World) (rb mb : Nat) (now : Int) (D : DataW Unit) (l : List Hp.E) : Prop where
  c0 : w.cell? ⟨rb, 0, none⟩ = some (.int .i64 now)
  c1 : w.cell? ⟨rb, 1, none⟩ = some (.map (some mb))
  z0 : w.frozen? ⟨rb, 0, none⟩ = false
  map : w.ownsMap Tryd.prog 3 (plainElem Tryd.prog 3) mb 1000000 D
  tell : MapOf D l
  len : l.length ≤ 1000
theorem RefC.perm {w : World} {rb mb : Nat} {now : Int} {D : DataW Unit} {l l' : List Hp.E} (h : RefC w rb mb now D l) (hp : l.Perm l') : RefC w rb mb now D l' := ⟨h.c0, h.c1, h.z0, h.map, h.tell.perm hp, by rw [← hp.length_eq]; exact h.len⟩
theorem RefC.lt {w : World} {rb mb : Nat} {now : Int} {D : DataW Unit} {l : List Hp.E} (h : RefC w rb mb now D l) : rb < w.heap.size := block_lt_of_cell h.c0
theorem RefC.ne {w : World} {rb mb : Nat} {now : Int} {D : DataW Unit} {l : List Hp.E} (h : RefC w rb mb now D l) : rb ≠ mb := fun e => by
  obtain ⟨es, ck, h1, _⟩ := h.map
  have := h.c0
  rw [e] at this
  simp [World.cell?, h1] at this
theorem RefC.keeps {S : Nat → Prop} {w w' : World} {rb mb : Nat} {now : Int} {D : DataW Unit} {l : List Hp.E} (h : RefC w rb mb now D l) (hk : Keeps S w w') (h1 : ¬ S rb) (h2 : ¬ S mb) : RefC w' rb mb now D l :=
  ⟨hk.cell_of h.c0 h1, hk.cell_of h.c1 h1, by rw [hk.frozen (p := ⟨rb, 0, none⟩) h.lt h1]; exact h.z0, hk.map h.map h2, h.tell, h.len⟩
/-- Another map in its place. -/
theorem RefC.turn {w w' : World} {rb mb : Nat} {now : Int} {D D' : DataW Unit} {l l' : List Hp.E} (h : RefC w rb mb now D l) (hk : Keeps (fun b => b = mb) w w') {n : Nat} (hm : w'.ownsMap Tryd.prog 3 (plainElem Tryd.prog 3) mb n D') (ht : MapOf D' l') (hl : l'.length ≤ 1000) : RefC w' rb mb now D' l' :=
  ⟨hk.cell_of h.c0 h.ne, hk.cell_of h.c1 h.ne, by rw [hk.frozen (p := ⟨rb, 0, none⟩) h.lt h.ne]; exact h.z0, ownsMap_fit hm (by rw [ht.size]; omega), ht, hl⟩

set_option maxRecDepth 100000 in
set_option maxHeartbeats 1600000 in
theorem refNew_any (w : World) : Calls Tryd.prog 20 #[] w fun e w' => ∃ rb mb, e = .returned (.pointer (some ⟨rb, 0, none⟩)) ∧ RefC w' rb mb 0 (.map []) [] ∧ w.heap.size ≤ rb ∧ w.heap.size ≤ mb ∧ Below w.heap.size w w' := by
  have hmm := @run_makeMap Tryd.prog
  go_enter Tryd.func20, Tryd.ntmps20
  go_wp2_with fail
  go_ret
  have hk : Keeps (fun _ => False) (w.alloc (.map #[] 0)) ((w.alloc (.map #[] 0)).alloc (.cells #[.int .i64 0, .map (some w.heap.size)] 62)) := (Keeps.refl _ _).alloc _
  have hs : (w.alloc (.map #[] 0)).heap.size = w.heap.size + 1 := by simp
  refine ⟨w.heap.size + 1, w.heap.size, rfl, ⟨?_, ?_, ?_, hk.map (ownsMap_fit (World.ownsMap_made w Tryd.prog 3 (plainElem (H := Unit) Tryd.prog 3)) (by simp [Maps.size_eq])) id, MapOf.nil, by simp⟩, by omega, Nat.le_refl _, ((Below.refl _ w).alloc (Nat.le_refl _) _).alloc (by simp) _⟩
  · rw [World.cell?_alloc_at _ _ _ _ hs.symm]; rfl
  · rw [World.cell?_alloc_at _ _ _ _ hs.symm]; rfl
  · rw [World.frozen?_alloc_at _ _ _ _ hs.symm]

/-- What Set comes to. -/
def RefSetP (w : World) (rb mb : Nat) (now : Int) (l : List Hp.E) (t id : Int) (e : Ending) (w' : World) : Prop :=
  ∃ (r : Int) (D' : DataW Unit) (l' : List Hp.E), e = .returned (.int .i64 r) ∧ RefC w' rb mb now D' l' ∧ Keeps (fun b => b = mb) w w' ∧
      ((t < now ∧ r = 2 ∧ l' = l) ∨ (now ≤ t ∧ IdIn l id ∧ r = 9 ∧ l' = l) ∨ (now ≤ t ∧ ¬ IdIn l id ∧ r = 0 ∧ l' = l ++ [(t, id)]))
section
variable {rb mb : Nat} {now : Int} {D : DataW Unit} {l : List Hp.E} (w : World) (h : RefC w rb mb now D l)
include h
set_option maxRecDepth 100000 in
set_option maxHeartbeats 1600000 in
theorem refSet_any (t id : Int) (ht : (Lit.int .i64 t).wf = true) (hw : (Lit.int .i64 id).wf = true) (hl : l.length < 1000) :
    Calls Tryd.prog 22 #[.pointer (some ⟨rb, 0, none⟩), .int .i64 t, .int .i64 id] w fun e w' => RefSetP w rb mb now l t id e w' := by
  have c0 := h.c0
  have c1 := h.c1
  have HH := Lib.hid h
  have HW := Lib.hid hw
  have HT := Lib.hid ht
  clear h ht hw
  by_cases hn : t < now
  · go_enter Tryd.func22, Tryd.ntmps22
    go_wp2_with fail
    go_ret
    unfold RefSetP
    exact ⟨2, D, l, rfl, HH.out, Keeps.refl _ _, Or.inl ⟨hn, rfl, rfl⟩⟩
  · have hD := HH.out.map.tidy keyedI
    have HD := Lib.hid hD
    clear hD
    by_cases hi : IdIn l id
    · have HI := Lib.hid hi
      have HF : Hid (Maps.has D (.int .i64 id) = true) := Lib.hid ((HH.out.tell.has id).2 hi)
      clear hi
      go_enter Tryd.func22, Tryd.ntmps22
      go_wp2_with (at_lookup; refine wpList_lookup_own_ok_int _ rfl _ _ 50 rfl 3 3 .i64 keyedI Tryd.underlying50 Tryd.underlying3 (zero_int _) mb 1000000 D rfl HH.out.map _ _ rfl (keyOf_int_mk Tryd.underlying3 HW.out) ?_; intro c hat hwc; rw [HF.out]; clear hat hwc)
      go_ret
      unfold RefSetP
      exact ⟨9, D, l, rfl, HH.out, Keeps.refl _ _, Or.inr (Or.inl ⟨by omega, HI.out, rfl, rfl⟩)⟩
    · have HI := Lib.hid hi
      have HF : Hid (Maps.has D (.int .i64 id) = false) := Lib.hid (HH.out.tell.no hi)
      clear hi
      go_enter Tryd.func22, Tryd.ntmps22
      go_wp2_with (first
        | (at_lookup; refine wpList_lookup_own_ok_int _ rfl _ _ 50 rfl 3 3 .i64 keyedI Tryd.underlying50 Tryd.underlying3 (zero_int _) mb 1000000 D rfl HH.out.map _ _ rfl (keyOf_int_mk Tryd.underlying3 HW.out) ?_; intro c hat hwc; rw [HF.out]; clear hat hwc)
        | (at_mapUpdate; refine wpList_mapUpdate_own _ rfl _ _ _ 50 rfl 3 3 keyedI Tryd.underlying50 _ mb 1000000 D rfl HH.out.map (by unfold maxLen; omega) _ _ _ rfl rfl (keyOf_int_mk Tryd.underlying3 HW.out) _ [] (plainElem_int Tryd.underlying3 HT.out) ?_; intro w2 hown2 hgrow2; have HO2 := Lib.hid hown2; have HG2 := Lib.hid hgrow2; clear hown2 hgrow2))
      go_ret
      have hk : Keeps (fun b => b = mb) w w2 := Keeps.of_grownBy HG2.out fun k _ e => by cases e; rfl
      unfold RefSetP
      exact ⟨0, _, _, rfl, HH.out.turn hk HO2.out (HH.out.tell.put HD.out t id HI.out) (by simp; omega), hk, Or.inr (Or.inr ⟨by omega, HI.out, rfl, rfl⟩)⟩
end
/-- The earliest so far, of those that have come. -/
structure NextJ (w wr : World) (mb : Nat) (D : DataW Unit) (l : List Hp.E) (x : Int) (b : Bool) (left : Lit → Bool) (cnt : Nat) : Prop where
  rg : wr.ranges Tryd.prog 3 (plainElem Tryd.prog 3) mb w.heap.size 1000000 D left cnt
  no : b = false → x = 0 ∧ ∀ e ∈ l, left (.int .i64 e.2) = true
  yes : b = true → (∃ e ∈ l, e.1 = x) ∧ ∀ e ∈ l, left (.int .i64 e.2) = false → x ≤ e.1
  bel : Below w.heap.size w wr
theorem struck {left : Lit → Bool} {a id : Int} (h : (left (.int .i64 a) && !(Lit.int .i64 a).sameKey (.int .i64 id)) = false) : left (.int .i64 a) = false ∨ a = id := by
  by_cases e : a = id
  · exact Or.inr e
  · rw [sameKey_ne (lit_ne e)] at h
    exact Or.inl (by simpa using h)
theorem struck_self (left : Lit → Bool) (id : Int) : (left (.int .i64 id) && !(Lit.int .i64 id).sameKey (.int .i64 id)) = false := by
  rw [WideAt.sameKey_self (isKey id)]; simp
theorem NextJ.step {w wr w1 : World} {mb : Nat} {D : DataW Unit} {l : List Hp.E} {x : Int} {b : Bool} {left : Lit → Bool} {cnt cnt1 : Nat} (h : NextJ w wr mb D l x b left cnt) (hm : MapOf D l) {id c : Int} (hat : ∀ z, D.atKey (.int .i64 id) z = .lit (.int .i64 c))
    (hrg : w1.ranges Tryd.prog 3 (plainElem Tryd.prog 3) mb w.heap.size 1000000 D (fun z => left z && !z.sameKey (.int .i64 id)) cnt1) (hg : wr.grownBy w1 (some w.heap.size)) : NextJ w w1 mb D l (if b = true ∧ x ≤ c then x else c) true (fun z => left z && !z.sameKey (.int .i64 id)) cnt1 := by
  have hin := hm.mem hat
  have hbel : Below w.heap.size w w1 := h.bel.trans ((Keeps.of_grownBy (S := fun k => k = w.heap.size) hg fun k _ e => by injection e with e; exact e.symm).below h.bel.size fun k _ e => by omega)
  refine ⟨hrg, (fun e => by cases e), fun _ => ?_, hbel⟩
  by_cases hb : b = true ∧ x ≤ c
  · rw [if_pos hb]
    obtain ⟨h1, h2⟩ := h.yes hb.1
    refine ⟨h1, fun e he hl => ?_⟩
    rcases struck hl with h3 | h3
    · exact h2 e he h3
    · have : e = (c, id) := hm.same he hin h3
      rw [this]; exact hb.2
  · rw [if_neg hb]
    refine ⟨⟨_, hin, rfl⟩, fun e he hl => ?_⟩
    rcases struck hl with h3 | h3
    · cases b with
      | false => rw [(h.no rfl).2 e he] at h3; cases h3
      | true =>
        have := (h.yes rfl).2 e he h3
        have : ¬ x ≤ c := fun e2 => hb ⟨rfl, e2⟩
        omega
    · have : e = (c, id) := hm.same he hin h3
      rw [this]; exact Int.le_refl _

section
variable {rb mb : Nat} {now : Int} {D : DataW Unit} {l : List Hp.E} (w : World) (h : RefC w rb mb now D l)
include h
set_option maxRecDepth 100000 in
set_option maxHeartbeats 1600000 in
theorem refNext_any : Calls Tryd.prog 27 #[.pointer (some ⟨rb, 0, none⟩)] w fun e w' => ∃ (x : Int) (b : Bool), e = .returned (.tuple #[.int .i64 x, .bool b]) ∧ Below w.heap.size w w' ∧
      ((b = true ∧ (∃ e ∈ l, e.1 = x) ∧ ∀ e ∈ l, x ≤ e.1) ∨ (b = false ∧ x = 0 ∧ l = [])) := by
  have c1 := h.c1
  have HH := Lib.hid h
  clear h
  go_enter Tryd.func27, Tryd.ntmps27
  go_wp2_with (at_range; refine wpList_range_own _ rfl _ 50 rfl 3 3 keyedI Tryd.underlying50 _ mb 1000000 D rfl HH.out.map ?_; intro w0 hrg0 hg0 hs0; have HR0 := Lib.hid hrg0; have HG0 := Lib.hid hg0; clear hrg0 hg0 hs0)
  have HJ0 : Hid (NextJ w w0 mb D l 0 false (Maps.has D) (Maps.size D)) := Lib.hid ⟨HR0.out, fun _ => ⟨rfl, fun e he => (HH.out.tell.has _).2 (idIn_iff.2 ⟨e, he, rfl⟩)⟩, (fun e => by cases e), ⟨HG0.out.os, HG0.out.tape, HG0.out.output, HG0.out.size, fun i hi => HG0.out.block i hi (by simp)⟩⟩
  go_frame
  go_loopw [4, 5] (fun u v wr => ∃ (x : Int) (b : Bool) (left : Lit → Bool) (cnt : Nat), u = .int .i64 x ∧ v = .bool b ∧ NextJ w wr mb D l x b left cnt) (fun _ _ wr => wr.rangeLeft mb w.heap.size)
  case atStart => exact ⟨0, false, _, _, rfl, rfl, HJ0.out⟩
  case round =>
    obtain ⟨x, b, left, cnt, rfl, rfl, hJ⟩ := hrel
    have HJ := Lib.hid hJ
    have hm0 : wr.rangeLeft mb w.heap.size = cnt := hJ.rg.left_eq
    clear hJ HJ0 HR0 HG0
    go_wp2_with (at_next; refine wpList_next_ranges_ii _ rfl _ rfl 3 3 .i64 .i64 keyedI Tryd.underlying3 Tryd.underlying3 mb w.heap.size 1000000 _ _ _ rfl HJ.out.rg ?_ ?_)
    · intro hc0 hl0
      have HL0 := Lib.hid hl0
      clear hl0
      go_wp2_with fail
      go_ret2
      refine ⟨x, b, rfl, HJ.out.bel, ?_⟩
      cases b with
      | true => exact Or.inl ⟨rfl, (HJ.out.yes rfl).1, fun e he => (HJ.out.yes rfl).2 e he (HL0.out _)⟩
      | false =>
        refine Or.inr ⟨rfl, (HJ.out.no rfl).1, List.eq_nil_iff_forall_not_mem.2 fun e he => ?_⟩
        have := (HJ.out.no rfl).2 e he
        rw [HL0.out] at this
        cases this
    · intro id c w1 cnt1 hwx hwc hlx hat hrg1 hlt hg1 hs1 hen
      have HJ1 := Lib.hid (HJ.out.step HH.out.tell hat hrg1 hg1)
      have hm1 : w1.rangeLeft mb w.heap.size = cnt1 := hrg1.left_eq
      clear hwx hwc hlx hat hrg1 hg1 hs1
      by_cases hb : b = true ∧ x ≤ c
      · obtain ⟨rfl, hxc⟩ := hb
        have hxc2 : ¬ c < x := by omega
        go_wp2_with fail
        go_roundw
        case rel =>
          have h9 := HJ1.out
          rw [if_pos ⟨rfl, hxc⟩] at h9
          exact ⟨_, _, _, _, rfl, rfl, h9⟩
        case measure => rw [hm1, hm0]; exact hlt
      · cases b with
        | true =>
          have hxc2 : c < x := by
            have : ¬ x ≤ c := fun e => hb ⟨rfl, e⟩
            omega
          go_wp2_with fail
          go_roundw
          case rel =>
            have h9 := HJ1.out
            rw [if_neg hb] at h9
            exact ⟨_, _, _, _, rfl, rfl, h9⟩
          case measure => rw [hm1, hm0]; exact hlt
        | false =>
          go_wp2_with fail
          go_roundw
          case rel =>
            have h9 := HJ1.out
            rw [if_neg hb] at h9
            exact ⟨_, _, _, _, rfl, rfl, h9⟩
          case measure => rw [hm1, hm0]; exact hlt
end
end Go.Proofs.YthdckapgpibmiaaDoor
