/-
  The walks of package clock: When, Drop, Set.
-/
import Derived.Test.YthdckapgpibmiaaDoorClockW
import Derived.Laws.EntriesVeiled
namespace Go.Proofs.YthdckapgpibmiaaDoor
open Go.RowKit Go.Maps

/-- An id is to come. -/
def IdIn (l : List Hp.E) (id : Int) : Prop := ∃ i, i < l.length ∧ (Hp.g l i).2 = id
theorem Pl.has_false {l : List Hp.E} {D : DataW Unit} (h : Pl l D) {id : Int} (hn : ¬ IdIn l id) : Maps.has D (.int .i64 id) = false := by
  cases e : Maps.has D (.int .i64 id) with
  | false => rfl
  | true => exact absurd ((h.has id).1 e) hn
theorem nil_look (id : Int) (hw : (Lit.int .i64 id).wf = true) (w : World) : (Instr.lookup 50 (.map none) (.int .i64 id) true).run Tryd.prog w = .ok (.tuple #[.int .i64 0, .bool false]) w := by
  have := Maps.look_nil (P := Tryd.prog) (t := 50) (w := w) true keyedI Tryd.underlying50 (zero_int w) (keyOf_int_mk Tryd.underlying3 hw)
  simpa using this

set_option maxRecDepth 100000 in
set_option maxHeartbeats 1600000 in
theorem cwhen_none {F : Nat → Prop} {cb : Nat} {now : Int} {l : List Hp.E} (w : World) (h : ClockAt w cb F now l) (id : Int) (hw : (Lit.int .i64 id).wf = true) (hn : ¬ IdIn l id) :
    Calls Tryd.prog 31 #[.pointer (some ⟨cb, 0, none⟩), .int .i64 id] w fun e w' => e = .returned (.tuple #[.int .i64 0, .bool false]) ∧ w = w' := by
  rcases h.q with ⟨rfl, -, hc, -⟩ | ⟨v, mb, D, hq, -⟩
  · have hnl := nil_look id hw
    clear h
    go_enter Tryd.func31, Tryd.ntmps31
    go_wp2_with fail
    go_ret2
    exact ⟨rfl, rfl⟩
  · have hc := hq.q.c1
    have HF := Lib.hid (hq.p.has_false hn)
    have HQQ := Lib.hid hq
    have HW := Lib.hid hw
    clear h hq hw
    go_enter Tryd.func31, Tryd.ntmps31
    go_wp2_with (at_lookup; refine wpList_lookup_own_ok_int _ rfl _ _ 50 rfl 3 3 .i64 keyedI Tryd.underlying50 Tryd.underlying3 (zero_int _) mb 1000000 D rfl HQQ.out.q.map _ _ rfl (keyOf_int_mk Tryd.underlying3 HW.out) ?_; intro c hat hwc; rw [HF.out])
    go_ret2
    exact ⟨rfl, rfl⟩

set_option maxRecDepth 100000 in
set_option maxHeartbeats 1600000 in
theorem cwhen_ok {F : Nat → Prop} {cb : Nat} {now : Int} {l : List Hp.E} (w : World) (h : ClockAt w cb F now l) (i : Nat) (hi : i < l.length) :
    Calls Tryd.prog 31 #[.pointer (some ⟨cb, 0, none⟩), .int .i64 (Hp.g l i).2] w fun e w' => e = .returned (.tuple #[.int .i64 (Hp.g l i).1, .bool true]) ∧ w = w' := by
  obtain ⟨eb, cap, mb, D, hq, -⟩ := h.hq (by omega)
  have hc := hq.q.c1
  have hc0 := hq.q.c0
  obtain ⟨p1, -⟩ := hq.q.cells i hi
  have HT : Hid (Maps.has D (.int .i64 (Hp.g l i).2) = true) := Lib.hid ((hq.p.has _).2 ⟨i, hi, rfl⟩)
  have HPL : Hid (∀ c : Int, D.atKey (.int .i64 (Hp.g l i).2) (.lit (.int .i64 0)) = .lit (.int .i64 c) → c = (i : Int)) := Lib.hid fun c hat => by
    rw [hq.p.place i hi] at hat
    injection hat with hat
    injection hat with _ hat
    exact hat.symm
  have HMAP := Lib.hid hq.q.map
  have HW := Lib.hid (hq.p.wf i hi)
  have hii : (0 : Int) ≤ (i : Int) ∧ (i : Int) < (l.length : Int) := by omega
  clear h hq
  generalize (Hp.g l i).1 = x at *
  generalize (Hp.g l i).2 = id at *
  go_enter Tryd.func31, Tryd.ntmps31
  go_wp2_with (at_lookup; refine wpList_lookup_own_ok_int _ rfl _ _ 50 rfl 3 3 .i64 keyedI Tryd.underlying50 Tryd.underlying3 (zero_int _) mb 1000000 D rfl HMAP.out _ _ rfl (keyOf_int_mk Tryd.underlying3 HW.out) ?_; intro c hat hwc; obtain rfl := HPL.out c hat; clear hat hwc; rw [HT.out])
  go_ret2
  exact ⟨rfl, rfl⟩

theorem perm_ids {l l' : List Hp.E} {x : Hp.E} (h : l.Perm (x :: l')) : ∀ i, i < l'.length → ∃ j, j < l.length ∧ Hp.g l j = Hp.g l' i := fun i hi => by
  have hm : l'[i] ∈ l := h.mem_iff.2 (List.mem_cons_of_mem _ (List.getElem_mem hi))
  obtain ⟨j, hj, e⟩ := List.mem_iff_getElem.1 hm
  exact ⟨j, hj, by rw [Hp.g_eq hj, Hp.g_eq hi, e]⟩
/-- New blocks alone beside the old ones. -/
def Grows (w : World) (F F' : Nat → Prop) : Prop := ∀ b, F' b → F b ∨ w.heap.size ≤ b
theorem QF.only {w : World} {cb mb : Nat} {v v' : Value} {F : Nat → Prop} (h : ∀ b, QF cb mb v b → F b) (hv : ∀ k, v'.ownBlock = some k → v.ownBlock = some k ∨ w.heap.size ≤ k) : ∀ b, QF cb mb v' b → F b ∨ w.heap.size ≤ b := by
  rintro b (rfl | rfl | e)
  · exact Or.inl (h _ (Or.inl rfl))
  · exact Or.inl (h _ (Or.inr (Or.inl rfl)))
  · rcases hv b e with e2 | e2
    · exact Or.inl (h _ (Or.inr (Or.inr e2)))
    · exact Or.inr e2

set_option maxRecDepth 100000 in
set_option maxHeartbeats 1600000 in
theorem cdrop_none {F : Nat → Prop} {cb : Nat} {now : Int} {l : List Hp.E} (w : World) (h : ClockAt w cb F now l) (id : Int) (hw : (Lit.int .i64 id).wf = true) (hn : ¬ IdIn l id) :
    Calls Tryd.prog 26 #[.pointer (some ⟨cb, 0, none⟩), .int .i64 id] w fun e w' => e = .returned (.bool false) ∧ w = w' := by
  rcases h.q with ⟨rfl, -, hc, -⟩ | ⟨v, mb, D, hq, -⟩
  · have hnl := nil_look id hw
    clear h
    go_enter Tryd.func26, Tryd.ntmps26
    go_wp2_with fail
    go_ret
    exact ⟨rfl, rfl⟩
  · have hc := hq.q.c1
    have HF := Lib.hid (hq.p.has_false hn)
    have HQQ := Lib.hid hq
    have HW := Lib.hid hw
    clear h hq hw
    go_enter Tryd.func26, Tryd.ntmps26
    go_wp2_with (at_lookup; refine wpList_lookup_own_ok_int _ rfl _ _ 50 rfl 3 3 .i64 keyedI Tryd.underlying50 Tryd.underlying3 (zero_int _) mb 1000000 D rfl HQQ.out.q.map _ _ rfl (keyOf_int_mk Tryd.underlying3 HW.out) ?_; intro c hat hwc; rw [HF.out])
    go_ret
    exact ⟨rfl, rfl⟩

set_option maxRecDepth 100000 in
set_option maxHeartbeats 1600000 in
theorem cdrop_ok {F : Nat → Prop} {cb : Nat} {now : Int} {l : List Hp.E} (w : World) (h : ClockAt w cb F now l) (i : Nat) (hi : i < l.length) :
    Calls Tryd.prog 26 #[.pointer (some ⟨cb, 0, none⟩), .int .i64 (Hp.g l i).2] w fun e w' => e = .returned (.bool true) ∧ ∃ l', ClockAt w' cb F now l' ∧ l.Perm (Hp.g l i :: l') ∧ Keeps F w w' := by
  obtain ⟨eb, cap, mb, D, hq, hf⟩ := h.hq (by omega)
  have HH := Lib.hid h
  have HQQ := Lib.hid hq
  have HFF := Lib.hid hf
  have hc := hq.q.c1
  have HT : Hid (Maps.has D (.int .i64 (Hp.g l i).2) = true) := Lib.hid ((hq.p.has _).2 ⟨i, hi, rfl⟩)
  have HPL : Hid (∀ c : Int, D.atKey (.int .i64 (Hp.g l i).2) (.lit (.int .i64 0)) = .lit (.int .i64 c) → c = (i : Int)) := Lib.hid fun c hat => by
    rw [hq.p.place i hi] at hat
    injection hat with hat
    injection hat with _ hat
    exact hat.symm
  have HW := Lib.hid (hq.p.wf i hi)
  clear h hq hf
  go_enter Tryd.func26, Tryd.ntmps26
  go_wp2_with (at_lookup; refine wpList_lookup_own_ok_int _ rfl _ _ 50 rfl 3 3 .i64 keyedI Tryd.underlying50 Tryd.underlying3 (zero_int _) mb 1000000 D rfl HQQ.out.q.map _ _ rfl (keyOf_int_mk Tryd.underlying3 HW.out) ?_; intro c hat hwc; obtain rfl := HPL.out c hat; clear hat hwc; rw [HT.out])
  refine (hremove_any w HQQ.out i hi).mono ?_
  rintro e w2 ⟨⟨x, rfl⟩, v2, l2, D2, hq2, hp2, hk2, hv2⟩
  have hc0 : w2.cell? ⟨cb, 0, none⟩ = some (.int .i64 now) := by rw [hk2.n]; exact HH.out.c
  have hz0 : w2.frozen? ⟨cb, 0, none⟩ = false := by rw [hk2.z]; exact HH.out.z
  have hle : ∀ k, k < l2.length → now ≤ (Hp.g l2 k).1 := fun k hk => by
    obtain ⟨j, hj, e⟩ := perm_ids hp2 k hk
    rw [← e]; exact HH.out.le j hj
  have hkf : Keeps F w w2 := hk2.k.mono fun b _ hb => HFF.out b hb
  have HC2 : Hid (ClockAt w2 cb F now l2) := Lib.hid ⟨hc0, hz0, HH.out.fc, fun b hb => Nat.lt_of_lt_of_le (HH.out.fl b hb) hkf.size, hle, Or.inr ⟨v2, mb, D2, hq2, fun b hb => by
    rcases hb with e | e | e
    · exact HFF.out b (Or.inl e)
    · exact HFF.out b (Or.inr (Or.inl e))
    · rw [hv2] at e; exact HFF.out b (Or.inr (Or.inr e))⟩⟩
  have HP2 := Lib.hid hp2
  have HKF := Lib.hid hkf
  clear hc0 hz0 hle hkf hk2 hq2 hp2 hv2
  go_wp2_with fail
  go_ret
  exact ⟨rfl, l2, HC2.out, HP2.out, HKF.out⟩
end Go.Proofs.YthdckapgpibmiaaDoor
