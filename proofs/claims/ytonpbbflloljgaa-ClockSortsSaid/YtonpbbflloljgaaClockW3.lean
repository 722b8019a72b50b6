/-
  The walk of package clock's Set.
-/
import Derived.Test.YtonpbbflloljgaaClockI
import Derived.WalkSpells
namespace Go.Proofs.Ytonpbbflloljgaa
open Go.RowKit Go.Maps

set_option maxRecDepth 100000 in
set_option maxHeartbeats 1600000 in
theorem cset_range {F : Nat → Prop} {cb : Nat} {now : Int} {l : List Hp.E} (w : World) (h : ClockAt w cb F now l) (t id : Int) (ht : t < now) :
    Calls Try.prog 7 #[.pointer (some ⟨cb, 0, none⟩), .int .i64 t, .int .i64 id] w fun e w' => e = .returned (.iface 47 (.int .i64 2)) ∧ w = w' := by
  have hc := h.c
  clear h
  go_enter Try.func7, Try.ntmps7
  go_wp2_with fail
  go_ret
  exact ⟨rfl, rfl⟩

set_option maxRecDepth 100000 in
set_option maxHeartbeats 1600000 in
theorem cset_twice {F : Nat → Prop} {cb : Nat} {now : Int} {l : List Hp.E} (w : World) (h : ClockAt w cb F now l) (t : Int) (ht : now ≤ t) (i : Nat) (hi : i < l.length) :
    Calls Try.prog 7 #[.pointer (some ⟨cb, 0, none⟩), .int .i64 t, .int .i64 (Hp.g l i).2] w fun e w' => e = .returned (.iface 47 (.int .i64 9)) ∧ w = w' := by
  obtain ⟨eb, cap, mb, D, hq, -⟩ := h.hq (by omega)
  have hc := h.c
  have hc1 := hq.q.c1
  have HT : Hid (Maps.has D (.int .i64 (Hp.g l i).2) = true) := Lib.hid ((hq.p.has _).2 ⟨i, hi, rfl⟩)
  have HMAP := Lib.hid hq.q.map
  have HW := Lib.hid (hq.p.wf i hi)
  have htn : ¬ t < now := by omega
  clear h hq
  generalize (Hp.g l i).2 = id at *
  go_enter Try.func7, Try.ntmps7
  go_wp2_with (at_lookup; refine wpList_lookup_own_ok_int _ rfl _ _ 26 rfl 3 3 .i64 keyedI Try.underlying26 Try.underlying3 (zero_int _) mb 1000000 D rfl HMAP.out _ _ rfl (keyOf_int_mk Try.underlying3 HW.out) ?_; intro c hat hwc; rw [HT.out])
  go_ret
  exact ⟨rfl, rfl⟩

theorem fn_nil (w : World) : (binOp BinOp.eql 27 Value.nilFunc Value.nilFunc).run Try.prog w = .ok (.bool true) w := by kernel_rfl
theorem fn_some (w : World) : (binOp BinOp.eql 27 (Value.func (Fn.func 19) #[] #[]) Value.nilFunc).run Try.prog w = .ok (.bool false) w := by kernel_rfl
theorem pl_nil : Pl [] (.map [] : DataW Unit) := ⟨fun id => ⟨fun h => by simp [Maps.has] at h, fun ⟨i, hi, _⟩ => absurd hi (Nat.not_lt_zero _)⟩, fun i hi => absurd hi (Nat.not_lt_zero _), fun i hi => absurd hi (Nat.not_lt_zero _), Nat.zero_le _, rfl⟩
/-- A queue that has just been made. -/
theorem fresh_q {w w' : World} {cb : Nat} (c1 : w'.cell? ⟨cb, 1, none⟩ = some (.slice none 0 0)) (c2 : w'.cell? ⟨cb, 2, none⟩ = some (.map (some w.heap.size))) (c3 : w'.cell? ⟨cb, 3, none⟩ = some (.func (.func 19) #[] #[])) (hz : w'.frozen? ⟨cb, 1, none⟩ = false)
    (hm : w'.ownsMap Try.prog 3 (plainElem Try.prog 3) w.heap.size 0 (.map [] : DataW Unit)) : HQ w' cb (.slice none 0 0) w.heap.size [] (.map []) :=
  ⟨⟨c1, c2, c3, hz, World.ownsRow_nil _ _ _ _, hm.mono (Nat.zero_le _), fun e => by cases e⟩, pl_nil, Hp.heap_nil⟩

/-- What Set's last step leaves. -/
theorem set_end {F : Nat → Prop} {w w1 w2 : World} {cb mb : Nat} {v v2 : Value} {now t id : Int} {l l2 : List Hp.E} {D2 : DataW Unit} (h : ClockAt w cb F now l) (ht : now ≤ t) (hk1 : Keeps F w w1) (hn1 : w1.cell? ⟨cb, 0, none⟩ = w.cell? ⟨cb, 0, none⟩) (hz1 : w1.frozen? ⟨cb, 0, none⟩ = w.frozen? ⟨cb, 0, none⟩)
    (hf : ∀ b, QF cb mb v b → F b ∨ w.heap.size ≤ b) (hq2 : HQ w2 cb v2 mb l2 D2) (hp2 : l2.Perm (l ++ [(t, id)])) (hk2 : KQ cb mb v w1 w2) (hv2 : ∀ k, v2.ownBlock = some k → v.ownBlock = some k ∨ w1.heap.size ≤ k) :
    ∃ F' l', ClockAt w2 cb F' now l' ∧ l'.Perm (l ++ [(t, id)]) ∧ Grows w F F' ∧ Keeps F w w2 := by
  have hqf : ∀ b, QF cb mb v2 b → F b ∨ w.heap.size ≤ b := by
    rintro b (e | e | e)
    · exact hf b (Or.inl e)
    · exact hf b (Or.inr (Or.inl e))
    · rcases hv2 b e with e | e
      · exact hf b (Or.inr (Or.inr e))
      · exact Or.inr (Nat.le_trans hk1.size e)
  have hks : Keeps F w w2 := hk1.trans' hk2.k fun b hb e => by
      rcases hf b e with e | e
      · exact e
      · omega
  refine ⟨fun b => F b ∨ QF cb mb v2 b, l2, ⟨?_, ?_, Or.inl h.fc, fun b hb => ?_, fun i hi => ?_, Or.inr ⟨v2, mb, D2, hq2, fun b hb => Or.inr hb⟩⟩, hp2, fun b hb => hb.elim Or.inl (hqf b), hks⟩
  · rw [hk2.n, hn1]; exact h.c
  · rw [hk2.z, hz1]; exact h.z
  · rcases hb with hb | hb
    · exact Nat.lt_of_lt_of_le (h.fl b hb) hks.size
    · rcases hb with e | e | e
      · rw [e]; exact hq2.q.lt
      · rw [e]; exact hq2.q.map.lt
      · exact (World.ownsRow.lt hq2.q.own b e).2
  · have hm : l2[i] ∈ l ++ [(t, id)] := hp2.mem_iff.1 (List.getElem_mem hi)
    rw [Hp.g_eq hi]
    rcases List.mem_append.1 hm with hm | hm
    · obtain ⟨j, hj, e⟩ := List.mem_iff_getElem.1 hm
      have := h.le j hj
      rw [Hp.g_eq hj, e] at this; exact this
    · rw [List.mem_singleton.1 hm]; exact ht

set_option maxRecDepth 100000 in
set_option maxHeartbeats 3200000 in
theorem cset_ok {F : Nat → Prop} {cb : Nat} {now : Int} {l : List Hp.E} (w : World) (h : ClockAt w cb F now l) (t id : Int) (ht : now ≤ t) (hw : (Lit.int .i64 id).wf = true) (hn : ¬ IdIn l id) (hl : l.length < 1000) :
    Calls Try.prog 7 #[.pointer (some ⟨cb, 0, none⟩), .int .i64 t, .int .i64 id] w fun e w' => e = .returned .nilIface ∧ ∃ F' l', ClockAt w' cb F' now l' ∧ l'.Perm (l ++ [(t, id)]) ∧ Grows w F F' ∧ Keeps F w w' := by
  have hc := h.c
  have HH := Lib.hid h
  have hcb := h.lt
  have htn : ¬ t < now := by omega
  have HNI : Hid (∀ i, i < l.length → (Hp.g l i).2 ≠ id) := Lib.hid fun i hi e => hn ⟨i, hi, e⟩
  have HW := Lib.hid hw
  have hmm := @run_makeMap Try.prog
  have hf0 := fn_nil
  have hf1 := fn_some
  rcases h.q with ⟨rfl, q1, q2, q3, qz⟩ | ⟨v, mb, D, hq, hf⟩
  · have hnl := nil_look id hw
    have z1 := qz 1
    have z2 := qz 2
    have z3 := qz 3
    clear h hn hw qz
    go_enter Try.func7, Try.ntmps7
    go_wp2_with fail
    have hne : ∀ o p : Nat, o ≠ p → (⟨cb, o, none⟩ : Addr) ≠ ⟨cb, p, none⟩ := fun o p ho e => ho (by injection e)
    have hsz : (((w.setCell ⟨cb, 1, none⟩ (.slice none 0 0)).setCell ⟨cb, 2, none⟩ (.map (some w.heap.size))).setCell ⟨cb, 3, none⟩ (.func (.func 19) #[] #[])).heap.size = w.heap.size := by simp
    have key : HQ ((((w.setCell ⟨cb, 1, none⟩ (.slice none 0 0)).setCell ⟨cb, 2, none⟩ (.map (some w.heap.size))).setCell ⟨cb, 3, none⟩ (.func (.func 19) #[] #[])).alloc (.map #[] 0)) cb (.slice none 0 0) w.heap.size [] (.map [] : DataW Unit) ∧ ((((w.setCell ⟨cb, 1, none⟩ (.slice none 0 0)).setCell ⟨cb, 2, none⟩ (.map (some w.heap.size))).setCell ⟨cb, 3, none⟩ (.func (.func 19) #[] #[])).alloc (.map #[] 0)).cell? ⟨cb, 0, none⟩ = w.cell? ⟨cb, 0, none⟩ ∧ ((((w.setCell ⟨cb, 1, none⟩ (.slice none 0 0)).setCell ⟨cb, 2, none⟩ (.map (some w.heap.size))).setCell ⟨cb, 3, none⟩ (.func (.func 19) #[] #[])).alloc (.map #[] 0)).frozen? ⟨cb, 0, none⟩ = w.frozen? ⟨cb, 0, none⟩ ∧ Keeps F w ((((w.setCell ⟨cb, 1, none⟩ (.slice none 0 0)).setCell ⟨cb, 2, none⟩ (.map (some w.heap.size))).setCell ⟨cb, 3, none⟩ (.func (.func 19) #[] #[])).alloc (.map #[] 0)) := by
      refine ⟨fresh_q ?_ ?_ ?_ ?_ ?_, ?_, ?_, ?_⟩
      · rw [World.cell?_alloc_lt _ _ _ (by rw [hsz]; exact hcb), World.cell?_setCell_other _ _ _ _ (hne 3 1 (by decide)), World.cell?_setCell_other _ _ _ _ (hne 2 1 (by decide))]
        exact World.cell?_setCell_same _ _ _ q1
      · rw [World.cell?_alloc_lt _ _ _ (by rw [hsz]; exact hcb), World.cell?_setCell_other _ _ _ _ (hne 3 2 (by decide))]
        exact World.cell?_setCell_same _ _ _ (by rw [World.cell?_setCell_other _ _ _ _ (hne 1 2 (by decide))]; exact q2)
      · rw [World.cell?_alloc_lt _ _ _ (by rw [hsz]; exact hcb)]
        exact World.cell?_setCell_same _ _ _ (by rw [World.cell?_setCell_other _ _ _ _ (hne 2 3 (by decide)), World.cell?_setCell_other _ _ _ _ (hne 1 3 (by decide))]; exact q3)
      · rw [World.frozen?_alloc_old _ _ _ (by rw [hsz]; exact Nat.ne_of_lt hcb)]
        simpa using z1
      · have := World.ownsMap_made (((w.setCell ⟨cb, 1, none⟩ (.slice none 0 0)).setCell ⟨cb, 2, none⟩ (.map (some w.heap.size))).setCell ⟨cb, 3, none⟩ (.func (.func 19) #[] #[])) Try.prog 3 (plainElem (H := Unit) Try.prog 3)
        rw [hsz] at this
        exact this
      · rw [World.cell?_alloc_lt _ _ _ (by rw [hsz]; exact hcb), World.cell?_setCell_other _ _ _ _ (hne 3 0 (by decide)), World.cell?_setCell_other _ _ _ _ (hne 2 0 (by decide)), World.cell?_setCell_other _ _ _ _ (hne 1 0 (by decide))]
      · rw [World.frozen?_alloc_old _ _ _ (by rw [hsz]; exact Nat.ne_of_lt hcb)]
        simp
      · exact ((((Keeps.refl F w).setCell (p := ⟨cb, 1, none⟩) (Or.inl HH.out.fc) _).setCell (p := ⟨cb, 2, none⟩) (Or.inl HH.out.fc) _).setCell (p := ⟨cb, 3, none⟩) (Or.inl HH.out.fc) _).alloc _
    clear hsz hne q1 q2 q3 z1 z2 z3
    generalize ((((w.setCell ⟨cb, 1, none⟩ (.slice none 0 0)).setCell ⟨cb, 2, none⟩ (.map (some w.heap.size))).setCell ⟨cb, 3, none⟩ (.func (.func 19) #[] #[])).alloc (.map #[] 0)) = w1 at *
    obtain ⟨hq1, hn1, hz1, hk1⟩ := key
    have HN1 := Lib.hid hn1
    have HZ1 := Lib.hid hz1
    have HK1 := Lib.hid hk1
    have HFB : Hid (∀ b, QF cb w.heap.size (.slice none 0 0) b → F b ∨ w.heap.size ≤ b) := Lib.hid fun b hb => by
      rcases hb with e | e | e
      · rw [e]; exact Or.inl HH.out.fc
      · rw [e]; exact Or.inr (Nat.le_refl _)
      · cases e
    refine (hpush_any w1 hq1 t id (fun i hi => absurd hi (Nat.not_lt_zero _)) HW.out (by decide)).mono ?_
    clear hq1 hn1 hz1 hk1
    rintro e w2 ⟨rfl, v2, l2, D2, hq2, hp2, hk2, hv2⟩
    have HE := Lib.hid (set_end HH.out ht HK1.out HN1.out HZ1.out HFB.out hq2 hp2 hk2 hv2)
    clear hq2 hp2 hk2 hv2
    go_wp2_with fail
    go_ret
    exact ⟨rfl, HE.out⟩
  · have hc1 := hq.q.c1
    have hc2 := hq.q.c2
    have HF := Lib.hid (hq.p.has_false hn)
    have HQQ := Lib.hid hq
    have HFF := Lib.hid hf
    clear h hq hw hf hn
    go_enter Try.func7, Try.ntmps7
    go_wp2_with (at_lookup; refine wpList_lookup_own_ok_int _ rfl _ _ 26 rfl 3 3 .i64 keyedI Try.underlying26 Try.underlying3 (zero_int _) mb 1000000 D rfl HQQ.out.q.map _ _ rfl (keyOf_int_mk Try.underlying3 HW.out) ?_; intro c hat hwc; rw [HF.out])
    refine (hpush_any w HQQ.out t id HNI.out HW.out hl).mono ?_
    rintro e w2 ⟨rfl, v2, l2, D2, hq2, hp2, hk2, hv2⟩
    have HE := Lib.hid (set_end HH.out ht (Keeps.refl F w) rfl rfl (fun b hb => Or.inl (HFF.out b hb)) hq2 hp2 hk2 hv2)
    clear hq2 hp2 hk2 hv2
    go_wp2_with fail
    go_ret
    exact ⟨rfl, HE.out⟩
end Go.Proofs.Ytonpbbflloljgaa
