/-
  The walk of package clock's Due.
-/
import Derived.Test.YtonpbbflloljgaaClockW3
import Derived.Test.YtonpbbflloljgaaOwnI
namespace Go.Proofs.Ytonpbbflloljgaa
open Go.RowKit Go.Maps

theorem ClockAt.popped {F : Nat → Prop} {w w' : World} {cb mb : Nat} {v v' : Value} {now : Int} {l l' : List Hp.E} {x : Hp.E} {D' : DataW Unit} (h : ClockAt w cb F now l) (hf : ∀ b, QF cb mb v b → F b) (hq : HQ w' cb v' mb l' D') (hp : l.Perm (x :: l'))
    (hk : KQ cb mb v w w') (hv : v'.ownBlock = v.ownBlock) : ClockAt w' cb F now l' ∧ Keeps F w w' := by
  have hkf : Keeps F w w' := hk.k.mono fun b _ hb => hf b hb
  refine ⟨⟨by rw [hk.n]; exact h.c, by rw [hk.z]; exact h.z, h.fc, fun b hb => Nat.lt_of_lt_of_le (h.fl b hb) hkf.size, fun k hk => ?_, Or.inr ⟨v', mb, D', hq, fun b hb => ?_⟩⟩, hkf⟩
  · obtain ⟨j, hj, e⟩ := perm_ids hp k hk
    rw [← e]; exact h.le j hj
  · rcases hb with e | e | e
    · exact hf b (Or.inl e)
    · exact hf b (Or.inr (Or.inl e))
    · rw [hv] at e; exact hf b (Or.inr (Or.inr e))

/-- Those of time m that have come, and those to come. -/
structure DueAt (w wr : World) (cb : Nat) (F : Nat → Prop) (m : Int) (l : List Hp.E) (v : Value) (ids : List Int) (l' : List Hp.E) : Prop where
  c : ClockAt wr cb F m l'
  perm : l.Perm (ids.map (fun i => (m, i)) ++ l')
  srt : ids.Pairwise (· < ·)
  gt : ∀ a ∈ ids, ∀ i, i < l'.length → (Hp.g l' i).1 = m → a < (Hp.g l' i).2
  own : OwnI wr w.heap.size v ids
  k : Keeps F w wr
/-- What Next tells. -/
def Nx (l : List Hp.E) (tv cv : Value) : Prop := (l = [] ∧ tv = .int .i64 0 ∧ cv = .bool false) ∨ (0 < l.length ∧ tv = .int .i64 (Hp.g l 0).1 ∧ cv = .bool true)
theorem g_mem {l : List Hp.E} {i : Nat} (h : i < l.length) : Hp.g l i ∈ l := by rw [Hp.g_eq h]; exact List.getElem_mem h
theorem DueAt.more {w wr w2 w3 : World} {cb mb : Nat} {F : Nat → Prop} {m : Int} {l l' l3 : List Hp.E} {v vq vq3 v2 : Value} {ids : List Int} {D D3 : DataW Unit} (h : DueAt w wr cb F m l v ids l') (hfl : ∀ b, F b → b < w.heap.size) (h0 : (Hp.g l' 0).1 = m)
    (hq0 : HQ w2 cb vq mb l' D) (hf : ∀ b, QF cb mb vq b → F b) (hO : OwnI w2 w.heap.size v2 (ids ++ [(Hp.g l' 0).2])) (hk2 : Keeps (fun b => v.ownBlock = some b) wr w2)
    (hq : HQ w3 cb vq3 mb l3 D3) (hp : l'.Perm (Hp.g l' 0 :: l3)) (hk : KQ cb mb vq w2 w3) (hv : vq3.ownBlock = vq.ownBlock) : DueAt w w3 cb F m l v2 (ids ++ [(Hp.g l' 0).2]) l3 := by
  have hoff : ∀ b, F b → ¬ v.ownBlock = some b := fun b hb e => by have := h.own.le b e; have := hfl b hb; omega
  have hC2 : ClockAt w2 cb F m l' := h.c.keeps hk2 hoff
  obtain ⟨hC3, hk3⟩ := hC2.popped hf hq hp hk hv
  have hroot := hq0.heap.root
  have hl' : l'.length = l3.length + 1 := by have := hp.length_eq; simpa using this
  have e0 : Hp.g l' 0 = (m, (Hp.g l' 0).2) := by rw [← h0]
  refine ⟨hC3, ?_, ?_, ?_, ?_, ?_⟩
  · rw [List.map_append, List.map_singleton, List.append_assoc, ← e0]
    exact h.perm.trans (List.Perm.append_left _ hp)
  · rw [List.pairwise_append]
    refine ⟨h.srt, List.pairwise_singleton _ _, fun a ha b hb => ?_⟩
    rw [List.mem_singleton.1 hb]
    exact h.gt a ha 0 (by omega) h0
  · intro a ha i hi him
    obtain ⟨j, hj, e⟩ := perm_ids hp i hi
    rcases List.mem_append.1 ha with ha | ha
    · rw [← e] at him ⊢
      exact h.gt a ha j hj him
    · rw [List.mem_singleton.1 ha]
      have hle := hroot j hj
      rw [e] at hle
      have hne : (Hp.g l' 0).2 ≠ (Hp.g l3 i).2 := fun e2 => by
        have e3 : Hp.g l' 0 = Hp.g l3 i := Prod.ext (by rw [h0, him]) e2
        have hj0 : j = 0 := hq0.p.inj hj (by omega) (by rw [e, e2])
        have hnd : ∀ x ∈ l3, x.2 ≠ (Hp.g l' 0).2 := fun x hx e4 => by
          have hidn : (l'.map (·.2)).Nodup := by
            rw [List.nodup_iff_pairwise_ne, List.pairwise_iff_getElem]
            intro p q hp1 hq1 hpq e5
            simp only [List.length_map] at hp1 hq1
            simp only [List.getElem_map] at e5
            have := hq0.p.inj (i := p) (j := q) hp1 hq1 (by rw [Hp.g_eq hp1, Hp.g_eq hq1]; exact e5)
            omega
          have hidn2 := (hp.map (·.2)).nodup_iff.1 hidn
          rw [List.map_cons, List.nodup_cons] at hidn2
          exact hidn2.1 (List.mem_map.2 ⟨x, hx, e4⟩)
        exact hnd _ (g_mem hi) e2.symm
      unfold Hp.le Hp.lt at hle
      rw [h0, him] at hle
      omega
  · exact hO.keeps hk3 (hO.off hfl)
  · exact (h.k.trans' hk2 fun b hb e => by have := h.own.le b e; omega).trans hk3

set_option maxRecDepth 100000 in
set_option maxHeartbeats 1600000 in
theorem cdue_none {F : Nat → Prop} {cb : Nat} {now : Int} (w : World) (h : ClockAt w cb F now []) :
    Calls Try.prog 10 #[.pointer (some ⟨cb, 0, none⟩)] w fun e w' => e = .returned (.slice none 0 0) ∧ w = w' := by
  go_enter Try.func10, Try.ntmps10
  go_wp2_with fail
  refine (cnext_none w h).mono ?_
  rintro e w1 ⟨rfl, rfl⟩
  go_wp2_with fail
  go_ret
  exact ⟨rfl, rfl⟩

set_option maxRecDepth 100000 in
set_option maxHeartbeats 3200000 in
theorem cdue_ok {F : Nat → Prop} {cb : Nat} {now : Int} {l : List Hp.E} (w : World) (h : ClockAt w cb F now l) (hl : 0 < l.length) :
    Calls Try.prog 10 #[.pointer (some ⟨cb, 0, none⟩)] w fun e w' => ∃ v ids l', e = .returned v ∧ DueAt w w' cb F (Hp.g l 0).1 l v ids l' ∧ (∀ i, i < l'.length → (Hp.g l 0).1 < (Hp.g l' i).1) ∧ 0 < ids.length := by
  have HH := Lib.hid h
  have HFL : Hid (∀ b, F b → b < w.heap.size) := Lib.hid h.fl
  have hc := h.c
  have hz := h.z
  obtain ⟨eb0, cap0, mb0, D0, hq00, hf00⟩ := h.hq hl
  have hl1000 := hq00.p.len
  have HQ0 := Lib.hid hq00
  have HF0 := Lib.hid hf00
  clear h hq00 hf00
  obtain ⟨m, hm⟩ : ∃ m, m = (Hp.g l 0).1 := ⟨_, rfl⟩
  rw [← hm]
  have HM := Lib.hid hm
  clear hm
  go_enter Try.func10, Try.ntmps10
  go_wp2_with fail
  refine (cnext_ok w HH.out hl).mono ?_
  rintro e w1 ⟨rfl, rfl⟩
  rw [← HM.out]
  go_wp2_with fail
  have hD0 : DueAt w (w.setCell ⟨cb, 0, none⟩ (.int .i64 m)) cb F m l (.slice none 0 0) [] l := by
    have hk : Keeps F w (w.setCell ⟨cb, 0, none⟩ (.int .i64 m)) := (Keeps.refl F w).setCell (p := ⟨cb, 0, none⟩) (Or.inl HH.out.fc) _
    have hne : ∀ o : Nat, (⟨cb, 0, none⟩ : Addr) ≠ ⟨cb, o + 1, none⟩ := fun o e => by injection e with _ e; omega
    refine ⟨⟨World.cell?_setCell_same _ _ _ HH.out.c, by rw [World.frozen?_setCell]; exact HH.out.z, HH.out.fc, fun b hb => Nat.lt_of_lt_of_le (HH.out.fl b hb) hk.size, fun i hi => ?_, Or.inr ⟨_, mb0, D0, ⟨⟨?_, ?_, ?_, ?_, ?_, ?_, HQ0.out.q.ne⟩, HQ0.out.p, HQ0.out.heap⟩, HF0.out⟩⟩, List.Perm.refl _, List.Pairwise.nil, (fun a ha => by cases ha), ownI_nil _ _, hk⟩
    · rw [HM.out]; exact Hp.le_fst (HQ0.out.heap.root i hi)
    · rw [World.cell?_setCell_other _ _ _ _ (hne 0)]; exact HQ0.out.q.c0
    · rw [World.cell?_setCell_other _ _ _ _ (hne 1)]; exact HQ0.out.q.c1
    · rw [World.cell?_setCell_other _ _ _ _ (hne 2)]; exact HQ0.out.q.c2
    · rw [World.frozen?_setCell]; exact HQ0.out.q.z0
    · exact ((Keeps.refl (fun b : Nat => b = cb) w).setCell (S := fun b : Nat => b = cb) (p := ⟨cb, 0, none⟩) (Or.inl rfl) _).row HQ0.out.q.own (fun k e e2 => HQ0.out.q.ne (by rw [e, e2]))
    · exact ((Keeps.refl (fun b : Nat => b = cb) w).setCell (S := fun b : Nat => b = cb) (p := ⟨cb, 0, none⟩) (Or.inl rfl) _).map HQ0.out.q.map HQ0.out.q.nem
  have HD0 := Lib.hid hD0
  clear hD0
  generalize w.setCell ⟨cb, 0, none⟩ (.int .i64 m) = w0 at *
  go_loopw [3, 4, 5] (fun tv cv v wr => ∃ (ids : List Int) (l' : List Hp.E), DueAt w wr cb F m l v ids l' ∧ Nx l' tv cv ∧ (l'.length = l.length → m = (Hp.g l' 0).1)) (fun _ _ v _ => l.length - lenI v)
  case atStart => exact ⟨[], l, HD0.out, Or.inr ⟨hl, by rw [HM.out], rfl⟩, fun _ => HM.out⟩
  case round =>
    obtain ⟨ids, l', hD, hN, hfirst⟩ := hrel
    clear HD0
    have HD := Lib.hid hD
    have hlen : ids.length + l'.length ≤ l.length := Nat.le_of_eq (by have := hD.perm.length_eq; simp at this; omega)
    have hlen2 : l.length ≤ ids.length + l'.length := by have := hD.perm.length_eq; simp at this; omega
    have HFI := Lib.hid hfirst
    obtain ⟨ai, ci, hv⟩ := hD.own.slice
    subst hv
    clear hD hfirst
    rcases hN with ⟨rfl, rfl, rfl⟩ | ⟨h0, rfl, rfl⟩
    · simp only [List.length_nil, Nat.add_zero] at hlen hlen2
      have hpos : 0 < ids.length := by omega
      go_wp2_with fail
      go_ret
      exact ⟨_, ids, [], rfl, HD.out, fun i hi => absurd hi (Nat.not_lt_zero _), hpos⟩
    · obtain ⟨eb, cap, mb, D, hq, hf⟩ := HD.out.c.hq h0
      have HQR := Lib.hid hq
      have HF := Lib.hid hf
      have hc0 := HD.out.c.c
      have hq0 := hq.q.c0
      obtain ⟨-, p2⟩ := hq.q.cells 0 h0
      have p2' : wr.cell? ⟨eb, 1, none⟩ = some (.int .i64 (Hp.g l' 0).2) := by simpa using p2
      clear hq hf p2
      by_cases hm : (Hp.g l' 0).1 = m
      · have HM0 := Lib.hid hm
        have h0i : (0 : Int) < (l'.length : Int) := by omega
        rw [hm]
        clear hm
        have HX : Hid (∀ x, x = (Hp.g l' 0).2 → DueAt w wr cb F m l (.slice ai ids.length ci) ids l' → ∀ (w2 : World) (v2 : Value), OwnI w2 w.heap.size v2 (ids ++ [x]) → Keeps (fun b => (Value.slice ai ids.length ci).ownBlock = some b) wr w2 → HQ w2 cb (.slice (some ⟨eb, 0, none⟩) l'.length cap) mb l' D ∧
            ∀ (w3 : World) (l3 : List Hp.E) (D3 : DataW Unit) (vq3 : Value), HQ w3 cb vq3 mb l3 D3 → l'.Perm (Hp.g l' 0 :: l3) → KQ cb mb (.slice (some ⟨eb, 0, none⟩) l'.length cap) w2 w3 → vq3.ownBlock = (Value.slice (some ⟨eb, 0, none⟩) l'.length cap).ownBlock → DueAt w w3 cb F m l v2 (ids ++ [x]) l3) := Lib.hid fun x hx hD w2 v2 hO hk2 => by
          subst hx
          have hq2 : HQ w2 cb (.slice (some ⟨eb, 0, none⟩) l'.length cap) mb l' D := HQR.out.keeps hk2 (fun b hb e => by have := hD.own.le b e; have := HFL.out b (HF.out b hb); omega)
          exact ⟨hq2, fun w3 l3 D3 vq3 hq hp hk hv => hD.more HFL.out HM0.out hq2 HF.out hO hk2 hq hp hk hv⟩
        generalize hx : (Hp.g l' 0).2 = x at *
        have HXE := Lib.hid hx
        clear hx
        have HSZ : Hid (w.heap.size ≤ wr.heap.size) := Lib.hid HD.out.k.size
        go_wp2_with (at_builtin; refine wpList_appendI rfl _ _ rfl _ w.heap.size _ ids x HD.out.own rfl rfl (by omega) HSZ.out ?_; intro ao2 cap2 w2 hO2 hK2 hN2; obtain ⟨hq2, hmore⟩ := HX.out x rfl HD.out w2 _ hO2 hK2; have HQ2 := Lib.hid hq2; have HMORE := Lib.hid hmore; clear hO2 hK2 hN2 hq2 hmore)
        refine (hpop_any w2 HQ2.out h0).mono ?_
        rintro e w3 ⟨⟨y, rfl⟩, v3, l3, D3, hq3, hp3, hk3, hv3⟩
        have HD3 := Lib.hid (HMORE.out w3 l3 D3 v3 hq3 hp3 hk3 hv3)
        have hl3 : l'.length = l3.length + 1 := by have := hp3.length_eq; simpa using this
        have hl3a : l3.length + 1 ≤ l'.length := by omega
        have hlen3 : (ids ++ [x]).length + l3.length = l.length := by simp; omega
        have HLEN3 := Lib.hid hlen3
        clear hq3 hp3 hk3 hv3 hl3 hlen3
        have hids : (ids ++ [x]).length = ids.length + 1 := by simp
        have HIDS := Lib.hid hids
        clear hids
        generalize ids ++ [x] = ids' at *
        cases l3 with
        | nil =>
          go_wp2_with fail
          refine (cnext_none w3 HD3.out.c).mono ?_
          rintro e w4 ⟨rfl, rfl⟩
          go_wp2_with fail
          go_roundw
          case rel => exact ⟨ids', [], HD3.out, Or.inl ⟨rfl, rfl, rfl⟩, fun h => by have := HLEN3.out; have := HIDS.out; omega⟩
          case measure => simp [lenI]; omega
        | cons z l3 =>
          go_wp2_with fail
          refine (cnext_ok w3 HD3.out.c (by simp)).mono ?_
          rintro e w4 ⟨rfl, rfl⟩
          go_wp2_with fail
          go_roundw
          case rel => exact ⟨ids', z :: l3, HD3.out, Or.inr ⟨by simp, rfl, rfl⟩, fun h => by have := HLEN3.out; have := HIDS.out; omega⟩
          case measure => simp [lenI]; omega
      · have hb : (((Hp.g l' 0).1) == m) = false := by rw [beq_eq_false_iff_ne]; exact hm
        have hpos : 0 < ids.length := by
          rcases Nat.eq_zero_or_pos ids.length with e | e
          · exact absurd (HFI.out (by omega)).symm hm
          · exact e
        have HGT : Hid (∀ i, i < l'.length → m < (Hp.g l' i).1) := Lib.hid fun i hi => by
          have h1 := Hp.le_fst (HQR.out.heap.root i hi)
          have h2 := HD.out.c.le 0 h0
          omega
        generalize (Hp.g l' 0).1 = t0 at *
        go_wp2_with fail
        go_ret
        exact ⟨_, ids, l', rfl, HD.out, HGT.out, hpos⟩
end Go.Proofs.Ytonpbbflloljgaa
