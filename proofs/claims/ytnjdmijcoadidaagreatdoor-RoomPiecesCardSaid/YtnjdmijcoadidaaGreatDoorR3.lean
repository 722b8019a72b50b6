/-
  Texts of one proof, in build order: The walks of package clock: When, Drop, Set. | The walk of package clock's Due. | A clock's calls, each in one word; the laws' fact 'clocked'. | A room in memory: whose each block is a role tells; how it stays, and how each of its parts may turn. | A room in memory: what its channels' calls, its clock's, and a Doer's make of it; one step behind the other. | The walks of package room: give. | 'append(xs, y)' on a row of the call's own whose elements are of one cell each, as one step of a region that draws; and such rows. | The walks of package room: tell, tellEach. | The walks of package room: tellEach, resume, resumeEach, has. | The walks of package room: resume, resumeEach, has, ready. | The walks of package room: next, begin. | The walk of package room's begin. | errors.As at a target of type *api.Errno: what it does at an api.Errno (Go's own text of errors.As and errors.as, walked; the entries of internal/reflectlite by the model). | errors.As at a target of type *api.Errno, walked: at an api.Errno it is true, and the target holds it. | api.Tell, plain.Place at nil and at an api.Errno. | The walks of package room: fault, wrong, count, channel, print, load, store. | The walks of package room: print, load, store. | The walks of slices.IndexFunc, DeleteFunc, Clone at numbers: what package room asks of them. | The walks of package room: number, fork, ended. | The walks of package room: tellTalk, counts.
-/
import Derived.Test.YtnjdmijcoadidaaGreatDoorR2
import Derived.Recover
import Derived.Defers
import Derived.Deep.Cut
import Derived.BigQuiet
import Derived.Deep.QuietTactic
import Derived.Deep.RegionHeld3
import Derived.StillTailTactics
import Derived.Deep.RegionLaw
import Derived.Maps.AppendAt
import Derived.Lib.Hide
import Derived.Test.YtnjdmijcoadidaaGreatDoorRows
import Derived.WalkKit
import Derived.WalkSpells
import Derived.WalkLawsBesides
import Derived.LaidEql
import Derived.LaidHandle
import Derived.Stop.Asserts
import Derived.RowKitTokens
import Derived.RegionTactic
import Derived.ChangeAlike
namespace Go.Proofs.YtnjdmijcoadidaaGreatDoor
open Go.RowKit Go.Maps

set_option maxRecDepth 100000 in
set_option maxHeartbeats 1600000 in
theorem cwhen_none {F : Nat → Prop} {cb : Home} {now : Int} {l : List Hp.E} (w : World) (h : ClockAt w cb F now l) (id : Int) (hw : (Lit.int .i64 id).wf = true) (hn : ¬ IdIn l id) :
    Calls Tryz.prog 53 #[.pointer (some ⟨cb.b, 4, none⟩), .int .i64 id] w fun e w' => e = .returned (.tuple #[.int .i64 0, .bool false]) ∧ w = w' := by
  rcases h.q with ⟨rfl, -, hc, -⟩ | ⟨v, mb, D, hq, -⟩
  · have hnl := nil_look id hw
    clear h
    go_enter Tryz.func53, Tryz.ntmps53
    go_wp2_with fail
    go_ret2
    exact ⟨rfl, rfl⟩
  · have hc := hq.q.c1
    have HF := Lib.hid (hq.p.has_false hn)
    have HQQ := Lib.hid hq
    have HW := Lib.hid hw
    clear h hq hw
    go_enter Tryz.func53, Tryz.ntmps53
    go_wp2_with (at_lookup; refine wpList_lookup_own_ok_int _ rfl _ _ 92 rfl 3 3 .i64 keyedI Tryz.underlying92 Tryz.underlying3 (zero_int _) mb 1000000 D rfl HQQ.out.q.map _ _ rfl (keyOf_int_mk Tryz.underlying3 HW.out) ?_; intro c hat hwc; rw [HF.out])
    go_ret2
    exact ⟨rfl, rfl⟩

set_option maxRecDepth 100000 in
set_option maxHeartbeats 1600000 in
theorem cwhen_ok {F : Nat → Prop} {cb : Home} {now : Int} {l : List Hp.E} (w : World) (h : ClockAt w cb F now l) (i : Nat) (hi : i < l.length) :
    Calls Tryz.prog 53 #[.pointer (some ⟨cb.b, 4, none⟩), .int .i64 (Hp.g l i).2] w fun e w' => e = .returned (.tuple #[.int .i64 (Hp.g l i).1, .bool true]) ∧ w = w' := by
  obtain ⟨eb, cap, mb, D, hq, -⟩ := h.hq (by omega)
  have hc := hq.q.c1
  have hc0 := hq.q.c0
  obtain ⟨p1, -⟩ := hq.q.cells i hi
  have HT : Hid (Maps.has D (.int .i64 (Hp.g l i).2) = true) := Lib.hid ((hq.p.has _).2 ⟨i, hi, rfl⟩)
  have HPL : Hid (∀ c : Int, D.atKey (.int .i64 (Hp.g l i).2) (.lit (.int .i64 0)) = .lit (.int .i64 c) → c = (i : Int)) := Lib.hid fun c hat => by
    rw [hq.p.place i hi] at hat
    injection hat with hat
    injection hat with _ hat
    exact hat.symm
  have HMAP := Lib.hid hq.q.map
  have HW := Lib.hid (hq.p.wf i hi)
  have hii : (0 : Int) ≤ (i : Int) ∧ (i : Int) < (l.length : Int) := by omega
  clear h hq
  generalize (Hp.g l i).1 = x at *
  generalize (Hp.g l i).2 = id at *
  go_enter Tryz.func53, Tryz.ntmps53
  go_wp2_with (at_lookup; refine wpList_lookup_own_ok_int _ rfl _ _ 92 rfl 3 3 .i64 keyedI Tryz.underlying92 Tryz.underlying3 (zero_int _) mb 1000000 D rfl HMAP.out _ _ rfl (keyOf_int_mk Tryz.underlying3 HW.out) ?_; intro c hat hwc; obtain rfl := HPL.out c hat; clear hat hwc; rw [HT.out])
  go_ret2
  exact ⟨rfl, rfl⟩

theorem g_mem {l : List Hp.E} {i : Nat} (h : i < l.length) : Hp.g l i ∈ l := by rw [Hp.g_eq h]; exact List.getElem_mem h
theorem cwhen_any {F : Nat → Prop} {cb : Home} {now : Int} {l : List Hp.E} (w : World) (h : ClockAt w cb F now l) (id : Int) (hw : (Lit.int .i64 id).wf = true) :
    Calls Tryz.prog 53 #[.pointer (some ⟨cb.b, 4, none⟩), .int .i64 id] w fun e w' => ∃ (x : Int) (b : Bool), e = .returned (.tuple #[.int .i64 x, .bool b]) ∧ w = w' ∧ ((b = true ∧ (x, id) ∈ l) ∨ (b = false ∧ x = 0 ∧ ¬ IdIn l id)) := by
  by_cases hi : IdIn l id
  · obtain ⟨i, hi1, rfl⟩ := hi
    refine (cwhen_ok w h i hi1).mono ?_
    rintro e w' ⟨rfl, rfl⟩
    exact ⟨_, true, rfl, rfl, Or.inl ⟨rfl, g_mem hi1⟩⟩
  · refine (cwhen_none w h id hw hi).mono ?_
    rintro e w' ⟨rfl, rfl⟩
    exact ⟨0, false, rfl, rfl, Or.inr ⟨rfl, rfl, hi⟩⟩
end Go.Proofs.YtnjdmijcoadidaaGreatDoor

namespace Go.Proofs.YtnjdmijcoadidaaGreatDoor
open Go.RowKit Go.Maps

theorem ClockAt.popped {F : Nat → Prop} {w w' : World} {cb : Home} {mb : Nat} {v v' : Value} {now : Int} {l l' : List Hp.E} {x : Hp.E} {D' : DataW Unit} (h : ClockAt w cb F now l) (hf : ∀ b, QF cb.b mb v b → F b) (hq : HQ w' cb.b v' mb l' D') (hp : l.Perm (x :: l'))
    (hk : KQ cb.b mb v w w') (hv : v'.ownBlock = v.ownBlock) : ClockAt w' cb F now l' ∧ Keeps F w w' := by
  have hkf : Keeps F w w' := hk.k.mono fun b _ hb => hf b hb
  refine ⟨⟨by rw [hk.n 4 (by decide)]; exact h.c, fun j => by rw [hk.z j]; exact h.z j, fun j hj => by rw [hk.n j (by omega)]; exact h.rest j hj, h.fc, fun b hb => Nat.lt_of_lt_of_le (h.fl b hb) hkf.size, fun k hk => ?_, Or.inr ⟨v', mb, D', hq, fun b hb => ?_⟩⟩, hkf⟩
  · obtain ⟨j, hj, e⟩ := perm_ids hp k hk
    rw [← e]; exact h.le j hj
  · rcases hb with e | e | e
    · exact hf b (Or.inl e)
    · exact hf b (Or.inr (Or.inl e))
    · rw [hv] at e; exact hf b (Or.inr (Or.inr e))

/-- Those of time m that have come, and those to come. -/
structure DueAt (w wr : World) (cb : Home) (F : Nat → Prop) (m : Int) (l : List Hp.E) (v : Value) (ids : List Int) (l' : List Hp.E) : Prop where
  c : ClockAt wr cb F m l'
  perm : l.Perm (ids.map (fun i => (m, i)) ++ l')
  srt : ids.Pairwise (· < ·)
  gt : ∀ a ∈ ids, ∀ i, i < l'.length → (Hp.g l' i).1 = m → a < (Hp.g l' i).2
  own : OwnI wr w.heap.size v ids
  k : Keeps F w wr
/-- What Next tells. -/
def Nx (l : List Hp.E) (tv cv : Value) : Prop := (l = [] ∧ tv = .int .i64 0 ∧ cv = .bool false) ∨ (0 < l.length ∧ tv = .int .i64 (Hp.g l 0).1 ∧ cv = .bool true)
theorem DueAt.more {w wr w2 w3 : World} {cb : Home} {mb : Nat} {F : Nat → Prop} {m : Int} {l l' l3 : List Hp.E} {v vq vq3 v2 : Value} {ids : List Int} {D D3 : DataW Unit} (h : DueAt w wr cb F m l v ids l') (hfl : ∀ b, F b → b < w.heap.size) (h0 : (Hp.g l' 0).1 = m)
    (hq0 : HQ w2 cb.b vq mb l' D) (hf : ∀ b, QF cb.b mb vq b → F b) (hO : OwnI w2 w.heap.size v2 (ids ++ [(Hp.g l' 0).2])) (hk2 : Keeps (fun b => v.ownBlock = some b) wr w2)
    (hq : HQ w3 cb.b vq3 mb l3 D3) (hp : l'.Perm (Hp.g l' 0 :: l3)) (hk : KQ cb.b mb vq w2 w3) (hv : vq3.ownBlock = vq.ownBlock) : DueAt w w3 cb F m l v2 (ids ++ [(Hp.g l' 0).2]) l3 := by
  have hoff : ∀ b, F b → ¬ v.ownBlock = some b := fun b hb e => by have := h.own.le b e; have := hfl b hb; omega
  have hC2 : ClockAt w2 cb F m l' := h.c.keeps hk2 hoff
  obtain ⟨hC3, hk3⟩ := hC2.popped hf hq hp hk hv
  have hroot := hq0.heap.root
  have hl' : l'.length = l3.length + 1 := by have := hp.length_eq; simpa using this
  have e0 : Hp.g l' 0 = (m, (Hp.g l' 0).2) := by rw [← h0]
  refine ⟨hC3, ?_, ?_, ?_, ?_, ?_⟩
  · rw [List.map_append, List.map_singleton, List.append_assoc, ← e0]
    exact h.perm.trans (List.Perm.append_left _ hp)
  · rw [List.pairwise_append]
    refine ⟨h.srt, List.pairwise_singleton _ _, fun a ha b hb => ?_⟩
    rw [List.mem_singleton.1 hb]
    exact h.gt a ha 0 (by omega) h0
  · intro a ha i hi him
    obtain ⟨j, hj, e⟩ := perm_ids hp i hi
    rcases List.mem_append.1 ha with ha | ha
    · rw [← e] at him ⊢
      exact h.gt a ha j hj him
    · rw [List.mem_singleton.1 ha]
      have hle := hroot j hj
      rw [e] at hle
      have hne : (Hp.g l' 0).2 ≠ (Hp.g l3 i).2 := fun e2 => by
        have e3 : Hp.g l' 0 = Hp.g l3 i := Prod.ext (by rw [h0, him]) e2
        have hj0 : j = 0 := hq0.p.inj hj (by omega) (by rw [e, e2])
        have hnd : ∀ x ∈ l3, x.2 ≠ (Hp.g l' 0).2 := fun x hx e4 => by
          have hidn : (l'.map (·.2)).Nodup := by
            rw [List.nodup_iff_pairwise_ne, List.pairwise_iff_getElem]
            intro p q hp1 hq1 hpq e5
            simp only [List.length_map] at hp1 hq1
            simp only [List.getElem_map] at e5
            have := hq0.p.inj (i := p) (j := q) hp1 hq1 (by rw [Hp.g_eq hp1, Hp.g_eq hq1]; exact e5)
            omega
          have hidn2 := (hp.map (·.2)).nodup_iff.1 hidn
          rw [List.map_cons, List.nodup_cons] at hidn2
          exact hidn2.1 (List.mem_map.2 ⟨x, hx, e4⟩)
        exact hnd _ (g_mem hi) e2.symm
      unfold Hp.le Hp.lt at hle
      rw [h0, him] at hle
      omega
  · exact hO.keeps hk3 (hO.off hfl)
  · exact (h.k.trans' hk2 fun b hb e => by have := h.own.le b e; omega).trans hk3

set_option maxRecDepth 100000 in
set_option maxHeartbeats 1600000 in
theorem cdue_none {F : Nat → Prop} {cb : Home} {now : Int} (w : World) (h : ClockAt w cb F now []) :
    Calls Tryz.prog 73 #[.pointer (some ⟨cb.b, 4, none⟩)] w fun e w' => e = .returned (.slice none 0 0) ∧ w = w' := by
  go_enter Tryz.func73, Tryz.ntmps73
  go_wp2_with fail
  refine (cnext_none w h).mono ?_
  rintro e w1 ⟨rfl, rfl⟩
  go_wp2_with fail
  go_ret
  exact ⟨rfl, rfl⟩

set_option maxRecDepth 100000 in
set_option maxHeartbeats 3200000 in
theorem cdue_ok {F : Nat → Prop} {cb : Home} {now : Int} {l : List Hp.E} (w : World) (h : ClockAt w cb F now l) (hl : 0 < l.length) :
    Calls Tryz.prog 73 #[.pointer (some ⟨cb.b, 4, none⟩)] w fun e w' => ∃ v ids l', e = .returned v ∧ DueAt w w' cb F (Hp.g l 0).1 l v ids l' ∧ (∀ i, i < l'.length → (Hp.g l 0).1 < (Hp.g l' i).1) ∧ 0 < ids.length := by
  have HH := Lib.hid h
  have HFL : Hid (∀ b, F b → b < w.heap.size) := Lib.hid h.fl
  have hc := h.c
  have hz := h.z 4
  obtain ⟨eb0, cap0, mb0, D0, hq00, hf00⟩ := h.hq hl
  have hl1000 := hq00.p.len
  have HQ0 := Lib.hid hq00
  have HF0 := Lib.hid hf00
  clear h hq00 hf00
  obtain ⟨m, hm⟩ : ∃ m, m = (Hp.g l 0).1 := ⟨_, rfl⟩
  rw [← hm]
  have HM := Lib.hid hm
  clear hm
  go_enter Tryz.func73, Tryz.ntmps73
  go_wp2_with fail
  refine (cnext_ok w HH.out hl).mono ?_
  rintro e w1 ⟨rfl, rfl⟩
  rw [← HM.out]
  go_wp2_with fail
  have hD0 : DueAt w (w.setCell ⟨cb.b, 4, none⟩ (.int .i64 m)) cb F m l (.slice none 0 0) [] l := by
    have hk : Keeps F w (w.setCell ⟨cb.b, 4, none⟩ (.int .i64 m)) := (Keeps.refl F w).setCell (p := ⟨cb.b, 4, none⟩) (Or.inl HH.out.fc) _
    have hne : ∀ o : Nat, (⟨cb.b, 4, none⟩ : Addr) ≠ ⟨cb.b, o + 5, none⟩ := fun o e => by injection e with _ e; omega
    refine ⟨⟨World.cell?_setCell_same _ _ _ HH.out.c, fun j => by rw [World.frozen?_setCell]; exact HH.out.z j, fun j hj => by rw [World.cell?_setCell_other _ _ _ _ (by intro e; injection e with _ e; omega)]; exact HH.out.rest j hj, HH.out.fc, fun b hb => Nat.lt_of_lt_of_le (HH.out.fl b hb) hk.size, fun i hi => ?_, Or.inr ⟨_, mb0, D0, ⟨⟨?_, ?_, ?_, ?_, ?_, ?_, HQ0.out.q.ne⟩, HQ0.out.p, HQ0.out.heap⟩, HF0.out⟩⟩, List.Perm.refl _, List.Pairwise.nil, (fun a ha => by cases ha), ownI_nil _ _, hk⟩
    · rw [HM.out]; exact Hp.le_fst (HQ0.out.heap.root i hi)
    · rw [World.cell?_setCell_other _ _ _ _ (hne 0)]; exact HQ0.out.q.c0
    · rw [World.cell?_setCell_other _ _ _ _ (hne 1)]; exact HQ0.out.q.c1
    · rw [World.cell?_setCell_other _ _ _ _ (hne 2)]; exact HQ0.out.q.c2
    · rw [World.frozen?_setCell]; exact HQ0.out.q.z0
    · exact ((Keeps.refl (fun b : Nat => b = cb.b) w).setCell (S := fun b : Nat => b = cb.b) (p := ⟨cb.b, 4, none⟩) (Or.inl rfl) _).row HQ0.out.q.own (fun k e e2 => HQ0.out.q.ne (by rw [e, e2]))
    · exact ((Keeps.refl (fun b : Nat => b = cb.b) w).setCell (S := fun b : Nat => b = cb.b) (p := ⟨cb.b, 4, none⟩) (Or.inl rfl) _).map HQ0.out.q.map HQ0.out.q.nem
  have HD0 := Lib.hid hD0
  clear hD0
  generalize w.setCell ⟨cb.b, 4, none⟩ (.int .i64 m) = w0 at *
  go_loopw [3, 4, 5] (fun tv cv v wr => ∃ (ids : List Int) (l' : List Hp.E), DueAt w wr cb F m l v ids l' ∧ Nx l' tv cv ∧ (l'.length = l.length → m = (Hp.g l' 0).1)) (fun _ _ v _ => l.length - lenI v)
  case atStart => exact ⟨[], l, HD0.out, Or.inr ⟨hl, by rw [HM.out], rfl⟩, fun _ => HM.out⟩
  case round =>
    obtain ⟨ids, l', hD, hN, hfirst⟩ := hrel
    clear HD0
    have HD := Lib.hid hD
    have hlen : ids.length + l'.length ≤ l.length := Nat.le_of_eq (by have := hD.perm.length_eq; simp at this; omega)
    have hlen2 : l.length ≤ ids.length + l'.length := by have := hD.perm.length_eq; simp at this; omega
    have HFI := Lib.hid hfirst
    obtain ⟨ai, ci, hv⟩ := hD.own.slice
    subst hv
    clear hD hfirst
    rcases hN with ⟨rfl, rfl, rfl⟩ | ⟨h0, rfl, rfl⟩
    · simp only [List.length_nil, Nat.add_zero] at hlen hlen2
      have hpos : 0 < ids.length := by omega
      go_wp2_with fail
      go_ret
      exact ⟨_, ids, [], rfl, HD.out, fun i hi => absurd hi (Nat.not_lt_zero _), hpos⟩
    · obtain ⟨eb, cap, mb, D, hq, hf⟩ := HD.out.c.hq h0
      have HQR := Lib.hid hq
      have HF := Lib.hid hf
      have hc0 := HD.out.c.c
      have hq0 := hq.q.c0
      obtain ⟨-, p2⟩ := hq.q.cells 0 h0
      have p2' : wr.cell? ⟨eb, 1, none⟩ = some (.int .i64 (Hp.g l' 0).2) := by simpa using p2
      clear hq hf p2
      by_cases hm : (Hp.g l' 0).1 = m
      · have HM0 := Lib.hid hm
        have h0i : (0 : Int) < (l'.length : Int) := by omega
        rw [hm]
        clear hm
        have HX : Hid (∀ x, x = (Hp.g l' 0).2 → DueAt w wr cb F m l (.slice ai ids.length ci) ids l' → ∀ (w2 : World) (v2 : Value), OwnI w2 w.heap.size v2 (ids ++ [x]) → Keeps (fun b => (Value.slice ai ids.length ci).ownBlock = some b) wr w2 → HQ w2 cb.b (.slice (some ⟨eb, 0, none⟩) l'.length cap) mb l' D ∧
            ∀ (w3 : World) (l3 : List Hp.E) (D3 : DataW Unit) (vq3 : Value), HQ w3 cb.b vq3 mb l3 D3 → l'.Perm (Hp.g l' 0 :: l3) → KQ cb.b mb (.slice (some ⟨eb, 0, none⟩) l'.length cap) w2 w3 → vq3.ownBlock = (Value.slice (some ⟨eb, 0, none⟩) l'.length cap).ownBlock → DueAt w w3 cb F m l v2 (ids ++ [x]) l3) := Lib.hid fun x hx hD w2 v2 hO hk2 => by
          subst hx
          have hq2 : HQ w2 cb.b (.slice (some ⟨eb, 0, none⟩) l'.length cap) mb l' D := HQR.out.keeps hk2 (fun b hb e => by have := hD.own.le b e; have := HFL.out b (HF.out b hb); omega)
          exact ⟨hq2, fun w3 l3 D3 vq3 hq hp hk hv => hD.more HFL.out HM0.out hq2 HF.out hO hk2 hq hp hk hv⟩
        generalize hx : (Hp.g l' 0).2 = x at *
        have HXE := Lib.hid hx
        clear hx
        have HSZ : Hid (w.heap.size ≤ wr.heap.size) := Lib.hid HD.out.k.size
        go_wp2_with (at_builtin; refine wpList_appendI rfl _ _ rfl _ w.heap.size _ ids x HD.out.own rfl rfl (by omega) HSZ.out ?_; intro ao2 cap2 w2 hO2 hK2 hN2; obtain ⟨hq2, hmore⟩ := HX.out x rfl HD.out w2 _ hO2 hK2; have HQ2 := Lib.hid hq2; have HMORE := Lib.hid hmore; clear hO2 hK2 hN2 hq2 hmore)
        refine (hpop_any w2 HQ2.out h0).mono ?_
        rintro e w3 ⟨⟨y, rfl⟩, v3, l3, D3, hq3, hp3, hk3, hv3⟩
        have HD3 := Lib.hid (HMORE.out w3 l3 D3 v3 hq3 hp3 hk3 hv3)
        have hl3 : l'.length = l3.length + 1 := by have := hp3.length_eq; simpa using this
        have hl3a : l3.length + 1 ≤ l'.length := by omega
        have hlen3 : (ids ++ [x]).length + l3.length = l.length := by simp; omega
        have HLEN3 := Lib.hid hlen3
        clear hq3 hp3 hk3 hv3 hl3 hlen3
        have hids : (ids ++ [x]).length = ids.length + 1 := by simp
        have HIDS := Lib.hid hids
        clear hids
        generalize ids ++ [x] = ids' at *
        cases l3 with
        | nil =>
          go_wp2_with fail
          refine (cnext_none w3 HD3.out.c).mono ?_
          rintro e w4 ⟨rfl, rfl⟩
          go_wp2_with fail
          go_roundw
          case rel => exact ⟨ids', [], HD3.out, Or.inl ⟨rfl, rfl, rfl⟩, fun h => by have := HLEN3.out; have := HIDS.out; omega⟩
          case measure => simp [lenI]; omega
        | cons z l3 =>
          go_wp2_with fail
          refine (cnext_ok w3 HD3.out.c (by simp)).mono ?_
          rintro e w4 ⟨rfl, rfl⟩
          go_wp2_with fail
          go_roundw
          case rel => exact ⟨ids', z :: l3, HD3.out, Or.inr ⟨by simp, rfl, rfl⟩, fun h => by have := HLEN3.out; have := HIDS.out; omega⟩
          case measure => simp [lenI]; omega
      · have hb : (((Hp.g l' 0).1) == m) = false := by rw [beq_eq_false_iff_ne]; exact hm
        have hpos : 0 < ids.length := by
          rcases Nat.eq_zero_or_pos ids.length with e | e
          · exact absurd (HFI.out (by omega)).symm hm
          · exact e
        have HGT : Hid (∀ i, i < l'.length → m < (Hp.g l' i).1) := Lib.hid fun i hi => by
          have h1 := Hp.le_fst (HQR.out.heap.root i hi)
          have h2 := HD.out.c.le 0 h0
          omega
        generalize (Hp.g l' 0).1 = t0 at *
        go_wp2_with fail
        go_ret
        exact ⟨_, ids, l', rfl, HD.out, HGT.out, hpos⟩
end Go.Proofs.YtnjdmijcoadidaaGreatDoor

namespace Go.Proofs.YtnjdmijcoadidaaGreatDoor
open Go.RowKit Go.Maps

theorem ClockAt.short {w : World} {cb : Home} {F : Nat → Prop} {now : Int} {l : List Hp.E} (h : ClockAt w cb F now l) : l.length ≤ 1000 := by
  rcases h.q with ⟨rfl, _⟩ | ⟨v, mb, D, hq, _⟩
  · exact Nat.zero_le _
  · exact hq.p.len
theorem idIn_iff {l : List Hp.E} {id : Int} : IdIn l id ↔ ∃ e ∈ l, e.2 = id :=
  ⟨fun ⟨i, hi, e⟩ => ⟨_, g_mem hi, e⟩, fun ⟨e, he, h⟩ => by obtain ⟨i, hi, rfl⟩ := List.mem_iff_getElem.1 he; exact ⟨i, hi, by rw [Hp.g_eq hi]; exact h⟩⟩
/-- Each id is there once. -/
theorem ClockAt.once {w : World} {cb : Home} {F : Nat → Prop} {now : Int} {l : List Hp.E} (h : ClockAt w cb F now l) : (l.map (·.2)).Nodup := by
  rcases h.q with ⟨rfl, _⟩ | ⟨v, mb, D, hq, _⟩
  · exact List.nodup_nil
  · rw [List.nodup_iff_pairwise_ne, List.pairwise_iff_getElem]
    intro p q hp1 hq1 hpq e5
    simp only [List.length_map] at hp1 hq1
    simp only [List.getElem_map] at e5
    have := hq.p.inj (i := p) (j := q) hp1 hq1 (by rw [Hp.g_eq hp1, Hp.g_eq hq1]; exact e5)
    omega

/-- What Set comes to. -/
def SetR (now : Int) (l : List Hp.E) (t id : Int) (r : Value) (l' : List Hp.E) : Prop :=
  (t < now ∧ r = .iface 37 (.int .i64 2) ∧ l' = l) ∨ (now ≤ t ∧ IdIn l id ∧ r = .iface 37 (.int .i64 9) ∧ l' = l) ∨ (now ≤ t ∧ ¬ IdIn l id ∧ r = .nilIface ∧ l'.Perm (l ++ [(t, id)]))
theorem cset_any {F : Nat → Prop} {cb : Home} {now : Int} {l : List Hp.E} (w : World) (h : ClockAt w cb F now l) (t id : Int) (hw : (Lit.int .i64 id).wf = true) (hl : l.length < 1000) :
    Calls Tryz.prog 112 #[.pointer (some ⟨cb.b, 4, none⟩), .int .i64 t, .int .i64 id] w fun e w' => ∃ r F' l', e = .returned r ∧ ClockAt w' cb F' now l' ∧ Grows w F F' ∧ Keeps F w w' ∧ SetR now l t id r l' := by
  by_cases ht : t < now
  · refine (cset_range w h t id ht).mono ?_
    rintro e w' ⟨rfl, rfl⟩
    exact ⟨_, F, l, rfl, h, fun b hb => Or.inl hb, Keeps.refl _ _, Or.inl ⟨ht, rfl, rfl⟩⟩
  · by_cases hi : IdIn l id
    · obtain ⟨i, hi1, rfl⟩ := hi
      refine (cset_twice w h t (by omega) i hi1).mono ?_
      rintro e w' ⟨rfl, rfl⟩
      exact ⟨_, F, l, rfl, h, fun b hb => Or.inl hb, Keeps.refl _ _, Or.inr (Or.inl ⟨by omega, ⟨i, hi1, rfl⟩, rfl, rfl⟩)⟩
    · refine (cset_ok w h t id (by omega) hw hi hl).mono ?_
      rintro e w' ⟨rfl, F', l', h1, h2, h3, h4⟩
      exact ⟨_, F', l', rfl, h1, h3, h4, Or.inr (Or.inr ⟨by omega, hi, rfl, h2⟩)⟩
/-- What Due comes to: nothing; or those of the earliest time, rising. -/
def DueR (now : Int) (l : List Hp.E) (ids : List Int) (m : Int) (l' : List Hp.E) : Prop :=
  (l = [] ∧ ids = [] ∧ m = now ∧ l' = []) ∨ (now ≤ m ∧ 0 < ids.length ∧ l.Perm (ids.map (fun i => (m, i)) ++ l') ∧ ids.Pairwise (· < ·) ∧ ∀ e ∈ l', m < e.1)
theorem cdue_any {F : Nat → Prop} {cb : Home} {now : Int} {l : List Hp.E} (w : World) (h : ClockAt w cb F now l) :
    Calls Tryz.prog 73 #[.pointer (some ⟨cb.b, 4, none⟩)] w fun e w' => ∃ v ids m l', e = .returned v ∧ OwnI w' w.heap.size v ids ∧ ClockAt w' cb F m l' ∧ Keeps F w w' ∧ DueR now l ids m l' := by
  cases l with
  | nil =>
    refine (cdue_none w h).mono ?_
    rintro e w' ⟨rfl, rfl⟩
    exact ⟨_, [], now, [], rfl, ownI_nil _ _, h, Keeps.refl _ _, Or.inl ⟨rfl, rfl, rfl, rfl⟩⟩
  | cons x l =>
    have hnow := h.le 0 (by simp)
    refine (cdue_ok w h (by simp)).mono ?_
    rintro e w' ⟨v, ids, l', rfl, hd, hg, hp⟩
    exact ⟨v, ids, _, l', rfl, hd.own, hd.c, hd.k, Or.inr ⟨hnow, hp, hd.perm, hd.srt, fun e he => by
      obtain ⟨i, hi, rfl⟩ := List.mem_iff_getElem.1 he
      have := hg i hi
      rwa [Hp.g_eq hi] at this⟩⟩
theorem cnext_any {F : Nat → Prop} {cb : Home} {now : Int} {l : List Hp.E} (w : World) (h : ClockAt w cb F now l) :
    Calls Tryz.prog 100 #[.pointer (some ⟨cb.b, 4, none⟩)] w fun e w' => ∃ (x : Int) (b : Bool), e = .returned (.tuple #[.int .i64 x, .bool b]) ∧ w = w' ∧ ((b = true ∧ 0 < l.length ∧ x = (Hp.g l 0).1 ∧ now ≤ x ∧ (∃ e ∈ l, e.1 = x) ∧ ∀ e ∈ l, x ≤ e.1) ∨ (b = false ∧ x = 0 ∧ l = [])) := by
  cases l with
  | nil =>
    refine (cnext_none w h).mono ?_
    rintro e w' ⟨rfl, rfl⟩
    exact ⟨0, false, rfl, rfl, Or.inr ⟨rfl, rfl, rfl⟩⟩
  | cons x l =>
    have hnow := h.le 0 (by simp)
    obtain ⟨eb, cap, mb, D, hq, -⟩ := h.hq (by simp)
    refine (cnext_ok w h (by simp)).mono ?_
    rintro e w' ⟨rfl, rfl⟩
    refine ⟨_, true, rfl, rfl, Or.inl ⟨rfl, by simp, rfl, hnow, ⟨_, g_mem (by simp), rfl⟩, fun e he => ?_⟩⟩
    obtain ⟨i, hi, rfl⟩ := List.mem_iff_getElem.1 he
    have := Hp.le_fst (hq.heap.root i hi)
    rwa [Hp.g_eq hi] at this

/-- Those of time m in a list that was parted so. -/
theorem due_part {m : Int} {l l' : List Hp.E} {ids : List Int} (hp : l.Perm (ids.map (fun i => (m, i)) ++ l')) (hg : ∀ e ∈ l', m < e.1) : ((l.filter (fun e => decide (e.1 = m))).map (·.2)).Perm ids ∧ (l.filter (fun e => decide (m < e.1))).Perm l' := by
  have h1 := hp.filter (fun e => decide (e.1 = m))
  have h2 := hp.filter (fun e => decide (m < e.1))
  rw [List.filter_append] at h1 h2
  have a1 : (ids.map (fun i => (m, i))).filter (fun e => decide (e.1 = m)) = ids.map (fun i => (m, i)) := List.filter_eq_self.2 fun e he => by obtain ⟨i, _, rfl⟩ := List.mem_map.1 he; simp
  have a2 : l'.filter (fun e => decide (e.1 = m)) = [] := List.filter_eq_nil_iff.2 fun e he => by have := hg e he; simp; omega
  have a3 : (ids.map (fun i => (m, i))).filter (fun e => decide (m < e.1)) = [] := List.filter_eq_nil_iff.2 fun e he => by obtain ⟨i, _, rfl⟩ := List.mem_map.1 he; simp
  have a4 : l'.filter (fun e => decide (m < e.1)) = l' := List.filter_eq_self.2 fun e he => by simpa using hg e he
  rw [a1, a2, List.append_nil] at h1
  rw [a3, a4, List.nil_append] at h2
  refine ⟨?_, h2⟩
  have := h1.map (·.2)
  simpa [List.map_map, Function.comp_def] using this
/-- Rising lists of the same things are the same. -/
theorem rising_eq {a b : List Int} (ha : a.Pairwise (· < ·)) (hb : b.Pairwise (· < ·)) (h : a.Perm b) : a = b :=
  List.Perm.eq_of_pairwise (fun x y _ _ h1 h2 => absurd h1 (by omega)) ha hb h

end Go.Proofs.YtnjdmijcoadidaaGreatDoor

namespace Go.Proofs.YtnjdmijcoadidaaGreatDoor
open Go.RowKit Go.Maps Pp

/-- The room's rows. -/
inductive RK where
  | tasks | live | globals | out | events
deriving DecidableEq
inductive RR where
  | free | room | row (k : RK) | clock | doer | pipe (r : Role)
def RR.role : RR → Role
  | .pipe r => r | .room => .pipes | _ => .free
/-- What a task asks for, to be read. -/
structure AskSays (w : World) (va vc : Value) (a : Rm.Ask) : Prop where
  args : IntsAt w va a.args
  cases : TalksAt w vc a.cases
  n0 : -9223372036854775808 ≤ a.n
  n1 : a.n ≤ 9223372036854775807
  la : a.args.length ≤ 100000
  lc : a.cases.length ≤ 100000
/-- The blocks that an ask's rows lie in, if they have any. -/
def Held (a : Rm.Ask) (va vc : Value) (b : Nat) : Prop := (0 < a.args.length ∧ va.ownBlock = some b) ∨ (0 < a.cases.length ∧ vc.ownBlock = some b)
/-- What does what is inside of tasks, in memory: in blocks of F; what was there at w0 stays. -/
structure DoerW (α : Type) (w0 : World) where
  D : Rm.Doer α
  dt : TypeId
  dp : Value
  num : α → Nat
  big : α → Nat
  At : World → (Nat → Prop) → α → Prop
  lt : ∀ {w F d}, At w F d → ∀ b, F b → b < w.heap.size
  keeps : ∀ {w w' F S d}, At w F d → Keeps S w w' → (∀ b, F b → ¬ S b) → At w' F d
  mono : ∀ {w F G d}, At w F d → (∀ b, F b → G b) → (∀ b, G b → b < w.heap.size) → At w G d
  fB : Nat
  fN : Nat
  fG : Nat
  nB : ∀ w, (nilAhead 471 dt dp "Begin").run Tryz.prog w = .ok (some false) w
  mB : ∀ w, (Go.method 471 dt dp "Begin").run Tryz.prog w = .ok (fB, dp) w
  nN : ∀ w, (nilAhead 471 dt dp "Next").run Tryz.prog w = .ok (some false) w
  mN : ∀ w, (Go.method 471 dt dp "Next").run Tryz.prog w = .ok (fN, dp) w
  nG : ∀ w, (nilAhead 471 dt dp "Give").run Tryz.prog w = .ok (some false) w
  mG : ∀ w, (Go.method 471 dt dp "Give").run Tryz.prog w = .ok (fG, dp) w
  eB : ∀ args w, (callFunc fB args).run Tryz.prog w = .ok (.enter fB args) w
  eN : ∀ args w, (callFunc fN args).run Tryz.prog w = .ok (.enter fN args) w
  eG : ∀ args w, (callFunc fG args).run Tryz.prog w = .ok (.enter fG args) w
  begins : ∀ {w F d va args} (fn : Int), At w F d → -9223372036854775808 ≤ fn → fn ≤ 9223372036854775807 → IntsAt w va args → num d ≤ 100000 → Below w0.heap.size w0 w → (∀ b, F b → w0.heap.size ≤ b) →
    Calls Tryz.prog fB #[dp, .int .i64 fn, va] w fun e w' => e = .returned (.tuple #[]) ∧ ∃ F', At w' F' (D.begins d fn args) ∧ (∀ b, F' b → F b ∨ w.heap.size ≤ b) ∧ Keeps F w w'
  next : ∀ {w F d} (t : Nat), At w F d → t < num d → num d ≤ 200000 → big d ≤ 1000000000 → Below w0.heap.size w0 w → (∀ b, F b → w0.heap.size ≤ b) →
    Calls Tryz.prog fN #[dp, .int .i64 t] w fun e w' => ∃ va vc, e = .returned (.agg #[.int .i64 (D.next d t).2.what, .int .i64 (D.next d t).2.n, va, vc]) ∧ AskSays w' va vc (D.next d t).2 ∧ (∃ F', At w' F' (D.next d t).1 ∧ (∀ b, F' b → F b ∨ w.heap.size ≤ b) ∧
      ∀ b, Held (D.next d t).2 va vc b → ¬ F' b ∧ (b < w0.heap.size ∨ w.heap.size ≤ b)) ∧ Keeps F w w'
  give : ∀ {w F d} (t : Nat) (c n : Int), At w F d → t < num d → num d ≤ 200000 → big d ≤ 1000000000 → Below w0.heap.size w0 w → (∀ b, F b → w0.heap.size ≤ b) →
    Calls Tryz.prog fG #[dp, .int .i64 t, .agg #[.int .i64 c, .int .i64 n]] w fun e w' => e = .returned (.tuple #[]) ∧ ∃ F', At w' F' (D.give d t c n) ∧ (∀ b, F' b → F b ∨ w.heap.size ≤ b) ∧ Keeps F w w'
  num_begins : ∀ d fn args, num (D.begins d fn args) = num d + 1
  num_next : ∀ d t, num (D.next d t).1 = num d
  num_give : ∀ d t c n, num (D.give d t c n) = num d
  big_begins : ∀ d fn args, big (D.begins d fn args) ≤ big d + 1
  big_next : ∀ d t, big (D.next d t).1 ≤ big d + 1
  big_give : ∀ d t c n, big (D.give d t c n) ≤ big d + 1
def cellsEv (l : List Rm.Ev) : List Value := l.flatMap fun e => [.int .i64 e.task, .int .i64 e.what, .int .i64 e.obj]
theorem cellsEv_append (a b : List Rm.Ev) : cellsEv (a ++ b) = cellsEv a ++ cellsEv b := by simp [cellsEv]
def RK.off : RK → Nat
  | .tasks => 2 | .live => 3 | .globals => 10 | .out => 11 | .events => 12
def RK.ty : RK → TypeId
  | .events => 70 | _ => 3
def RK.sz : RK → Nat
  | .events => 3 | _ => 1
section
variable {α : Type}
def RK.len (s : Rm.S α) : RK → Nat
  | .tasks => s.tasks.length | .live => s.live.length | .globals => s.globals.length | .out => s.out.length | .events => s.events.length
def RK.vals (s : Rm.S α) : RK → List Value
  | .tasks => s.tasks.map (.int .i64) | .live => s.live.map fun (i : Nat) => .int .i64 (i : Int) | .globals => s.globals.map (.int .i64) | .out => s.out.map (.int .i64) | .events => cellsEv s.events
/-- The other cells of the room's block. -/
def home (w : World) (rb : Nat) : Home := ⟨rb, fun j => w.cell? ⟨rb, j, none⟩⟩
/-- A room in memory. -/
structure RoomAt (w0 : World) (C : DoerW α w0) (w : World) (τ : Nat → RR) (rb N : Nat) (s : Rm.S α) (V : RK → Value) (l : List Hp.E) : Prop where
  c0 : w.cell? ⟨rb, 0, none⟩ = some (.iface C.dt C.dp)
  c1 : w.cell? ⟨rb, 1, none⟩ = some (.int .i64 s.fin)
  cv : ∀ k, w.cell? ⟨rb, RK.off k, none⟩ = some (V k)
  rv : ∀ k, w.ownsRow 0 k.ty k.sz (V k) (k.len s) (k.vals s)
  rr : ∀ k b, (V k).ownBlock = some b → τ b = .row k
  z : ∀ j, w.frozen? ⟨rb, j, none⟩ = false
  ck : ClockAt w (home w rb) (fun b => τ b = .clock ∨ b = rb) s.now l
  cl : l.Perm s.clock
  pp : Pipes w (fun b => (τ b).role) (home w rb) N s.pipes
  dr : C.At w (fun b => τ b = .doer) s.d
  t0 : τ rb = .room
  t1 : ∀ b, τ b = .room → b = rb
  dom : ∀ b, τ b ≠ .free → b < w.heap.size
  own : ∀ b, τ b ≠ .free → w0.heap.size ≤ b
  bel : Below w0.heap.size w0 w
end
section
variable {α : Type} {w0 : World} {C : DoerW α w0} {w w' : World} {τ τ' : Nat → RR} {rb N N' : Nat} {s s' : Rm.S α} {V : RK → Value} {l : List Hp.E}
theorem RoomAt.lt (h : RoomAt w0 C w τ rb N s V l) : rb < w.heap.size := block_lt_of_cell h.c0
theorem home_keeps {S : Nat → Prop} (hk : Keeps S w w') (hlt : rb < w.heap.size) (hS : ¬ S rb) : home w' rb = home w rb := by
  unfold home
  congr 1
  funext j
  exact hk.cell (p := ⟨rb, j, none⟩) hlt hS
theorem ClockAt.grow {cb : Home} {F G : Nat → Prop} {now : Int} (h : ClockAt w cb F now l) (hF : ∀ b, F b → G b) (hG : ∀ b, G b → b < w.heap.size) : ClockAt w cb G now l :=
  ⟨h.c, h.z, h.rest, hF _ h.fc, hG, h.le, h.q.imp id fun ⟨v, mb, D, h1, h2⟩ => ⟨v, mb, D, h1, fun b hb => hF b (h2 b hb)⟩⟩
theorem ClockAt.at {cb : Home} {F : Nat → Prop} {now : Int} (h : ClockAt w cb F now l) {R : Nat → Option Value} (hR : ∀ j, j < 4 ∨ 7 < j → w.cell? ⟨cb.b, j, none⟩ = R j) : ClockAt w ⟨cb.b, R⟩ F now l :=
  ⟨h.c, h.z, hR, h.fc, h.fl, h.le, h.q⟩
/-- What others do to the block that a clock lies in. -/
theorem ClockAt.beside {F : Nat → Prop} {now : Int} {cb : Home} (h : ClockAt w cb F now l) (hk : Keeps (fun b => b = cb.b) w w') (hc : ∀ j, 4 ≤ j → j ≤ 7 → w'.cell? ⟨cb.b, j, none⟩ = w.cell? ⟨cb.b, j, none⟩) (hz : ∀ j, w'.frozen? ⟨cb.b, j, none⟩ = w.frozen? ⟨cb.b, j, none⟩) :
    ClockAt w' (home w' cb.b) F now l := by
  refine ⟨by rw [show (home w' cb.b).b = cb.b from rfl, hc 4 (by decide) (by decide)]; exact h.c, fun j => by rw [show (home w' cb.b).b = cb.b from rfl, hz j]; exact h.z j, fun _ _ => rfl, h.fc, fun b hb => Nat.lt_of_lt_of_le (h.fl b hb) hk.size, h.le, ?_⟩
  rcases h.q with ⟨e, h1, h2, h3⟩ | ⟨v, mb, D, hq, hf⟩
  · exact Or.inl ⟨e, (hc 5 (by decide) (by decide)).trans h1, (hc 6 (by decide) (by decide)).trans h2, (hc 7 (by decide) (by decide)).trans h3⟩
  · refine Or.inr ⟨v, mb, D, ⟨⟨(hc 5 (by decide) (by decide)).trans hq.q.c0, (hc 6 (by decide) (by decide)).trans hq.q.c1, (hc 7 (by decide) (by decide)).trans hq.q.c2, (hz 5).trans hq.q.z0, hk.row hq.q.own fun b hb e => hq.q.ne (by rw [hb]; exact congrArg some e), hk.map hq.q.map hq.q.nem, hq.q.ne⟩, hq.p, hq.heap⟩, hf⟩
theorem Pipes.at {ρ : Nat → Role} {pb : Home} {st : St} (h : Pipes w ρ pb N st) {R : Nat → Option Value} (hR : ∀ j, j ≠ 8 → j ≠ 9 → w.cell? ⟨pb.b, j, none⟩ = R j) : Pipes w ρ ⟨pb.b, R⟩ N st := by
  obtain ⟨h0, vch, ptr, mb, D, h1⟩ := h
  exact ⟨h0, vch, ptr, mb, D, h1.c0, h1.c1, h1.z, h1.row, h1.len, h1.many, h1.chs, h1.rows, h1.map0, h1.map1, h1.has, h1.talk, h1.p0, h1.p1, h1.dom, hR⟩
/-- What others do to the block that channels lie in. -/
theorem Pipes.beside {ρ : Nat → Role} {pb : Home} {st : St} (h : Pipes w ρ pb N st) (hk : Keeps (fun b => b = pb.b) w w') (hc : ∀ j, 8 ≤ j → j ≤ 9 → w'.cell? ⟨pb.b, j, none⟩ = w.cell? ⟨pb.b, j, none⟩) (hz : ∀ j, w'.frozen? ⟨pb.b, j, none⟩ = w.frozen? ⟨pb.b, j, none⟩) :
    Pipes w' ρ (home w' pb.b) N st := by
  obtain ⟨h0, vch, ptr, mb, D, h1⟩ := h
  have hn : ∀ {b r}, ρ b = r → r ≠ .pipes → ¬ b = pb.b := fun hr h3 e => h3 (by rw [← hr, e]; exact h1.p0)
  refine ⟨h0, vch, ptr, mb, D, (hc 8 (by decide) (by decide)).trans h1.c0, (hc 9 (by decide) (by decide)).trans h1.c1, fun j => (hz j).trans (h1.z j), hk.row h1.row fun b hb => hn (h1.p1 b hb) (by simp), h1.len, h1.many, fun k cb c hcb hcc => ?_, h1.rows, h1.map0, fun b hb => ?_, h1.has, fun t l hl => ?_, h1.p0, h1.p1,
    fun b hb => Nat.lt_of_lt_of_le (h1.dom b hb) hk.size, fun _ _ _ => rfl⟩
  · obtain ⟨rb, sb, v1, v2, h3⟩ := h1.chs k cb c hcb hcc
    exact ⟨rb, sb, v1, v2, h3.keeps hk fun b _ hr e => by rw [e, h1.p0] at hr; exact hr⟩
  · obtain ⟨h3, h4⟩ := h1.map1 b hb
    exact ⟨hk.map h3 (hn h4 (by simp)), h4⟩
  · obtain ⟨h3, v, h4, h5, h6⟩ := h1.talk t l hl
    exact ⟨h3, v, h4, h5.keeps hk fun b hb => hn (h6 b hb) (by simp), h6⟩
/-- What others do. -/
theorem RoomAt.keeps (h : RoomAt w0 C w τ rb N s V l) {S : Nat → Prop} (hk : Keeps S w w') (hS : ∀ b, b < w.heap.size → S b → τ b = .free ∧ w0.heap.size ≤ b) : RoomAt w0 C w' τ rb N s V l := by
  have hn : ∀ b, τ b ≠ .free → ¬ S b := fun b hb e => hb (hS b (h.dom b hb) e).1
  have hrb : ¬ S rb := hn rb (by rw [h.t0]; simp)
  have hh := home_keeps hk h.lt hrb
  refine ⟨hk.cell_of h.c0 hrb, hk.cell_of h.c1 hrb, fun k => hk.cell_of (h.cv k) hrb, fun k => hk.row (h.rv k) fun b hb => hn b (by rw [h.rr k b hb]; simp), h.rr, fun j => by rw [hk.frozen (p := ⟨rb, j, none⟩) h.lt hrb]; exact h.z j, ?_, h.cl, ?_, C.keeps h.dr hk fun b hb => hn b (by rw [hb]; simp), h.t0, h.t1,
    fun b hb => Nat.lt_of_lt_of_le (h.dom b hb) hk.size, h.own, h.bel.trans (hk.below h.bel.size fun b hb e => (hS b hb e).2)⟩
  · rw [hh]
    exact h.ck.keeps hk fun b hb => by
      rcases hb with e | e
      · exact hn b (by rw [e]; simp)
      · rw [e]; exact hrb
  · rw [hh]
    exact h.pp.keeps hk fun b hb e => by
      have := (hS b hb e).1
      simp only [this]; rfl
theorem RoomAt.new (h : RoomAt w0 C w τ rb N s V l) (hk : Keeps (fun _ => False) w w') : RoomAt w0 C w' τ rb N s V l := h.keeps hk fun _ _ e => e.elim
/-- A store in the room's block, beside its clock and its channels. -/
theorem RoomAt.store (h : RoomAt w0 C w τ rb N s V l) {j : Nat} (hj : j = 1 ∨ j = 2 ∨ j = 3 ∨ 10 ≤ j) (u : Value) : Keeps (fun b => b = rb) w (w.setCell ⟨rb, j, none⟩ u) ∧
    ClockAt (w.setCell ⟨rb, j, none⟩ u) (home (w.setCell ⟨rb, j, none⟩ u) rb) (fun b => τ b = .clock ∨ b = rb) s.now l ∧ Pipes (w.setCell ⟨rb, j, none⟩ u) (fun b => (τ b).role) (home (w.setCell ⟨rb, j, none⟩ u) rb) N s.pipes ∧ C.At (w.setCell ⟨rb, j, none⟩ u) (fun b => τ b = .doer) s.d := by
  have hk : Keeps (fun b => b = rb) w (w.setCell ⟨rb, j, none⟩ u) := (Keeps.refl (fun b => b = rb) w).setCell (p := ⟨rb, j, none⟩) (Or.inl rfl) u
  have hc : ∀ i, i ≠ j → (w.setCell ⟨rb, j, none⟩ u).cell? ⟨rb, i, none⟩ = w.cell? ⟨rb, i, none⟩ := fun i hi => World.cell?_setCell_other _ _ _ _ (by intro e; injection e with _ e; omega)
  have hz : ∀ i, (w.setCell ⟨rb, j, none⟩ u).frozen? ⟨rb, i, none⟩ = w.frozen? ⟨rb, i, none⟩ := fun i => by rw [World.frozen?_setCell]
  exact ⟨hk, h.ck.beside hk (fun i h1 h2 => hc i (by omega)) hz, h.pp.beside hk (fun i h1 h2 => hc i (by omega)) hz, C.keeps h.dr hk fun b hb e => by rw [e, h.t0] at hb; cases hb⟩
theorem RK.off_ne {k k' : RK} (h : k ≠ k') : k.off ≠ k'.off := by cases k <;> cases k' <;> simp_all [RK.off]
theorem RK.off_is (k : RK) : k.off = 1 ∨ k.off = 2 ∨ k.off = 3 ∨ 10 ≤ k.off := by cases k <;> simp [RK.off]
/-- What a row tells is its own. -/
structure SameBut (k : RK) (s s' : Rm.S α) : Prop where
  fin : s'.fin = s.fin
  now : s'.now = s.now
  clock : s'.clock = s.clock
  pipes : s'.pipes = s.pipes
  d : s'.d = s.d
  len : ∀ k', k' ≠ k → k'.len s' = k'.len s
  vals : ∀ k', k' ≠ k → k'.vals s' = k'.vals s
/-- One row has turned where it lies. -/
theorem RoomAt.turn (h : RoomAt w0 C w τ rb N s V l) (k : RK) (hk : Keeps (fun b => (V k).ownBlock = some b) w w') (hs : SameBut k s s') (ho : w'.ownsRow 0 k.ty k.sz (V k) (k.len s') (k.vals s')) : RoomAt w0 C w' τ rb N s' V l := by
  have hn : ∀ b, τ b ≠ .row k → ¬ (V k).ownBlock = some b := fun b hb e => hb (h.rr k b e)
  have hrb : ¬ (V k).ownBlock = some rb := hn rb (by rw [h.t0]; simp)
  have hh := home_keeps hk h.lt hrb
  refine ⟨hk.cell_of h.c0 hrb, by rw [hs.fin]; exact hk.cell_of h.c1 hrb, fun k' => hk.cell_of (h.cv k') hrb, fun k' => ?_, h.rr, fun j => by rw [hk.frozen (p := ⟨rb, j, none⟩) h.lt hrb]; exact h.z j, ?_, by rw [hs.clock]; exact h.cl, ?_, ?_, h.t0, h.t1,
    fun b hb => Nat.lt_of_lt_of_le (h.dom b hb) hk.size, h.own, h.bel.trans (hk.below h.bel.size fun b hb e => h.own b (by rw [h.rr k b e]; simp))⟩
  · by_cases e : k' = k
    · subst e; exact ho
    · rw [hs.len k' e, hs.vals k' e]
      exact hk.row (h.rv k') fun b hb => hn b (by rw [h.rr k' b hb]; intro e2; injection e2 with e2; exact e e2)
  · rw [hh, hs.now]
    exact h.ck.keeps hk fun b hb => by
      rcases hb with e | e
      · exact hn b (by rw [e]; simp)
      · rw [e]; exact hrb
  · rw [hh, hs.pipes]
    exact h.pp.keeps hk fun b hb e => by
      have := h.rr k b e
      simp only [this]; rfl
  · rw [hs.d]
    exact C.keeps h.dr hk fun b hb => hn b (by rw [hb]; simp)
/-- A row's blocks: its own, and a new one. -/
def roleRow (τ : Nat → RR) (k : RK) (v : Value) (lo b : Nat) : RR := if lo ≤ b ∧ v.ownBlock = some b then .row k else τ b
/-- Another row in the place of one, as its cell tells. -/
theorem RoomAt.put (h : RoomAt w0 C w τ rb N s V l) (k : RK) {v : Value} (hk : Keeps (fun b => (V k).ownBlock = some b) w w') (hs : SameBut k s s') (ho : w'.ownsRow 0 k.ty k.sz v (k.len s') (k.vals s')) (hn : ∀ b, v.ownBlock = some b → (V k).ownBlock = some b ∨ w.heap.size ≤ b) :
    RoomAt w0 C (w'.setCell ⟨rb, k.off, none⟩ v) (roleRow τ k v w.heap.size) rb N s' (fun k' => if k' = k then v else V k') l := by
  have hold : ∀ b, b < w.heap.size → roleRow τ k v w.heap.size b = τ b := fun b hb => by unfold roleRow; rw [if_neg (by omega)]
  have hnew : ∀ b, v.ownBlock = some b → roleRow τ k v w.heap.size b = .row k := fun b hb => by
    rcases hn b hb with e | e
    · rw [hold b (by have := (World.ownsRow.lt (h.rv k) b e).2; omega)]; exact h.rr k b e
    · unfold roleRow; rw [if_pos ⟨e, hb⟩]
  have hcase : ∀ b, roleRow τ k v w.heap.size b = τ b ∨ (w.heap.size ≤ b ∧ v.ownBlock = some b ∧ roleRow τ k v w.heap.size b = .row k) := fun b => by
    unfold roleRow
    split
    · next e => exact Or.inr ⟨e.1, e.2, rfl⟩
    · exact Or.inl rfl
  have hnS : ∀ b, τ b ≠ .row k → ¬ (V k).ownBlock = some b := fun b hb e => hb (h.rr k b e)
  have hrb : ¬ (V k).ownBlock = some rb := hnS rb (by rw [h.t0]; simp)
  have hh := home_keeps hk h.lt hrb
  have hlt' : rb < w'.heap.size := Nat.lt_of_lt_of_le h.lt hk.size
  have hk2 : Keeps (fun b => b = rb) w' (w'.setCell ⟨rb, k.off, none⟩ v) := (Keeps.refl (fun b => b = rb) w').setCell (p := ⟨rb, k.off, none⟩) (Or.inl rfl) v
  have hc : ∀ i, i ≠ k.off → (w'.setCell ⟨rb, k.off, none⟩ v).cell? ⟨rb, i, none⟩ = w'.cell? ⟨rb, i, none⟩ := fun i hi => World.cell?_setCell_other _ _ _ _ (by intro e; injection e with _ e; omega)
  have hz : ∀ i, (w'.setCell ⟨rb, k.off, none⟩ v).frozen? ⟨rb, i, none⟩ = w'.frozen? ⟨rb, i, none⟩ := fun i => by rw [World.frozen?_setCell]
  have hi := RK.off_is k
  have hsz : (w'.setCell ⟨rb, k.off, none⟩ v).heap.size = w'.heap.size := by simp
  have hvne : ∀ b, v.ownBlock = some b → ¬ b = rb := fun b hb e => by
    rcases hn b hb with e2 | e2
    · rw [e] at e2; exact hrb e2
    · have := h.lt; omega
  have ck' : ClockAt w' (home w' rb) (fun b => roleRow τ k v w.heap.size b = .clock ∨ b = rb) s.now l := by
    rw [hh]
    have h1 := h.ck.keeps hk fun b hb => by
      rcases hb with e | e
      · exact hnS b (by rw [e]; simp)
      · rw [e]; exact hrb
    refine h1.grow (fun b hb => hb.imp (fun e => ?_) id) fun b hb => ?_
    · rw [hold b (h.dom b (by rw [e]; simp))]; exact e
    · rcases hb with e | e
      · rcases hcase b with e2 | ⟨_, _, e2⟩
        · rw [e2] at e
          exact Nat.lt_of_lt_of_le (h.dom b (by rw [e]; simp)) hk.size
        · rw [e2] at e; cases e
      · rw [e]; exact hlt'
  have pp' : Pipes w' (fun b => (roleRow τ k v w.heap.size b).role) (home w' rb) N s.pipes := by
    rw [hh]
    have h1 := h.pp.keeps hk fun b hb e => by
      have := h.rr k b e
      simp only [this]; rfl
    have hfun : (fun b => (roleRow τ k v w.heap.size b).role) = fun b => (τ b).role := by
      funext b
      rcases hcase b with e | ⟨e1, e2, e3⟩
      · rw [e]
      · rw [e3]
        have : τ b = .free := Classical.byContradiction fun e => by have := h.dom b e; omega
        rw [this]; rfl
    rw [hfun]
    exact h1
  have dr' : C.At w' (fun b => roleRow τ k v w.heap.size b = .doer) s.d := by
    have h1 := C.keeps h.dr hk fun b hb => hnS b (by rw [hb]; simp)
    refine C.mono h1 (fun b hb => ?_) fun b hb => ?_
    · rw [hold b (h.dom b (by rw [hb]; simp))]; exact hb
    · rcases hcase b with e2 | ⟨_, _, e2⟩
      · rw [e2] at hb
        exact Nat.lt_of_lt_of_le (h.dom b (by rw [hb]; simp)) hk.size
      · rw [e2] at hb; cases hb
  refine ⟨?_, ?_, fun k' => ?_, fun k' => ?_, fun k' b hb => ?_, fun j => ?_, ?_, by rw [hs.clock]; exact h.cl, ?_, ?_, by rw [hold rb h.lt]; exact h.t0, fun b hb => ?_, fun b hb => ?_, fun b hb => ?_, ?_⟩
  · rw [hc 0 (by omega)]; exact hk.cell_of h.c0 hrb
  · rw [hc 1 (by cases k <;> simp [RK.off]), hs.fin]; exact hk.cell_of h.c1 hrb
  · by_cases e : k' = k
    · subst e
      rw [if_pos rfl]
      exact World.cell?_setCell_same _ _ _ (hk.cell_of (h.cv k') hrb)
    · rw [if_neg e, hc _ (RK.off_ne e)]
      exact hk.cell_of (h.cv k') hrb
  · by_cases e : k' = k
    · subst e
      rw [if_pos rfl]
      exact hk2.row ho hvne
    · rw [if_neg e, hs.len k' e, hs.vals k' e]
      refine hk2.row (hk.row (h.rv k') fun b hb => hnS b (by rw [h.rr k' b hb]; intro e2; injection e2 with e2; exact e e2)) fun b hb e2 => ?_
      have h3 := h.rr k' b hb
      rw [show b = rb from e2, h.t0] at h3; cases h3
  · by_cases e : k' = k
    · subst e
      rw [if_pos rfl] at hb
      exact hnew b hb
    · rw [if_neg e] at hb
      rw [hold b (World.ownsRow.lt (h.rv k') b hb).2]
      exact h.rr k' b hb
  · rw [hz j, hk.frozen (p := ⟨rb, j, none⟩) h.lt hrb]; exact h.z j
  · rw [hs.now]
    exact ck'.beside hk2 (fun i h1 h2 => hc i (by omega)) hz
  · rw [hs.pipes]
    exact pp'.beside hk2 (fun i h1 h2 => hc i (by omega)) hz
  · rw [hs.d]
    exact C.keeps dr' hk2 fun b hb e => by rw [e, hold rb h.lt, h.t0] at hb; cases hb
  · rcases hcase b with e2 | ⟨_, _, e2⟩
    · rw [e2] at hb; exact h.t1 b hb
    · rw [e2] at hb; cases hb
  · rw [hsz]
    rcases hcase b with e2 | ⟨_, e3, e2⟩
    · rw [e2] at hb; exact Nat.lt_of_lt_of_le (h.dom b hb) hk.size
    · exact (World.ownsRow.lt ho b e3).2
  · rcases hcase b with e2 | ⟨e1, e3, e2⟩
    · rw [e2] at hb; exact h.own b hb
    · exact Nat.le_trans h.bel.size e1
  · refine (h.bel.trans (hk.below h.bel.size fun b hb e => h.own b (by rw [h.rr k b e]; simp))).trans (hk2.below ?_ fun b hb e => ?_)
    · exact Nat.le_trans h.bel.size hk.size
    · rw [show b = rb from e]; exact h.own rb (by rw [h.t0]; simp)
/-- How all ends. -/
theorem RoomAt.ends (h : RoomAt w0 C w τ rb N s V l) (e : Int) : RoomAt w0 C (w.setCell ⟨rb, 1, none⟩ (.int .i64 e)) τ rb N (Rm.ends s e) V l := by
  obtain ⟨hk, h1, h2, h3⟩ := h.store (Or.inl rfl) (.int .i64 e)
  have hc : ∀ i, i ≠ 1 → (w.setCell ⟨rb, 1, none⟩ (.int .i64 e)).cell? ⟨rb, i, none⟩ = w.cell? ⟨rb, i, none⟩ := fun i hi => World.cell?_setCell_other _ _ _ _ (by intro e; injection e with _ e; omega)
  refine ⟨by rw [hc 0 (by decide)]; exact h.c0, World.cell?_setCell_same _ _ _ h.c1, fun k => by rw [hc _ (by cases k <;> simp [RK.off])]; exact h.cv k, fun k => ?_, h.rr, fun j => by rw [World.frozen?_setCell]; exact h.z j, h1, h.cl, h2, h3, h.t0, h.t1, fun b hb => by simpa using h.dom b hb, h.own, h.bel.trans (hk.below h.bel.size fun b hb e2 => by rw [show b = rb from e2]; exact h.own rb (by rw [h.t0]; simp))⟩
  have h4 : (Rm.ends s e).tasks = s.tasks ∧ (Rm.ends s e).live = s.live ∧ (Rm.ends s e).globals = s.globals ∧ (Rm.ends s e).out = s.out ∧ (Rm.ends s e).events = s.events := ⟨rfl, rfl, rfl, rfl, rfl⟩
  have h5 := hk.row (h.rv k) fun b hb e2 => by
    have h6 := h.rr k b hb
    rw [show b = rb from e2, h.t0] at h6; cases h6
  cases k <;> exact h5
end
end Go.Proofs.YtnjdmijcoadidaaGreatDoor

namespace Go.Proofs.YtnjdmijcoadidaaGreatDoor
open Go.RowKit Go.Maps Pp

section
variable {α : Type} {w0 : World} {C : DoerW α w0} {w w' w1 w2 : World} {τ τ' : Nat → RR} {rb N N' : Nat} {s s' : Rm.S α} {V : RK → Value} {l l' : List Hp.E}
/-- Roles behind a call of the channels. -/
def rolePipe (τ : Nat → RR) (ρ' : Nat → Role) (lo b : Nat) : RR := match τ b with
  | .pipe _ => .pipe (ρ' b)
  | .free => if lo ≤ b then (match ρ' b with | .free => .free | r => .pipe r) else .free
  | x => x
theorem rolePipe_old {τ : Nat → RR} {ρ' : Nat → Role} {lo b : Nat} (h : b < lo) (hf : τ b = .free) : rolePipe τ ρ' lo b = .free := by
  unfold rolePipe
  rw [hf]
  simp only
  rw [if_neg (by omega)]
theorem rolePipe_same {τ : Nat → RR} {ρ' : Nat → Role} {lo b : Nat} (hf : τ b ≠ .free) (hp : ∀ r, τ b ≠ .pipe r) : rolePipe τ ρ' lo b = τ b := by
  unfold rolePipe
  cases e : τ b with
  | free => exact absurd e hf
  | pipe r => exact absurd e (hp r)
  | _ => rfl
theorem rolePipe_pipe {τ : Nat → RR} {ρ' : Nat → Role} {lo b : Nat} {r : Role} (h : τ b = .pipe r) : rolePipe τ ρ' lo b = .pipe (ρ' b) := by
  unfold rolePipe
  rw [h]
theorem rolePipe_is {τ : Nat → RR} {ρ' : Nat → Role} {lo b : Nat} {x : RR} (hx : x ≠ .free) (hp : ∀ r, x ≠ .pipe r) : rolePipe τ ρ' lo b = x ↔ τ b = x := by
  constructor
  · intro h
    unfold rolePipe at h
    cases e : τ b with
    | free =>
      rw [e] at h
      simp only at h
      split at h
      · split at h
        · exact absurd h.symm hx
        · exact absurd h.symm (hp _)
      · exact absurd h.symm hx
    | pipe r => rw [e] at h; exact absurd h.symm (hp _)
    | _ => rw [e] at h; exact h
  · intro h
    rw [rolePipe_same (by rw [h]; exact hx) (by rw [h]; exact hp), h]
theorem RoomAt.piped (h : RoomAt w0 C w τ rb N s V l) {ρ' : Nat → Role} {st : St} (hp : Pipes w' ρ' (home w rb) N' st) (hx : ∀ b, ρ' b ≠ .free → (τ b).role ≠ .free ∨ w.heap.size ≤ b) (hk : Keeps (fun b => (τ b).role ≠ .free) w w') :
    RoomAt w0 C w' (rolePipe τ ρ' w.heap.size) rb N' { s with pipes := st } V l := by
  obtain ⟨h0, vch, ptr, mb, D, h1⟩ := hp
  have hrest : ∀ j, j ≠ 8 → j ≠ 9 → w'.cell? ⟨rb, j, none⟩ = w.cell? ⟨rb, j, none⟩ := fun j h8 h9 => h1.rest j h8 h9
  have hz : ∀ j, w'.frozen? ⟨rb, j, none⟩ = false := fun j => h1.z j
  have hn : ∀ b, (τ b).role = .free → ¬ (τ b).role ≠ .free := fun b e e2 => e2 e
  have hrole : (fun b => (rolePipe τ ρ' w.heap.size b).role) = ρ' := by
    funext b
    cases e : τ b with
    | pipe r => rw [rolePipe_pipe e]; rfl
    | free =>
      unfold rolePipe
      rw [e]
      simp only
      split
      · split
        · next e2 => rw [e2]; rfl
        · rfl
      · next e2 =>
        refine (Classical.byContradiction fun e3 => ?_)
        rcases hx b (fun e4 => e3 (by rw [e4]; rfl)) with e4 | e4
        · rw [e] at e4; exact e4 rfl
        · omega
    | room =>
      rw [rolePipe_same (by rw [e]; simp) (by rw [e]; simp), e, h.t1 b e]
      exact h1.p0.symm
    | row k =>
      rw [rolePipe_same (by rw [e]; simp) (by rw [e]; simp), e]
      refine (Classical.byContradiction fun e3 => ?_)
      rcases hx b (fun e4 => e3 (by rw [e4]; rfl)) with e4 | e4
      · rw [e] at e4; exact e4 rfl
      · have := h.dom b (by rw [e]; simp); omega
    | clock =>
      rw [rolePipe_same (by rw [e]; simp) (by rw [e]; simp), e]
      refine (Classical.byContradiction fun e3 => ?_)
      rcases hx b (fun e4 => e3 (by rw [e4]; rfl)) with e4 | e4
      · rw [e] at e4; exact e4 rfl
      · have := h.dom b (by rw [e]; simp); omega
    | doer =>
      rw [rolePipe_same (by rw [e]; simp) (by rw [e]; simp), e]
      refine (Classical.byContradiction fun e3 => ?_)
      rcases hx b (fun e4 => e3 (by rw [e4]; rfl)) with e4 | e4
      · rw [e] at e4; exact e4 rfl
      · have := h.dom b (by rw [e]; simp); omega
  refine ⟨(hrest 0 (by decide) (by decide)).trans h.c0, (hrest 1 (by decide) (by decide)).trans h.c1, fun k => (hrest _ (by cases k <;> simp [RK.off]) (by cases k <;> simp [RK.off])).trans (h.cv k), fun k => ?_, fun k b hb => ?_, hz, ?_, h.cl, ?_, ?_, ?_, fun b hb => h.t1 b ((rolePipe_is (by simp) (by simp)).1 hb), fun b hb => ?_, fun b hb => ?_, ?_⟩
  · have h5 := hk.row (h.rv k) fun b hb => hn b (by rw [h.rr k b hb]; rfl)
    cases k <;> exact h5
  · exact (rolePipe_is (by simp) (by simp)).2 (h.rr k b hb)
  · have h5 : ClockAt w' (home w' rb) (fun b => τ b = .clock ∨ b = rb) s.now l := by
      have hF : ∀ b, τ b = .clock → ¬ (τ b).role ≠ .free := fun b hb => hn b (by rw [hb]; rfl)
      have hcc : ∀ j, 4 ≤ j → j ≤ 7 → w'.cell? ⟨rb, j, none⟩ = w.cell? ⟨rb, j, none⟩ := fun j _ _ => hrest j (by omega) (by omega)
      refine ⟨(hcc 4 (by decide) (by decide)).trans h.ck.c, hz, fun _ _ => rfl, Or.inr rfl, fun b hb => Nat.lt_of_lt_of_le (h.ck.fl b hb) hk.size, h.ck.le, ?_⟩
      rcases h.ck.q with ⟨e, g1, g2, g3⟩ | ⟨v, mb2, D2, hq, hf⟩
      · exact Or.inl ⟨e, (hcc 5 (by decide) (by decide)).trans g1, (hcc 6 (by decide) (by decide)).trans g2, (hcc 7 (by decide) (by decide)).trans g3⟩
      · have hmb : mb2 ≠ rb := hq.q.nem
        have hvb : v.ownBlock ≠ some rb := hq.q.ne
        refine Or.inr ⟨v, mb2, D2, ⟨⟨(hcc 5 (by decide) (by decide)).trans hq.q.c0, (hcc 6 (by decide) (by decide)).trans hq.q.c1, (hcc 7 (by decide) (by decide)).trans hq.q.c2, hz 5, hk.row hq.q.own fun b hb => ?_, hk.map hq.q.map ?_, hvb⟩, hq.p, hq.heap⟩, hf⟩
        · rcases hf b (Or.inr (Or.inr hb)) with e | e
          · exact hF b e
          · rw [e] at hb; exact absurd hb hvb
        · rcases hf mb2 (Or.inr (Or.inl rfl)) with e | e
          · exact hF mb2 e
          · exact absurd e hmb
    have h6 : (fun b => rolePipe τ ρ' w.heap.size b = .clock ∨ b = rb) = fun b => τ b = .clock ∨ b = rb := by
      funext b
      rw [rolePipe_is (x := .clock) (by simp) (by simp)]
    rw [h6]
    exact h5
  · rw [hrole]
    exact ⟨h0, vch, ptr, mb, D, h1.c0, h1.c1, h1.z, h1.row, h1.len, h1.many, h1.chs, h1.rows, h1.map0, h1.map1, h1.has, h1.talk, h1.p0, h1.p1, h1.dom, fun _ _ _ => rfl⟩
  · have h6 : (fun b => rolePipe τ ρ' w.heap.size b = .doer) = fun b => τ b = .doer := by
      funext b
      rw [rolePipe_is (x := .doer) (by simp) (by simp)]
    rw [h6]
    exact C.keeps h.dr hk fun b hb => hn b (by rw [hb]; rfl)
  · exact (rolePipe_is (by simp) (by simp)).2 h.t0
  · rcases Classical.em (τ b = .free) with e | e
    · have h7 := congrFun hrole b
      refine h1.dom b fun e2 => hb ?_
      rw [e2] at h7
      unfold rolePipe at h7 ⊢
      rw [e] at h7 ⊢
      simp only at h7 ⊢
      split
      · rw [e2]
      · rfl
    · exact Nat.lt_of_lt_of_le (h.dom b e) hk.size
  · rcases Classical.em (τ b = .free) with e | e
    · rcases Nat.lt_or_ge b w.heap.size with e2 | e2
      · exact absurd (rolePipe_old e2 e) hb
      · exact Nat.le_trans h.bel.size e2
    · exact h.own b e
  · refine h.bel.trans (hk.below h.bel.size fun b hb e => h.own b fun e2 => ?_)
    rw [e2] at e
    exact e rfl
/-- Roles behind a call of the clock, or of the Doer. -/
structure IsFun (τ : Nat → RR) (F : Nat → Prop) (r : RR) (lo : Nat) (τ2 : Nat → RR) : Prop where
  old : ∀ b, b < lo → τ2 b = τ b
  new : ∀ b, lo ≤ b → F b → τ2 b = r
  case : ∀ b, τ2 b = τ b ∨ (lo ≤ b ∧ F b ∧ τ2 b = r)
theorem isFun_ex (τ : Nat → RR) (F : Nat → Prop) (r : RR) (lo : Nat) : ∃ τ2, IsFun τ F r lo τ2 := by
  refine ⟨fun b => @ite _ (lo ≤ b ∧ F b) (Classical.propDecidable _) r (τ b), fun b h => if_neg (by omega), fun b h hF => if_pos ⟨h, hF⟩, fun b => ?_⟩
  rcases Classical.em (lo ≤ b ∧ F b) with e | e
  · exact Or.inr ⟨e.1, e.2, if_pos e⟩
  · exact Or.inl (if_neg e)
theorem RoomAt.clocked (h : RoomAt w0 C w τ rb N s V l) {F : Nat → Prop} {now : Int} {cl : List (Int × Int)} (hc : ClockAt w' (home w rb) F now l') (hg : Grows w (fun b => τ b = .clock ∨ b = rb) F) (hk : Keeps (fun b => τ b = .clock ∨ b = rb) w w') (hl : l'.Perm cl) {τ2 : Nat → RR} (hτ : IsFun τ F .clock w.heap.size τ2) :
    RoomAt w0 C w' τ2 rb N { s with now := now, clock := cl } V l' := by
  have hrest : ∀ j, j < 4 ∨ 7 < j → w'.cell? ⟨rb, j, none⟩ = w.cell? ⟨rb, j, none⟩ := fun j hj => hc.rest j hj
  have hz : ∀ j, w'.frozen? ⟨rb, j, none⟩ = false := fun j => hc.z j
  have hn : ∀ b, τ b ≠ .clock → b ≠ rb → ¬ (τ b = .clock ∨ b = rb) := fun b e1 e2 e => e.elim e1 e2
  have hne : ∀ b, τ b ≠ .room → b ≠ rb := fun b e e2 => e (by rw [e2]; exact h.t0)
  have hnew : ∀ b, w.heap.size ≤ b → τ b = .free := fun b hb => Classical.byContradiction fun e => by have := h.dom b e; omega
  have hcase := hτ.case
  have hFl : ∀ b, F b → b < w'.heap.size := hc.fl
  refine ⟨(hrest 0 (by decide)).trans h.c0, (hrest 1 (by decide)).trans h.c1, fun k => (hrest _ (by cases k <;> simp [RK.off])).trans (h.cv k), fun k => ?_, fun k b hb => ?_, hz, ?_, hl, ?_, ?_, by rw [hτ.old _ h.lt]; exact h.t0, fun b hb => ?_, fun b hb => ?_, fun b hb => ?_, ?_⟩
  · have h5 := hk.row (h.rv k) fun b hb => hn b (by rw [h.rr k b hb]; simp) (hne b (by rw [h.rr k b hb]; simp))
    cases k <;> exact h5
  · rw [hτ.old _ (World.ownsRow.lt (h.rv k) b hb).2]; exact h.rr k b hb
  · refine (hc.at (R := fun j => w'.cell? ⟨rb, j, none⟩) fun _ _ => rfl).grow (fun b hb => ?_) fun b hb => ?_
    · rcases hg b hb with (e | e) | e
      · left
        rw [hτ.old _ (h.dom b (by rw [e]; simp))]; exact e
      · exact Or.inr e
      · exact Or.inl (hτ.new _ e hb)
    · rcases hb with e | e
      · rcases hcase b with e2 | ⟨_, e3, _⟩
        · rw [e2] at e; exact Nat.lt_of_lt_of_le (h.dom b (by rw [e]; simp)) hk.size
        · exact hFl b e3
      · rw [e]; exact Nat.lt_of_lt_of_le h.lt hk.size
  · have hfun : (fun b => (τ2 b).role) = fun b => (τ b).role := by
      funext b
      rcases hcase b with e | ⟨e1, e2, e3⟩
      · rw [e]
      · rw [e3, hnew b e1]; rfl
    rw [hfun]
    obtain ⟨h0, vch, ptr, mb, D, h1⟩ := h.pp
    have hnr : ∀ b, (τ b).role ≠ .free → (τ b).role ≠ .pipes → ¬ (τ b = .clock ∨ b = rb) := fun b e1 e2 e => by
      rcases e with e | e
      · rw [e] at e1; exact e1 rfl
      · rw [e, h.t0] at e2; exact e2 rfl
    have hcc : ∀ j, 8 ≤ j → j ≤ 9 → w'.cell? ⟨rb, j, none⟩ = w.cell? ⟨rb, j, none⟩ := fun j _ _ => hrest j (by omega)
    refine ⟨h0, vch, ptr, mb, D, (hcc 8 (by decide) (by decide)).trans h1.c0, (hcc 9 (by decide) (by decide)).trans h1.c1, hz, hk.row h1.row fun b hb => hnr b (by have := h1.p1 b hb; rw [this]; simp) (by have := h1.p1 b hb; rw [this]; simp), h1.len, h1.many, fun k cb c hcb hcc => ?_, h1.rows, h1.map0, fun b hb => ?_, h1.has, fun t tl hl => ?_, h1.p0, h1.p1,
      fun b hb => Nat.lt_of_lt_of_le (h1.dom b hb) hk.size, fun _ _ _ => rfl⟩
    · obtain ⟨rb2, sb, v1, v2, h3⟩ := h1.chs k cb c hcb hcc
      exact ⟨rb2, sb, v1, v2, h3.keeps hk fun b _ hr => hnr b (fun e => by rw [e] at hr; exact hr) (fun e => by rw [e] at hr; exact hr)⟩
    · obtain ⟨h3, h4⟩ := h1.map1 b hb
      exact ⟨hk.map h3 (hnr b (by rw [h4]; simp) (by rw [h4]; simp)), h4⟩
    · obtain ⟨h3, v, h4, h5, h6⟩ := h1.talk t tl hl
      exact ⟨h3, v, h4, h5.keeps hk fun b hb => hnr b (by have := h6 b hb; rw [this]; simp) (by have := h6 b hb; rw [this]; simp), h6⟩
  · refine C.mono (C.keeps h.dr hk fun b hb => hn b (by rw [hb]; simp) (hne b (by rw [hb]; simp))) (fun b hb => ?_) fun b hb => ?_
    · rw [hτ.old _ (h.dom b (by rw [hb]; simp))]; exact hb
    · rcases hcase b with e2 | ⟨_, e3, _⟩
      · rw [e2] at hb; exact Nat.lt_of_lt_of_le (h.dom b (by rw [hb]; simp)) hk.size
      · exact hFl b e3
  · rcases hcase b with e2 | ⟨_, _, e2⟩
    · rw [e2] at hb; exact h.t1 b hb
    · rw [e2] at hb; cases hb
  · rcases hcase b with e2 | ⟨_, e3, _⟩
    · rw [e2] at hb; exact Nat.lt_of_lt_of_le (h.dom b hb) hk.size
    · exact hFl b e3
  · rcases hcase b with e2 | ⟨e1, _, _⟩
    · rw [e2] at hb; exact h.own b hb
    · exact Nat.le_trans h.bel.size e1
  · refine h.bel.trans (hk.below h.bel.size fun b hb e => h.own b fun e2 => ?_)
    rcases e with e | e
    · rw [e2] at e; cases e
    · rw [e, h.t0] at e2; cases e2
theorem RoomAt.doered (h : RoomAt w0 C w τ rb N s V l) {F : Nat → Prop} {d : α} (hd : C.At w' F d) (hg : ∀ b, F b → τ b = .doer ∨ w.heap.size ≤ b) (hk : Keeps (fun b => τ b = .doer) w w') {τ2 : Nat → RR} (hτ : IsFun τ F .doer w.heap.size τ2) :
    RoomAt w0 C w' τ2 rb N { s with d := d } V l := by
  have hn : ∀ b, τ b ≠ .doer → ¬ τ b = .doer := fun b e => e
  have hrb : ¬ τ rb = .doer := by rw [h.t0]; simp
  have hh := home_keeps hk h.lt hrb
  have hnew : ∀ b, w.heap.size ≤ b → τ b = .free := fun b hb => Classical.byContradiction fun e => by have := h.dom b e; omega
  have hcase := hτ.case
  have hFl : ∀ b, F b → b < w'.heap.size := C.lt hd
  refine ⟨hk.cell_of h.c0 hrb, hk.cell_of h.c1 hrb, fun k => hk.cell_of (h.cv k) hrb, fun k => ?_, fun k b hb => ?_, fun j => by rw [hk.frozen (p := ⟨rb, j, none⟩) h.lt hrb]; exact h.z j, ?_, h.cl, ?_, ?_, by rw [hτ.old _ h.lt]; exact h.t0, fun b hb => ?_, fun b hb => ?_, fun b hb => ?_, ?_⟩
  · have h5 := hk.row (h.rv k) fun b hb => hn b (by rw [h.rr k b hb]; simp)
    cases k <;> exact h5
  · rw [hτ.old _ (World.ownsRow.lt (h.rv k) b hb).2]; exact h.rr k b hb
  · rw [hh]
    refine (h.ck.keeps hk fun b hb => ?_).grow (fun b hb => hb.imp (fun e => ?_) id) fun b hb => ?_
    · rcases hb with e | e
      · rw [e]; simp
      · rw [e]; exact hrb
    · rw [hτ.old _ (h.dom b (by rw [e]; simp))]; exact e
    · rcases hb with e | e
      · rcases hcase b with e2 | ⟨_, e3, _⟩
        · rw [e2] at e; exact Nat.lt_of_lt_of_le (h.dom b (by rw [e]; simp)) hk.size
        · exact hFl b e3
      · rw [e]; exact Nat.lt_of_lt_of_le h.lt hk.size
  · have hfun : (fun b => (τ2 b).role) = fun b => (τ b).role := by
      funext b
      rcases hcase b with e | ⟨e1, e2, e3⟩
      · rw [e]
      · rw [e3, hnew b e1]; rfl
    rw [hfun, hh]
    exact h.pp.keeps hk fun b hb e => by simp only [e]; rfl
  · refine C.mono hd (fun b hb => ?_) fun b hb => ?_
    · rcases hg b hb with e | e
      · rw [hτ.old _ (h.dom b (by rw [e]; simp))]; exact e
      · exact hτ.new _ e hb
    · rcases hcase b with e2 | ⟨_, e3, _⟩
      · rw [e2] at hb; exact Nat.lt_of_lt_of_le (h.dom b (by rw [hb]; simp)) hk.size
      · exact hFl b e3
  · rcases hcase b with e2 | ⟨_, _, e2⟩
    · rw [e2] at hb; exact h.t1 b hb
    · rw [e2] at hb; cases hb
  · rcases hcase b with e2 | ⟨_, e3, _⟩
    · rw [e2] at hb; exact Nat.lt_of_lt_of_le (h.dom b hb) hk.size
    · exact hFl b e3
  · rcases hcase b with e2 | ⟨e1, _, _⟩
    · rw [e2] at hb; exact h.own b hb
    · exact Nat.le_trans h.bel.size e1
  · exact h.bel.trans (hk.below h.bel.size fun b hb e => h.own b (by rw [e]; simp))
/-- A room in memory, wherever its rows lie. -/
def RoomT (w0 : World) (C : DoerW α w0) (w : World) (τ : Nat → RR) (rb N : Nat) (s : Rm.S α) : Prop := ∃ V l, RoomAt w0 C w τ rb N s V l
/-- What a step leaves: the room, and all that is not of it. -/
structure Goes (w0 : World) (C : DoerW α w0) (w w' : World) (τ : Nat → RR) (rb N' : Nat) (s' : Rm.S α) : Prop where
  ex : ∃ τ', RoomT w0 C w' τ' rb N' s' ∧ ∀ b, b < w.heap.size → τ b = .free → τ' b = .free
  keep : Keeps (fun b => τ b ≠ .free) w w'
theorem Goes.refl (h : RoomT w0 C w τ rb N s) : Goes w0 C w w τ rb N s := ⟨⟨τ, h, fun _ _ e => e⟩, Keeps.refl _ _⟩
theorem Goes.trans {τ1 : Nat → RR} (hk : Keeps (fun b => τ b ≠ .free) w w1) (hf : ∀ b, b < w.heap.size → τ b = .free → τ1 b = .free) (h : Goes w0 C w1 w2 τ1 rb N' s') : Goes w0 C w w2 τ rb N' s' := by
  obtain ⟨τ2, h1, h2⟩ := h.ex
  exact ⟨⟨τ2, h1, fun b hb e => h2 b (Nat.lt_of_lt_of_le hb hk.size) (hf b hb e)⟩, hk.trans' h.keep fun b hb e e2 => e (hf b hb e2)⟩
theorem RoomT.keeps (h : RoomT w0 C w τ rb N s) {S : Nat → Prop} (hk : Keeps S w w') (hS : ∀ b, b < w.heap.size → S b → τ b = .free ∧ w0.heap.size ≤ b) : RoomT w0 C w' τ rb N s := by
  obtain ⟨V, l, h1⟩ := h
  exact ⟨V, l, h1.keeps hk hS⟩
theorem RoomT.new (h : RoomT w0 C w τ rb N s) (hk : Keeps (fun _ => False) w w') : RoomT w0 C w' τ rb N s := h.keeps hk fun _ _ e => e.elim
/-- Others went ahead. -/
theorem Goes.first (hk : Keeps (fun _ => False) w w1) (h : Goes w0 C w1 w2 τ rb N' s') : Goes w0 C w w2 τ rb N' s' := h.trans (hk.mono fun _ _ e => e.elim) fun _ _ e => e
/-- Others went behind. -/
theorem Goes.last (h : Goes w0 C w w1 τ rb N' s') {S : Nat → Prop} (hk : Keeps S w1 w2) (hS : ∀ b, S b → w.heap.size ≤ b ∧ ∀ τ', RoomT w0 C w1 τ' rb N' s' → τ' b = .free) (h0 : w0.heap.size ≤ w.heap.size) : Goes w0 C w w2 τ rb N' s' := by
  obtain ⟨τ', h1, h2⟩ := h.ex
  exact ⟨⟨τ', h1.keeps hk fun b _ e => ⟨(hS b e).2 τ' h1, Nat.le_trans h0 (hS b e).1⟩, h2⟩, h.keep.trans' hk fun b hb e => by have := (hS b e).1; omega⟩
theorem Goes.new (h : Goes w0 C w w1 τ rb N' s') (hk : Keeps (fun _ => False) w1 w2) : Goes w0 C w w2 τ rb N' s' := by
  obtain ⟨τ', h1, h2⟩ := h.ex
  exact ⟨⟨τ', h1.new hk, h2⟩, h.keep.trans' hk fun b hb e => e.elim⟩
theorem RoomAt.bare (h : RoomAt w0 C w τ rb N s V l) : RoomT w0 C w τ rb N s := ⟨V, l, h⟩
theorem RoomAt.goes_ends (h : RoomAt w0 C w τ rb N s V l) (e : Int) : Goes w0 C w (w.setCell ⟨rb, 1, none⟩ (.int .i64 e)) τ rb N (Rm.ends s e) :=
  ⟨⟨τ, (h.ends e).bare, fun _ _ e => e⟩, (Keeps.refl _ w).setCell (p := ⟨rb, 1, none⟩) (Or.inl (by rw [h.t0]; simp)) _⟩
theorem RoomAt.goes_put (h : RoomAt w0 C w τ rb N s V l) (k : RK) {v : Value} (hk : Keeps (fun b => (V k).ownBlock = some b) w w') (hs : SameBut k s s') (ho : w'.ownsRow 0 k.ty k.sz v (k.len s') (k.vals s')) (hn : ∀ b, v.ownBlock = some b → (V k).ownBlock = some b ∨ w.heap.size ≤ b) :
    Goes w0 C w (w'.setCell ⟨rb, k.off, none⟩ v) τ rb N s' := by
  refine ⟨⟨_, (h.put k hk hs ho hn).bare, fun b hb e => ?_⟩, ?_⟩
  · unfold roleRow; rw [if_neg (by omega)]; exact e
  · exact (hk.mono fun b hb e => by rw [h.rr k b e]; simp).setCell (p := ⟨rb, k.off, none⟩) (Or.inl (by rw [h.t0]; simp)) _
theorem RoomAt.goes_turn (h : RoomAt w0 C w τ rb N s V l) (k : RK) (hk : Keeps (fun b => (V k).ownBlock = some b) w w') (hs : SameBut k s s') (ho : w'.ownsRow 0 k.ty k.sz (V k) (k.len s') (k.vals s')) : Goes w0 C w w' τ rb N s' :=
  ⟨⟨τ, (h.turn k hk hs ho).bare, fun _ _ e => e⟩, hk.mono fun b hb e => by rw [h.rr k b e]; simp⟩
theorem RoomAt.goes_piped (h : RoomAt w0 C w τ rb N s V l) {ρ' : Nat → Role} {st : St} (hp : Pipes w' ρ' (home w rb) N' st) (hx : ∀ b, ρ' b ≠ .free → (τ b).role ≠ .free ∨ w.heap.size ≤ b) (hk : Keeps (fun b => (τ b).role ≠ .free) w w') :
    Goes w0 C w w' τ rb N' { s with pipes := st } :=
  ⟨⟨_, (h.piped hp hx hk).bare, fun _ hb e => rolePipe_old hb e⟩, hk.mono fun b _ e e2 => by rw [e2] at e; exact e rfl⟩
theorem RoomAt.goes_clocked (h : RoomAt w0 C w τ rb N s V l) {F : Nat → Prop} {now : Int} {cl : List (Int × Int)} (hc : ClockAt w' (home w rb) F now l') (hg : Grows w (fun b => τ b = .clock ∨ b = rb) F) (hk : Keeps (fun b => τ b = .clock ∨ b = rb) w w') (hl : l'.Perm cl) :
    Goes w0 C w w' τ rb N { s with now := now, clock := cl } := by
  obtain ⟨τ2, hτ⟩ := isFun_ex τ F .clock w.heap.size
  exact ⟨⟨_, (h.clocked hc hg hk hl hτ).bare, fun _ hb e => by rw [hτ.old _ hb]; exact e⟩, hk.mono fun b _ e e2 => by
    rcases e with e | e
    · rw [e2] at e; cases e
    · rw [e, h.t0] at e2; cases e2⟩
theorem RoomAt.goes_doered (h : RoomAt w0 C w τ rb N s V l) {F : Nat → Prop} {d : α} (hd : C.At w' F d) (hg : ∀ b, F b → τ b = .doer ∨ w.heap.size ≤ b) (hk : Keeps (fun b => τ b = .doer) w w') : Goes w0 C w w' τ rb N { s with d := d } := by
  obtain ⟨τ2, hτ⟩ := isFun_ex τ F .doer w.heap.size
  exact ⟨⟨_, (h.doered hd hg hk hτ).bare, fun _ hb e => by rw [hτ.old _ hb]; exact e⟩, hk.mono fun b _ e e2 => by rw [e2] at e; cases e⟩
end
end Go.Proofs.YtnjdmijcoadidaaGreatDoor

namespace Go.Proofs.YtnjdmijcoadidaaGreatDoor
open Go.RowKit Go.Maps Pp

set_option maxRecDepth 100000 in
theorem giveIdle (w : World) : CallsD Tryz.prog 118 #[] .returning w fun e u' w' => e = .returned (.tuple #[]) ∧ u' = .returning ∧ w' = w := by
  refine callsD_of_wpS Tryz.func118 rfl fun c₀ cs hu => ?_
  apply wpS_region
  simp [wpOpsS, go_sem, recoverD, hu, Tryz.ntmps118]
  cases c₀
  simp_all [bodyPostS, results, Tryz.results118]
set_option maxRecDepth 100000 in
theorem nextIdle (w : World) : CallsD Tryz.prog 75 #[] .returning w fun e u' w' => e = .returned (.tuple #[]) ∧ u' = .returning ∧ w' = w := by
  refine callsD_of_wpS Tryz.func75 rfl fun c₀ cs hu => ?_
  apply wpS_region
  simp [wpOpsS, go_sem, recoverD, hu, Tryz.ntmps75]
  cases c₀
  simp_all [bodyPostS, results, Tryz.results75]
set_option maxRecDepth 100000 in
theorem beginIdle (w : World) : CallsD Tryz.prog 70 #[] .returning w fun e u' w' => e = .returned (.tuple #[]) ∧ u' = .returning ∧ w' = w := by
  refine callsD_of_wpS Tryz.func70 rfl fun c₀ cs hu => ?_
  apply wpS_region
  simp [wpOpsS, go_sem, recoverD, hu, Tryz.ntmps70]
  cases c₀
  simp_all [bodyPostS, results, Tryz.results70]

section
variable {α : Type} {w0 : World} {C : DoerW α w0} {w w' : World} {τ τ' : Nat → RR} {rb N N' : Nat} {s s' : Rm.S α} {V : RK → Value} {l : List Hp.E}
theorem keeps_drew0 (w : World) : Keeps (fun _ => False) w w.drew := (Keeps.refl _ w).drew
theorem RoomAt.drewR (h : RoomAt w0 C w τ rb N s V l) : RoomAt w0 C w.drew τ rb N s V l := h.new (keeps_drew0 w)
set_option maxRecDepth 100000 in
set_option maxHeartbeats 3200000 in
theorem give_any (h : RoomT w0 C w τ rb N s) (t : Nat) (ht : t < C.num s.d) (hn : C.num s.d ≤ 200000) (hb : C.big s.d ≤ 1000000000) (c n : Int) :
    Calls Tryz.prog 83 #[.pointer (some ⟨rb, 0, none⟩), .int .i64 t, .agg #[.int .i64 c, .int .i64 n]] w fun e w' => e = .returned (.tuple #[]) ∧ Goes w0 C w w' τ rb N (Rm.give C.D s t c n) := by
  obtain ⟨V, l, hr⟩ := h
  have HR1 := Lib.hid (hr.new ((Keeps.refl (fun _ => False) w).alloc (.cells #[.int .i64 c, .int .i64 n] 124)))
  have HG := Lib.hid (fun (W : World) (h1 : C.At W (fun b => τ b = .doer) s.d) (h2 : Below w0.heap.size w0 W) => C.give t c n h1 ht hn hb h2 fun b hb => hr.own b (by rw [hb]; simp))
  have HK1 : Hid (Keeps (fun _ => False) w (w.alloc (.cells #[.int .i64 c, .int .i64 n] 124))) := Lib.hid ((Keeps.refl (fun _ => False) w).alloc _)
  have HAB : Hid (¬ τ w.heap.size = .doer) := Lib.hid fun e => by have := hr.dom w.heap.size (by rw [e]; simp); omega
  have m1 := C.nG
  have m2 := C.mG
  have c0 := HR1.out.c0
  clear hr ht hn hb
  go_enter_defers Tryz.func83, Tryz.ntmps83
  go_wp2_with fail
  have a0 : (w.alloc (.cells #[.int .i64 c, .int .i64 n] 124)).cell? ⟨w.heap.size, 0, none⟩ = some (.int .i64 c) := by rw [World.cell?_alloc_at _ _ _ _ rfl]; rfl
  have a1 : (w.alloc (.cells #[.int .i64 c, .int .i64 n] 124)).cell? ⟨w.heap.size, 1, none⟩ = some (.int .i64 n) := by rw [World.cell?_alloc_at _ _ _ _ rfl]; rfl
  generalize w.alloc (.cells #[.int .i64 c, .int .i64 n] 124) = w1 at *
  generalize w.heap.size = ab at *
  refine wp_region_noPanic ?_
  refine wp_region_held_drew (S := (fun W : World => W.cell? ⟨rb, 0, none⟩ = some (.iface C.dt C.dp) ∧ W.cell? ⟨ab, 0, none⟩ = some (.int .i64 c) ∧ W.cell? ⟨ab, 1, none⟩ = some (.int .i64 n))) (by kernel_rfl) ⟨by simp only [World.cell?_drew]; assumption, by simp only [World.cell?_drew]; assumption, by simp only [World.cell?_drew]; assumption⟩ (fun hHeld => ?_)
  refine wpAnyH_take (i := 0) (oi := { dst := some 6, op := _, type := _, pos := _, after := _, guard := _ }) (v := .pointer (some ⟨rb, 0, none⟩)) rfl (by kernel_rfl) (by kernel_rfl) (by kernel_rfl) (fun _ _ _ h => h) (Or.inl ⟨by rfl, ?_⟩) hHeld ?_
  · intro W9 hSW
    (try dsimp only at hSW)
    go_simp
  try simp only [Act.put, List.setIfInBounds_toArray, List.set_cons_zero, List.set_cons_succ]
  refine wpAnyH_take (i := 1) (oi := { dst := some 7, op := _, type := _, pos := _, after := _, guard := _ }) (v := .pointer (some ⟨rb, 0, none⟩)) rfl (by kernel_rfl) (by kernel_rfl) (by kernel_rfl) (fun _ _ _ h => h) (Or.inl ⟨by rfl, ?_⟩) hHeld ?_
  · intro W9 hSW
    (try dsimp only at hSW)
    go_simp
  try simp only [Act.put, List.setIfInBounds_toArray, List.set_cons_zero, List.set_cons_succ]
  refine wpAnyH_take (i := 2) (oi := { dst := some 8, op := _, type := _, pos := _, after := _, guard := _ }) (v := .pointer (some ⟨rb, 0, none⟩)) rfl (by kernel_rfl) (by kernel_rfl) (by kernel_rfl) (fun _ _ _ h => h) (Or.inl ⟨by rfl, ?_⟩) hHeld ?_
  · intro W9 hSW
    (try dsimp only at hSW)
    go_simp
  try simp only [Act.put, List.setIfInBounds_toArray, List.set_cons_zero, List.set_cons_succ]
  refine wpAnyH_take (i := 3) (oi := { dst := some 9, op := _, type := _, pos := _, after := _, guard := _ }) (v := .iface C.dt C.dp) rfl (by kernel_rfl) (by kernel_rfl) (by kernel_rfl) (fun _ _ _ h => h) (Or.inl ⟨by rfl, ?_⟩) hHeld ?_
  · intro W9 hSW
    (try dsimp only at hSW)
    go_simp
  try simp only [Act.put, List.setIfInBounds_toArray, List.set_cons_zero, List.set_cons_succ]
  refine wpAnyH_take (i := 4) (oi := { dst := some 10, op := _, type := _, pos := _, after := _, guard := _ }) (v := .int .i64 t) rfl (by kernel_rfl) (by kernel_rfl) (by kernel_rfl) (fun _ _ _ h => h) (Or.inl ⟨by rfl, ?_⟩) hHeld ?_
  · intro W9 hSW
    (try dsimp only at hSW)
    go_simp
  try simp only [Act.put, List.setIfInBounds_toArray, List.set_cons_zero, List.set_cons_succ]
  refine wpAnyH_take (i := 5) (oi := { dst := some 11, op := _, type := _, pos := _, after := _, guard := _ }) (v := .agg #[.int .i64 c, .int .i64 n]) rfl (by kernel_rfl) (by kernel_rfl) (by kernel_rfl) (fun _ _ _ h => h) (Or.inl ⟨by rfl, ?_⟩) hHeld ?_
  · intro W9 hSW
    (try dsimp only at hSW)
    go_simp
  try simp only [Act.put, List.setIfInBounds_toArray, List.set_cons_zero, List.set_cons_succ]
  refine wpAnyH_ready (rs := [6]) (by kernel_rfl) (by simp) ?_
  refine AllReadyH.cons (o := { dst := some 12, op := _, type := _, pos := _, after := _, guard := _ }) rfl (fun K hK => ?_) AllReadyH.nil
  go_simp
  rw [C.eG]
  simp only [Oper.upon_enter]
  refine (HG.out w1.drew HR1.out.drewR.dr HR1.out.drewR.bel).mono ?_
  rintro e w2 ⟨rfl, F2, h1, h2, h3⟩
  have HGO := Lib.hid (HR1.out.drewR.goes_doered h1 (fun b hb => h2 b hb) h3)
  have hS2 : w2.cell? ⟨rb, 0, none⟩ = some (.iface C.dt C.dp) ∧ w2.cell? ⟨ab, 0, none⟩ = some (.int .i64 c) ∧ w2.cell? ⟨ab, 1, none⟩ = some (.int .i64 n) := ⟨h3.cell_of (w := w1.drew) c0 (by rw [HR1.out.t0]; simp), h3.cell_of (w := w1.drew) a0 HAB.out, h3.cell_of (w := w1.drew) a1 HAB.out⟩
  clear h1 h2 h3
  go_simp
  refine hK.out _ _ hS2 (fun hHeld => ?_)
  clear hK K hS2
  refine wpAnyH_done (by kernel_rfl) ?_ _
  refine NoPanic.normal ?_
  clear m1 m2 c0 a0 a1 hHeld
  go_wp2_with fail
  refine leaves_cons (f := 118) (args := #[]) (by simp) (by simp [go_sem]) ?_
  refine (giveIdle w2).mono ?_
  rintro e u' w3 ⟨rfl, rfl, rfl⟩
  exact ⟨_, results_none rfl _ _ _, rfl, (HGO.out.first (keeps_drew0 w1)).first HK1.out⟩
end
end Go.Proofs.YtnjdmijcoadidaaGreatDoor

namespace Go.Proofs.YtnjdmijcoadidaaGreatDoor
open Go.RowKit Go.Maps

theorem own1_slice {w : World} {B n : Nat} {e : TypeId} {sz : Nat} {v : Value} {xs : List Value} (h : w.ownsRow B e sz v n xs) : ∃ ao cap, v = .slice ao n cap := by
  rcases h.2 with ⟨rfl, h0⟩ | ⟨g, cap, cur, rfl, _⟩
  · exact ⟨none, 0, by rw [h0]⟩
  · exact ⟨_, _, rfl⟩
/-- 'append(xs, y)', as one step of a region that draws. -/
theorem step_append1 {ops : Array Oper} {o : Oper} {a : Act} {w : World} {K : Act → World → Prop} {Q : Exit → Act → World → Prop} {E : Prop}
    (hg : o.guard = none) (s x : Operand) (t e : TypeId) (hop : o.op = Op.call { callee := Callee.builtin Builtin.append, args := #[s, x], argTypes := #[t, t] }) (hu : Tryz.prog.underlying t = some (.slice e)) {z : Value} {bytes : Nat}
    (hi : (Tryz.prog.info? e).map (fun i => (i.zero, i.size, i.bytes)) = some (some z, 1, bytes)) (hz : z.cells.size = 1) (hb : bytes ≤ 16) {v : Value} {n : Nat} {xs : List Value} (hown : w.ownsRow 0 e 1 v n xs) (hn : n ≤ 1000000)
    {b : Nat} {y : Value} (hc : w.cell? ⟨b, 0, none⟩ = some y) (hy : y.oneCell' = true) (hs : a.eval s = v) (hx : a.eval x = .slice (some ⟨b, 0, none⟩) 1 1)
    (hK : ∀ ao' cap' w', w'.ownsRow 0 e 1 (.slice ao' (n + 1) cap') (n + 1) (xs ++ [y]) → Keeps (fun b => v.ownBlock = some b) w w' →
      (∀ k, (Value.slice ao' (n + 1) cap').ownBlock = some k → v.ownBlock = some k ∨ w.heap.size ≤ k) → K (a.put o.dst (.slice ao' (n + 1) cap')) w') :
    if Region.wanted o (yielded ops a.tmps) = true then Oper.wp Tryz.prog o a w K Q else E := by
  have hw : Region.wanted o (yielded ops a.tmps) = true := by simp [Region.wanted, hg]
  rw [if_pos hw]
  obtain ⟨i, h2, h3, h4, h5⟩ := info_parts hi
  obtain ⟨v', w', hrun, r1, r2, _, r4⟩ := run_append_own_at (P := Tryz.prog) w 0 t o.type e i z 1 bytes hu h2 h3 h4 h5 hz (by decide) v n xs hown ⟨b, 0, none⟩ 1 1 [y] rfl
    (fun j u hj => by
      rcases j with _ | j
      · simp at hj; subst hj; simpa [Addr.add] using hc
      · simp at hj)
    (fun u hu => by simp at hu; subst hu; exact hy) (by unfold maxLen; omega) (Nat.le_trans (Nat.mul_le_mul (Nat.succ_le_succ hn) hb) (by decide)) (Nat.zero_le _)
  have hv' : ∃ ao' cap', v' = .slice ao' (n + 1) cap' := by
    rcases r1.2 with ⟨_, h0⟩ | ⟨g, cap', cur, rfl, _⟩
    · omega
    · exact ⟨_, _, rfl⟩
  obtain ⟨ao', cap', rfl⟩ := hv'
  unfold Oper.wp
  simp [execOp, hop, resolve, invoke, builtin, hs, hx, hrun, Result.andThen]
  refine hK _ _ _ r1 (Keeps.of_grownBy r2 fun k _ e => e.symm ▸ rfl) fun k hk => ?_
  rcases r4 with r4 | r4
  · exact Or.inl (r4 ▸ hk)
  · rw [r4] at hk; cases hk; exact Or.inr (Nat.le_refl _)
end Go.Proofs.YtnjdmijcoadidaaGreatDoor

namespace Go.Proofs.YtnjdmijcoadidaaGreatDoor
open Go.RowKit Go.Maps Pp

theorem info_ev : (Tryz.prog.info? 70).map (fun i => (i.zero, i.size, i.bytes)) = some (some (.agg #[.int .i64 0, .int .i64 0, .int .i64 0]), 3, 24) := by kernel_rfl
/-- 'events = append(events, e)'. -/
theorem wpList_appendEv {ops : Array Oper} {rest : List Oper} {o : Oper} {a : Act} {Q : Exit → Act → World → Prop} (hgd : o.guard = none) (s x : Operand)
    (ho : o.op = .call { callee := .builtin .append, args := #[s, x], argTypes := #[50, 50] }) (w : World) (v : Value) (l : List Rm.Ev) (y : Rm.Ev) (hown : w.ownsRow 0 70 3 v l.length (cellsEv l)) (hs : a.eval s = v)
    (hx : a.eval x = .slice (some ⟨w.heap.size, 0, none⟩) 1 1) (hl : l.length ≤ 100000000)
    (h : ∀ ao' cap' w', w'.ownsRow 0 70 3 (.slice ao' (l.length + 1) cap') (l ++ [y]).length (cellsEv (l ++ [y])) → Keeps (fun b => v.ownBlock = some b) w w' → (∀ k, (Value.slice ao' (l.length + 1) cap').ownBlock = some k → v.ownBlock = some k ∨ w.heap.size ≤ k) →
      wpList Tryz.prog ops Q rest (a.put o.dst (.slice ao' (l.length + 1) cap')) w') : wpList Tryz.prog ops Q (o :: rest) a (w.alloc (.cells #[.int .i64 y.task, .int .i64 y.what, .int .i64 y.obj] 70)) := by
  obtain ⟨i0, hi, hz0, hz1, hz2⟩ := tinfoP info_ev
  have hnew : ∀ j u, [Value.int .i64 y.task, Value.int .i64 y.what, Value.int .i64 y.obj][j]? = some u → (w.alloc (.cells #[.int .i64 y.task, .int .i64 y.what, .int .i64 y.obj] 70)).cell? ((⟨w.heap.size, 0, none⟩ : Addr).add j) = some u := fun j u hu => by
    rw [addr_addP, World.cell?_alloc_at _ _ _ _ rfl]
    rcases j with _ | _ | _ | j
    · exact hu
    · exact hu
    · exact hu
    · simp at hu
  refine wpList_append_own_at _ hgd s x 50 ho 0 70 i0 (.agg #[.int .i64 0, .int .i64 0, .int .i64 0]) 3 24 Tryz.underlying50 hi hz0 hz1 hz2 rfl (by decide) v l.length (cellsEv l) hs (World.ownsRow.alloc hown _) ⟨w.heap.size, 0, none⟩ 1 1 [.int .i64 y.task, .int .i64 y.what, .int .i64 y.obj] hx rfl
    hnew (fun u hu => by simp at hu; rcases hu with rfl | rfl | rfl <;> rfl) (by unfold maxLen; omega) (by omega) (Nat.zero_le _) ?_
  intro v' w' h1 h2 _ h4
  have hO : w'.ownsRow 0 70 3 v' (l.length + 1) (cellsEv (l ++ [y])) := by rw [cellsEv_append]; exact h1
  obtain ⟨ao', cap', rfl⟩ := own1_slice hO
  refine h _ _ _ (by rw [List.length_append]; exact hO) (keeps_append h2 fun k e => e) fun k hk => ?_
  rcases h4 with h4 | h4
  · exact Or.inl (h4 ▸ hk)
  · rw [h4] at hk
    cases hk
    exact Or.inr (by simp)
section
variable {α : Type} {w0 : World} {C : DoerW α w0} {w w' : World} {τ τ' : Nat → RR} {rb N N' : Nat} {s s' : Rm.S α} {V : RK → Value} {l : List Hp.E}
theorem same_tell (s : Rm.S α) (t what obj : Int) : SameBut .events s (Rm.tell s t what obj) := ⟨rfl, rfl, rfl, rfl, rfl, fun k hk => by cases k <;> first | rfl | exact absurd rfl hk, fun k hk => by cases k <;> first | rfl | exact absurd rfl hk⟩
set_option maxRecDepth 100000 in
set_option maxHeartbeats 3200000 in
theorem tell_any (h : RoomT w0 C w τ rb N s) (hl : s.events.length ≤ 90000000) (t what obj : Int) :
    Calls Tryz.prog 104 #[.pointer (some ⟨rb, 0, none⟩), .int .i64 t, .int .i64 what, .int .i64 obj] w fun e w' => e = .returned (.tuple #[]) ∧ Goes w0 C w w' τ rb N (Rm.tell s t what obj) := by
  obtain ⟨V, l, hr⟩ := h
  have HR := Lib.hid hr
  have hrow : w.ownsRow 0 70 3 (V .events) s.events.length (cellsEv s.events) := hr.rv .events
  have HROW := Lib.hid hrow
  have ce : w.cell? ⟨rb, 12, none⟩ = some (V .events) := hr.cv .events
  have hlt := hr.lt
  have z12 := hr.z 12
  have HV : Hid (¬ (V .events).ownBlock = some rb) := Lib.hid fun e => by have := hr.rr .events rb e; rw [hr.t0] at this; cases this
  clear hr hrow
  generalize hve : V .events = v at *
  have HVE := Lib.hid hve
  clear hve
  go_enter Tryz.func104, Tryz.ntmps104
  go_wp2_with (at_builtin; go_loud (refine wpList_appendEv rfl _ _ rfl w v s.events ⟨t, what, obj⟩ HROW.out rfl rfl (by omega) ?_; intro a2 c2 w2 ho2 hk2 hn2; have HO2 := Lib.hid ho2; have HK2 := Lib.hid hk2; have HN2 := Lib.hid hn2; have y0 : w2.cell? ⟨rb, 12, none⟩ = some v := hk2.cell_of ce HV.out; have y1 : w2.frozen? ⟨rb, 12, none⟩ = false := (by rw [hk2.frozen (p := ⟨rb, 12, none⟩) hlt HV.out]; exact z12); clear ho2 hk2 hn2))
  go_end0
  have hg := HR.out.goes_put .events (w' := w2) (s' := Rm.tell s t what obj) (by rw [HVE.out]; exact HK2.out) (same_tell s t what obj) HO2.out (by rw [HVE.out]; exact HN2.out)
  exact ⟨rfl, hg⟩
end
end Go.Proofs.YtnjdmijcoadidaaGreatDoor

namespace Go.Proofs.YtnjdmijcoadidaaGreatDoor
open Go.RowKit Go.Maps Pp

theorem cellsK_wks : ∀ (l : List Wk) (i : Nat) (x : Wk), l[i]? = some x → (cellsK l)[i * 3]? = some (.int .i64 x.task) ∧ (cellsK l)[i * 3 + 1]? = some (.int .i64 (x.case : Int)) ∧ (cellsK l)[i * 3 + 2]? = some (.int .i64 x.n) := by
  intro l
  induction l with
  | nil => intro i x h; cases h
  | cons p r ih =>
    intro i x h
    have e : cellsK (p :: r) = .int .i64 p.task :: .int .i64 (p.case : Int) :: .int .i64 p.n :: cellsK r := rfl
    cases i with
    | zero => cases h; exact ⟨rfl, rfl, rfl⟩
    | succ i =>
      have := ih i x (by simpa using h)
      rw [e]
      refine ⟨?_, ?_, ?_⟩
      · rw [show (i + 1) * 3 = i * 3 + 1 + 1 + 1 by omega]; simpa using this.1
      · rw [show (i + 1) * 3 + 1 = i * 3 + 1 + 1 + 1 + 1 by omega]; simpa using this.2.1
      · rw [show (i + 1) * 3 + 2 = i * 3 + 2 + 1 + 1 + 1 by omega]; simpa using this.2.2
/-- Those that go on, to be read. -/
structure WksAt (w : World) (v : Value) (l : List Wk) : Prop where
  ex : ∃ ao cap, v = .slice ao l.length cap ∧ l.length ≤ cap ∧ cap ≤ maxLen ∧ (0 < l.length → ∃ g, ao = some ⟨g, 0, none⟩ ∧ g < w.heap.size ∧ ∀ (i : Nat) x, l[i]? = some x → w.cell? ⟨g, i * 3, none⟩ = some (.int .i64 x.task) ∧ w.cell? ⟨g, i * 3 + 1, none⟩ = some (.int .i64 (x.case : Int)) ∧ w.cell? ⟨g, i * 3 + 2, none⟩ = some (.int .i64 x.n))
theorem wksAt_of {w : World} {B : Nat} {v : Value} {l : List Wk} (h : w.ownsRow B 162 3 v l.length (cellsK l)) : WksAt w v l := by
  have hc := h
  rcases h.2 with ⟨rfl, h0⟩ | ⟨g, cap, cur, rfl, hb, hg, h3, h4, h5, h6⟩
  · exact ⟨none, 0, by rw [h0], by omega, Nat.zero_le _, fun h => by omega⟩
  · refine ⟨_, _, rfl, h3, h4, fun _ => ⟨g, rfl, (Array.getElem?_eq_some_iff.1 hg).1, fun i x hx => ?_⟩⟩
    obtain ⟨e1, e2, e3⟩ := cellsK_wks l i x hx
    have f1 := World.ownsRow.cells hc (g := g) rfl _ _ e1
    have f2 := World.ownsRow.cells hc (g := g) rfl _ _ e2
    have f3 := World.ownsRow.cells hc (g := g) rfl _ _ e3
    rw [addr_addP, Nat.zero_add] at f1 f2 f3
    exact ⟨f1, f2, f3⟩
theorem WksAt.keeps {S : Nat → Prop} {w w' : World} {v : Value} {l : List Wk} (h : WksAt w v l) (hk : Keeps S w w') (ho : ∀ b, b < w.heap.size → v.ownBlock = some b → ¬ S b) : WksAt w' v l := by
  obtain ⟨ao, cap, rfl, h1, h2, h3⟩ := h.ex
  refine ⟨ao, cap, rfl, h1, h2, fun h0 => ?_⟩
  obtain ⟨g, rfl, h4, h5⟩ := h3 h0
  have hg : ¬ S g := ho g h4 rfl
  exact ⟨g, rfl, Nat.lt_of_lt_of_le h4 hk.size, fun i x hx => ⟨hk.cell_of (h5 i x hx).1 hg, hk.cell_of (h5 i x hx).2.1 hg, hk.cell_of (h5 i x hx).2.2 hg⟩⟩
section
variable {α : Type} {w0 : World} {C : DoerW α w0} {w w' w1 w2 : World} {τ τ' : Nat → RR} {rb N N' N1 N2 : Nat} {s s' s1 s2 : Rm.S α} {V : RK → Value} {l : List Hp.E}
theorem tellEach_foldl (what c : Int) : ∀ (l : List Wk) (s : Rm.S α), Rm.tellEach s what c l = l.foldl (fun s w => Rm.tell s w.task what c) s
  | [], _ => rfl
  | _ :: l, _ => tellEach_foldl what c l _
theorem resumeEach_foldl (D : Rm.Doer α) : ∀ (l : List Wk) (s : Rm.S α), Rm.resumeEach D s l = l.foldl (fun s w => Rm.resume D s w.task.toNat (w.case : Int) w.n) s
  | [], _ => rfl
  | _ :: l, _ => resumeEach_foldl D l _
theorem take_snoc {β : Type} {l : List β} {i : Nat} {x : β} (h : l[i]? = some x) : l.take (i + 1) = l.take i ++ [x] := by rw [List.take_add_one, h]; rfl
theorem tellEach_succ {what c : Int} {l : List Wk} {i : Nat} {x : Wk} (h : l[i]? = some x) (s : Rm.S α) : Rm.tellEach s what c (l.take (i + 1)) = Rm.tell (Rm.tellEach s what c (l.take i)) x.task what c := by
  rw [tellEach_foldl, tellEach_foldl, take_snoc h, List.foldl_append]; rfl
theorem resumeEach_succ {D : Rm.Doer α} {l : List Wk} {i : Nat} {x : Wk} (h : l[i]? = some x) (s : Rm.S α) : Rm.resumeEach D s (l.take (i + 1)) = Rm.resume D (Rm.resumeEach D s (l.take i)) x.task.toNat (x.case : Int) x.n := by
  rw [resumeEach_foldl, resumeEach_foldl, take_snoc h, List.foldl_append]; rfl
theorem tellEach_events (what c : Int) (l : List Wk) (s : Rm.S α) : (Rm.tellEach s what c l).events.length = s.events.length + l.length := by
  induction l generalizing s with
  | nil => rfl
  | cons x l ih => rw [Rm.tellEach, ih]; simp [Rm.tell]; omega
set_option maxRecDepth 100000 in
set_option maxHeartbeats 3200000 in
theorem tellEach_any (h : RoomT w0 C w τ rb N s) {v : Value} {wk : List Wk} (hw : WksAt w v wk) (hv : ∀ b, b < w.heap.size → v.ownBlock = some b → τ b = .free) (hl : s.events.length + wk.length ≤ 90000000) (what c : Int) :
    Calls Tryz.prog 111 #[.pointer (some ⟨rb, 0, none⟩), v, .int .i64 what, .int .i64 c] w fun e w' => e = .returned (.tuple #[]) ∧ Goes w0 C w w' τ rb N (Rm.tellEach s what c wk) := by
  obtain ⟨n, hn⟩ : ∃ n, n = wk.length := ⟨_, rfl⟩
  have HW : Hid (∀ W, Keeps (fun b => τ b ≠ .free) w W → WksAt W v wk) := Lib.hid fun W hk => hw.keeps hk fun b hb e e2 => e2 (hv b hb e)
  have hG0 : Goes w0 C w w τ rb N (Rm.tellEach s what c (wk.take 0)) := Goes.refl h
  have HG0 := Lib.hid hG0
  obtain ⟨ao, cap, rfl, hc1, hc2, -⟩ := hw.ex
  have HN := Lib.hid hn
  have HL := Lib.hid hl
  unfold maxLen at hc2
  rw [← hn] at hc1 ⊢
  clear h hw hv hl hG0 hn
  go_enter Tryz.func111, Tryz.ntmps111
  go_wp2_with fail
  go_loopw [12] (fun iv wr => ∃ i : Nat, i ≤ n ∧ iv = .int .i64 i ∧ Goes w0 C w wr τ rb N (Rm.tellEach s what c (wk.take i))) (fun iv _ => n - (intOf iv).toNat)
  case atStart => exact ⟨0, Nat.zero_le _, rfl, HG0.out⟩
  case round =>
    obtain ⟨i, hi, rfl, hG⟩ := hrel
    rename World => wr
    have HG := Lib.hid hG
    clear hG HG0
    by_cases hin : i < n
    · obtain ⟨⟨xt, xk, xn⟩, hx⟩ : ∃ x, wk[i]? = some x := ⟨_, List.getElem?_eq_getElem (by rw [← HN.out]; exact hin)⟩
      have HX := Lib.hid hx
      obtain ⟨a2, k2, e2, -, -, hcell⟩ := (HW.out wr HG.out.keep).ex
      rw [← HN.out] at e2 hcell
      obtain ⟨g, hao, hg, hcells⟩ := hcell (by omega)
      injection e2 with ea _ ek
      subst ea hao
      obtain ⟨q0, q1, q2⟩ := hcells i _ hx
      simp only at q0 q1 q2
      obtain ⟨τ1, hT, hf⟩ := HG.out.ex
      have HF := Lib.hid hf
      have HC := Lib.hid (tell_any (hT.new ((Keeps.refl (fun _ => False) wr).alloc (.cells #[.int .i64 xt, .int .i64 (xk : Int), .int .i64 xn] 162))) (by rw [tellEach_events, List.length_take]; have := HL.out; omega) xt what c)
      have hii : (0 : Int) ≤ (i : Int) ∧ (i : Int) < (n : Int) := by omega
      clear hcells hcell hx hT hf ek hg
      go_wp2_with fail
      refine HC.out.mono ?_
      rintro e w3 ⟨rfl, hg3⟩
      have HG3 : Hid (Goes w0 C w w3 τ rb N (Rm.tellEach s what c (wk.take (i + 1)))) := Lib.hid (by
        rw [tellEach_succ HX.out]
        exact (hg3.first ((Keeps.refl (fun _ => False) wr).alloc _)).trans HG.out.keep HF.out)
      clear hg3
      go_wp2_with fail
      go_roundw
      case rel => exact ⟨i + 1, by omega, by go_num, HG3.out⟩
      case measure => simp [intOf]; omega
    · obtain rfl : i = n := by omega
      have hnn : ¬ (i : Int) < (i : Int) := by omega
      have HG9 : Hid (Goes w0 C w wr τ rb N (Rm.tellEach s what c wk)) := Lib.hid (by
        have := HG.out
        rw [HN.out, List.take_length] at this
        exact this)
      go_wp2_with fail
      go_end0
      exact ⟨rfl, HG9.out⟩
end
end Go.Proofs.YtnjdmijcoadidaaGreatDoor

namespace Go.Proofs.YtnjdmijcoadidaaGreatDoor
open Go.RowKit Go.Maps Pp

/-- A row of one's own that has something, to be read and written. -/
theorem row_open {w : World} {t : TypeId} {sz n : Nat} {v : Value} {xs : List Value} (h : w.ownsRow 0 t sz v n xs) (hn : 0 < n) : ∃ g cap, v = .slice (some ⟨g, 0, none⟩) n cap ∧ n ≤ cap ∧ cap ≤ maxLen ∧ g < w.heap.size ∧ (∀ j, w.frozen? ⟨g, j, none⟩ = false) ∧ ∀ (j : Nat) u, xs[j]? = some u → w.cell? ⟨g, j, none⟩ = some u := by
  have hc := h
  rcases h.2 with ⟨_, h0⟩ | ⟨g, cap, cur, rfl, hb, hg, h1, h2, _, _⟩
  · omega
  · refine ⟨g, cap, rfl, h1, h2, (Array.getElem?_eq_some_iff.1 hg).1, fun j => frozen_of_row _ _ _ _ _ hg, fun j u hu => ?_⟩
    have := World.ownsRow.cells hc (g := g) rfl _ _ hu
    rwa [addr_addP, Nat.zero_add] at this
theorem row_slice {w : World} {t : TypeId} {sz n : Nat} {v : Value} {xs : List Value} (h : w.ownsRow 0 t sz v n xs) : ∃ ao cap, v = .slice ao n cap ∧ n ≤ cap ∧ cap ≤ maxLen := by
  rcases h.2 with ⟨rfl, h0⟩ | ⟨g, cap, cur, rfl, hb, hg, h1, h2, _, _⟩
  · exact ⟨none, 0, by rw [h0], by omega, Nat.zero_le _⟩
  · exact ⟨_, _, rfl, h1, h2⟩
theorem ints_at {xs : List Int} {i : Nat} (h : i < xs.length) : (xs.map (Value.int .i64))[i]? = some (.int .i64 (xs.getD i 0)) := by
  rw [List.getElem?_map, List.getElem?_eq_getElem h, List.getD_eq_getElem?_getD, List.getElem?_eq_getElem h]; rfl
section
variable {α : Type} {w0 : World} {C : DoerW α w0} {w w' w1 w2 : World} {τ τ' : Nat → RR} {rb N N' N1 N2 : Nat} {s s' s1 s2 : Rm.S α} {V : RK → Value} {l : List Hp.E}
theorem same_be (s : Rm.S α) (t : Nat) (x : Int) : SameBut .tasks s (Rm.be s t x) := ⟨rfl, rfl, rfl, rfl, rfl, fun k hk => by cases k <;> first | rfl | exact absurd rfl hk, fun k hk => by cases k <;> first | rfl | exact absurd rfl hk⟩
/-- A task is something else now. -/
theorem RoomAt.goes_be (h : RoomAt w0 C w τ rb N s V l) {g cap : Nat} (hv : V .tasks = .slice (some ⟨g, 0, none⟩) s.tasks.length cap) (t : Nat) (x : Int) : Goes w0 C w (w.setCell ⟨g, t, none⟩ (.int .i64 x)) τ rb N (Rm.be s t x) := by
  refine h.goes_turn .tasks ((Keeps.refl _ w).setCell (p := ⟨g, t, none⟩) (Or.inl (by rw [hv]; rfl)) _) (same_be s t x) ?_
  have h1 : w.ownsRow 0 3 1 (V .tasks) s.tasks.length (s.tasks.map (.int .i64)) := h.rv .tasks
  rw [hv] at h1 ⊢
  have h2 := own_setG (off := t) h1 (.int .i64 x)
  have e : (s.tasks.map (Value.int .i64)).set t (.int .i64 x) = (s.tasks.set t x).map (.int .i64) := by rw [List.map_set]
  rw [e] at h2
  show World.ownsRow _ 0 3 1 _ (s.tasks.set t x).length ((s.tasks.set t x).map (.int .i64))
  rw [List.length_set]
  exact h2
set_option maxRecDepth 100000 in
set_option maxHeartbeats 3200000 in
theorem resume_any (h : RoomT w0 C w τ rb N s) (t : Nat) (hts : t < s.tasks.length) (ht : t < C.num s.d) (hn : C.num s.d ≤ 200000) (hb : C.big s.d ≤ 1000000000) (hl : s.tasks.length ≤ 1000000) (c n : Int) :
    Calls Tryz.prog 74 #[.pointer (some ⟨rb, 0, none⟩), .int .i64 t, .agg #[.int .i64 c, .int .i64 n]] w fun e w' => e = .returned (.tuple #[]) ∧ Goes w0 C w w' τ rb N (Rm.resume C.D s t c n) := by
  obtain ⟨V, l, hr0⟩ := h
  have hk1 : Keeps (fun _ => False) w (w.alloc (.cells #[.int .i64 c, .int .i64 n] 124)) := (Keeps.refl (fun _ => False) w).alloc _
  have hr := hr0.new hk1
  obtain ⟨g, cap, hv, hc1, hc2, hg, hz, hcell⟩ := row_open (hr.rv .tasks) (show 0 < s.tasks.length by omega)
  have hv' : V .tasks = .slice (some ⟨g, 0, none⟩) s.tasks.length cap := hv
  have hab : ¬ g = w.heap.size := fun e => by
    have h1 := hr0.rr .tasks g (by rw [hv']; rfl)
    have h2 := hr0.dom g (by rw [h1]; simp)
    omega
  have c2 : (w.alloc (.cells #[.int .i64 c, .int .i64 n] 124)).cell? ⟨rb, 2, none⟩ = some (.slice (some ⟨g, 0, none⟩) s.tasks.length cap) := (hr.cv .tasks).trans (by rw [hv'])
  have ct := hcell t _ (ints_at hts)
  have zt := hz t
  have a0 : ((w.alloc (.cells #[.int .i64 c, .int .i64 n] 124)).setCell ⟨g, t, none⟩ (.int .i64 0)).cell? ⟨w.heap.size, 0, none⟩ = some (.int .i64 c) := by rw [World.cell?_setCell_other _ _ _ _ (by intro e; injection e with e; exact hab e), World.cell?_alloc_at _ _ _ _ rfl]; rfl
  have a1 : ((w.alloc (.cells #[.int .i64 c, .int .i64 n] 124)).setCell ⟨g, t, none⟩ (.int .i64 0)).cell? ⟨w.heap.size, 1, none⟩ = some (.int .i64 n) := by rw [World.cell?_setCell_other _ _ _ _ (by intro e; injection e with e; exact hab e), World.cell?_alloc_at _ _ _ _ rfl]; rfl
  have hg2 := hr.goes_be hv' t 0
  obtain ⟨τ2, hT2, hf2⟩ := hg2.ex
  have HGV := Lib.hid (give_any hT2 t ht hn hb c n)
  have HF2 := Lib.hid hf2
  have HK2 := Lib.hid hg2.keep
  have HK1 := Lib.hid hk1
  have htl : (0 : Int) ≤ (t : Int) ∧ (t : Int) < (s.tasks.length : Int) := by omega
  unfold maxLen at hc2
  clear hr0 hr hv hv' hz hcell hg2 hT2 hf2 hk1 hb hn ht hab
  go_enter Tryz.func74, Tryz.ntmps74
  go_wp2_with fail
  refine HGV.out.mono ?_
  rintro e w3 ⟨rfl, hg3⟩
  have HG3 : Hid (Goes w0 C w w3 τ rb N (Rm.resume C.D s t c n)) := Lib.hid ((hg3.trans HK2.out HF2.out).first HK1.out)
  clear hg3
  go_wp2_with fail
  go_end0
  exact ⟨rfl, HG3.out⟩
/-- What those that go on leave. -/
theorem resumeEach_tasks (D : Rm.Doer α) (l : List Wk) (s : Rm.S α) : (Rm.resumeEach D s l).tasks.length = s.tasks.length := by
  induction l generalizing s with
  | nil => rfl
  | cons x l ih => rw [Rm.resumeEach, ih]; simp [Rm.resume, Rm.give, Rm.be]
theorem resumeEach_num (l : List Wk) (s : Rm.S α) : C.num (Rm.resumeEach C.D s l).d = C.num s.d := by
  induction l generalizing s with
  | nil => rfl
  | cons x l ih => rw [Rm.resumeEach, ih]; exact C.num_give _ _ _ _
theorem resumeEach_big (l : List Wk) (s : Rm.S α) : C.big (Rm.resumeEach C.D s l).d ≤ C.big s.d + l.length := by
  induction l generalizing s with
  | nil => exact Nat.le_refl _
  | cons x l ih =>
    have h1 := ih (Rm.resume C.D s x.task.toNat (x.case : Int) x.n)
    have h2 : C.big (Rm.resume C.D s x.task.toNat (x.case : Int) x.n).d ≤ C.big s.d + 1 := C.big_give _ _ _ _
    rw [Rm.resumeEach, List.length_cons]
    omega
set_option maxRecDepth 100000 in
set_option maxHeartbeats 3200000 in
theorem resumeEach_any (h : RoomT w0 C w τ rb N s) {v : Value} {wk : List Wk} (hw : WksAt w v wk) (hv : ∀ b, b < w.heap.size → v.ownBlock = some b → τ b = .free) (hx : ∀ x ∈ wk, 0 ≤ x.task ∧ x.task < (s.tasks.length : Int)) (ht : C.num s.d = s.tasks.length) (hn : s.tasks.length ≤ 200000) (hb : C.big s.d + wk.length ≤ 1000000000) :
    Calls Tryz.prog 109 #[.pointer (some ⟨rb, 0, none⟩), v] w fun e w' => e = .returned (.tuple #[]) ∧ Goes w0 C w w' τ rb N (Rm.resumeEach C.D s wk) := by
  obtain ⟨n, hnn⟩ : ∃ n, n = wk.length := ⟨_, rfl⟩
  have HW : Hid (∀ W, Keeps (fun b => τ b ≠ .free) w W → WksAt W v wk) := Lib.hid fun W hk => hw.keeps hk fun b hb e e2 => e2 (hv b hb e)
  have hG0 : Goes w0 C w w τ rb N (Rm.resumeEach C.D s (wk.take 0)) := Goes.refl h
  have HG0 := Lib.hid hG0
  have HXS := Lib.hid hx
  have HT := Lib.hid ht
  have HNS := Lib.hid hn
  have HB := Lib.hid hb
  obtain ⟨ao, cap, rfl, hc1, hc2, -⟩ := hw.ex
  have HN := Lib.hid hnn
  unfold maxLen at hc2
  rw [← hnn] at hc1 ⊢
  clear h hw hv hG0 hnn hx ht hn hb
  go_enter Tryz.func109, Tryz.ntmps109
  go_wp2_with fail
  go_loopw [8] (fun iv wr => ∃ i : Nat, i ≤ n ∧ iv = .int .i64 i ∧ Goes w0 C w wr τ rb N (Rm.resumeEach C.D s (wk.take i))) (fun iv _ => n - (intOf iv).toNat)
  case atStart => exact ⟨0, Nat.zero_le _, rfl, HG0.out⟩
  case round =>
    obtain ⟨i, hi, rfl, hG⟩ := hrel
    rename World => wr
    have HG := Lib.hid hG
    clear hG HG0
    by_cases hin : i < n
    · obtain ⟨⟨xt, xk, xn⟩, hx⟩ : ∃ x, wk[i]? = some x := ⟨_, List.getElem?_eq_getElem (by rw [← HN.out]; exact hin)⟩
      have HX := Lib.hid hx
      obtain ⟨x0, x1⟩ := HXS.out _ (List.mem_of_getElem? hx)
      simp only at x0 x1
      obtain ⟨t, rfl⟩ : ∃ t : Nat, xt = (t : Int) := ⟨xt.toNat, by omega⟩
      obtain ⟨a2, k2, e2, -, -, hcell⟩ := (HW.out wr HG.out.keep).ex
      rw [← HN.out] at e2 hcell
      obtain ⟨g, hao, hg, hcells⟩ := hcell (by omega)
      injection e2 with ea _ ek
      subst ea hao
      obtain ⟨q0, q1, q2⟩ := hcells i _ hx
      simp only at q0 q1 q2
      obtain ⟨τ1, hT, hf⟩ := HG.out.ex
      have HF := Lib.hid hf
      have hlt : (wk.take i).length ≤ wk.length := by rw [List.length_take]; omega
      have HC := Lib.hid (resume_any (hT.new ((Keeps.refl (fun _ => False) wr).alloc (.cells #[.int .i64 (t : Int), .int .i64 (xk : Int), .int .i64 xn] 162))) t (by rw [resumeEach_tasks]; omega) (by rw [resumeEach_num, HT.out]; omega) (by rw [resumeEach_num, HT.out]; exact HNS.out)
        (by have h1 := resumeEach_big (C := C) (wk.take i) s; have := HB.out; omega) (by rw [resumeEach_tasks]; have := HNS.out; omega) (xk : Int) xn)
      have hii : (0 : Int) ≤ (i : Int) ∧ (i : Int) < (n : Int) := by omega
      clear hcells hcell hx hT hf ek hg x0 x1 hlt
      go_wp2_with fail
      refine HC.out.mono ?_
      rintro e w3 ⟨rfl, hg3⟩
      have HG3 : Hid (Goes w0 C w w3 τ rb N (Rm.resumeEach C.D s (wk.take (i + 1)))) := Lib.hid (by
        rw [resumeEach_succ HX.out]
        exact (hg3.first ((Keeps.refl (fun _ => False) wr).alloc _)).trans HG.out.keep HF.out)
      clear hg3
      go_wp2_with fail
      go_roundw
      case rel => exact ⟨i + 1, by omega, by go_num, HG3.out⟩
      case measure => simp [intOf]; omega
    · obtain rfl : i = n := by omega
      have hnn : ¬ (i : Int) < (i : Int) := by omega
      have HG9 : Hid (Goes w0 C w wr τ rb N (Rm.resumeEach C.D s wk)) := Lib.hid (by
        have := HG.out
        rw [HN.out, List.take_length] at this
        exact this)
      go_wp2_with fail
      go_end0
      exact ⟨rfl, HG9.out⟩
set_option maxRecDepth 100000 in
set_option maxHeartbeats 3200000 in
theorem has_any (h : RoomT w0 C w τ rb N s) (n : Int) :
    Calls Tryz.prog 146 #[.pointer (some ⟨rb, 0, none⟩), .int .i64 n] w fun e w' => e = .returned (.bool (Rm.has s n)) ∧ Below w.heap.size w w' := by
  obtain ⟨V, l, hr⟩ := h
  obtain ⟨ao, cap, hv, hc1, hc2⟩ := row_slice (hr.rv .globals)
  have cg : w.cell? ⟨rb, 10, none⟩ = some (.slice ao s.globals.length cap) := (hr.cv .globals).trans (by rw [hv]; rfl)
  have hm : s.globals.length ≤ cap := hc1
  unfold maxLen at hc2
  unfold Rm.has
  clear hr hv hc1
  generalize s.globals.length = m at *
  rcases Int.lt_or_le n 0 with h0 | h0
  · have g0 : ¬ 0 ≤ n := by omega
    have d0 : decide (0 ≤ n) = false := decide_eq_false g0
    rw [d0, Bool.false_and]
    go_enter Tryz.func146, Tryz.ntmps146
    go_wp2_with fail
    go_ret
    exact ⟨rfl, Below.refl _ _⟩
  · have d0 : decide (0 ≤ n) = true := decide_eq_true h0
    rw [d0, Bool.true_and]
    go_enter Tryz.func146, Tryz.ntmps146
    go_wp2_with fail
    go_ret
    exact ⟨rfl, Below.refl _ _⟩
end
end Go.Proofs.YtnjdmijcoadidaaGreatDoor

namespace Go.Proofs.YtnjdmijcoadidaaGreatDoor
open Go.RowKit Go.Maps Pp

theorem intsAt_keeps0 {S : Nat → Prop} {w w' : World} {v : Value} {l : List Int} (h : IntsAt w v l) (hk : Keeps S w w') (ho : 0 < l.length → ∀ b, v.ownBlock = some b → ¬ S b) : IntsAt w' v l := by
  obtain ⟨ao, n, cap, hv, hn, hc, hm, hx⟩ := h
  refine ⟨ao, n, cap, hv, hn, hc, hm, fun h0 => ?_⟩
  obtain ⟨b, o, h1, h2, h3⟩ := hx h0
  refine ⟨b, o, h1, Nat.lt_of_lt_of_le h2 hk.size, fun i hi => ?_⟩
  exact hk.cell_of (h3 i hi) (ho (by omega) b (by rw [hv, h1]; rfl))
theorem talksAt_keeps0 {S : Nat → Prop} {w w' : World} {v : Value} {l : List Tk} (h : TalksAt w v l) (hk : Keeps S w w') (ho : 0 < l.length → ∀ b, v.ownBlock = some b → ¬ S b) : TalksAt w' v l := by
  obtain ⟨ao, n, cap, hv, hn, hc, hm, hx⟩ := h
  refine ⟨ao, n, cap, hv, hn, hc, hm, fun h0 => ?_⟩
  obtain ⟨b, o, h1, h2, h3⟩ := hx h0
  have hb : ¬ S b := ho (by omega) b (by rw [hv, h1]; rfl)
  refine ⟨b, o, h1, Nat.lt_of_lt_of_le h2 hk.size, fun i x hi => ?_⟩
  obtain ⟨e1, e2, e3⟩ := h3 i x hi
  exact ⟨hk.cell_of e1 hb, hk.cell_of e2 hb, hk.cell_of e3 hb⟩
theorem set4_keeps (w : World) (b : Nat) (u0 u1 u2 u3 : Value) : Keeps (fun k => k = b) w ((((w.setCell ⟨b, 0, none⟩ u0).setCell ⟨b, 1, none⟩ u1).setCell ⟨b, 2, none⟩ u2).setCell ⟨b, 3, none⟩ u3) :=
  ((((Keeps.refl (fun k => k = b) w).setCell (p := ⟨b, 0, none⟩) (Or.inl rfl) u0).setCell (p := ⟨b, 1, none⟩) (Or.inl rfl) u1).setCell (p := ⟨b, 2, none⟩) (Or.inl rfl) u2).setCell (p := ⟨b, 3, none⟩) (Or.inl rfl) u3
section
variable {α : Type} {w0 : World} {C : DoerW α w0} {w w' w1 w2 : World} {τ τ' : Nat → RR} {rb N N' N1 N2 : Nat} {s s' s1 s2 : Rm.S α} {V : RK → Value} {l : List Hp.E}
/-- What a task asks for, and the room behind it. -/
structure Asked (w0 : World) (C : DoerW α w0) (w w' : World) (τ : Nat → RR) (rb N : Nat) (s : Rm.S α) (t : Nat) (va vc : Value) : Prop where
  says : AskSays w' va vc (C.D.next s.d t).2
  room : ∃ τ', RoomT w0 C w' τ' rb N { s with d := (C.D.next s.d t).1 } ∧ (∀ b, b < w.heap.size → τ b = .free → τ' b = .free) ∧ ∀ b, Held (C.D.next s.d t).2 va vc b → τ' b = .free
  keep : Keeps (fun b => τ b ≠ .free) w w'
theorem AskSays.keeps {va vc : Value} {a : Rm.Ask} {S : Nat → Prop} (h : AskSays w va vc a) (hk : Keeps S w w') (hS : ∀ b, Held a va vc b → ¬ S b) : AskSays w' va vc a :=
  ⟨intsAt_keeps0 h.args hk fun h0 b hb => hS b (Or.inl ⟨h0, hb⟩), talksAt_keeps0 h.cases hk fun h0 b hb => hS b (Or.inr ⟨h0, hb⟩), h.n0, h.n1, h.la, h.lc⟩
set_option maxRecDepth 100000 in
set_option maxHeartbeats 3200000 in
theorem next_any (h : RoomT w0 C w τ rb N s) (t : Nat) (ht : t < C.num s.d) (hn : C.num s.d ≤ 200000) (hb : C.big s.d ≤ 1000000000) :
    Calls Tryz.prog 45 #[.pointer (some ⟨rb, 0, none⟩), .int .i64 t] w fun e w' => ∃ va vc, e = .returned (.agg #[.int .i64 (C.D.next s.d t).2.what, .int .i64 (C.D.next s.d t).2.n, va, vc]) ∧ Asked w0 C w w' τ rb N s t va vc := by
  obtain ⟨V, l, hr⟩ := h
  obtain ⟨w1, hw1⟩ : ∃ w1, w1 = w.alloc (.cells #[.int .i64 0, .int .i64 0, .slice none 0 0, .slice none 0 0] 88) := ⟨_, rfl⟩
  have hk1 : Keeps (fun _ => False) w w1 := by rw [hw1]; exact (Keeps.refl (fun _ => False) w).alloc _
  have hsz : w1.heap.size = w.heap.size + 1 := by rw [hw1]; simp
  have hr1 := hr.new hk1
  have HR1 := Lib.hid hr1
  have hnf : τ w.heap.size = .free := Classical.byContradiction fun e => by have := hr.dom w.heap.size e; omega
  have HNF := Lib.hid hnf
  have HG := Lib.hid (C.next t hr1.dr ht hn hb hr1.bel fun b hb => hr.own b (by rw [hb]; simp))
  have HS0 : Hid (w0.heap.size ≤ w.heap.size) := Lib.hid hr.bel.size
  have HSZ := Lib.hid hsz
  have HK1 := Lib.hid hk1
  have HA : Hid (∀ j, j < 4 → (w1.cell? ⟨w.heap.size, j, none⟩).isSome = true ∧ w1.frozen? ⟨w.heap.size, j, none⟩ = false) := Lib.hid fun j hj => by
    rw [hw1, World.cell?_alloc_at _ _ _ _ rfl, World.frozen?_alloc_at _ _ _ _ rfl]
    exact ⟨by rcases j with _ | _ | _ | _ | j <;> first | rfl | omega, rfl⟩
  have m1 := C.nN
  have m2 := C.mN
  have m3 := C.eN
  have c0 := HR1.out.c0
  have hw1' := hw1
  clear hr ht hn hb hk1 hnf hsz hr1 hw1
  go_enter_defers Tryz.func45, Tryz.ntmps45
  go_upto_region 2 with fail
  rw [← hw1']
  clear hw1'
  generalize hab : w.heap.size = ab at *
  have HAB := Lib.hid hab
  clear hab
  go_wp2_with fail
  refine HG.out.mono ?_
  rintro e w2 ⟨va, vc, rfl, hsay, ⟨F, h1, h2, h3⟩, h4⟩
  obtain ⟨xw, hxw⟩ : ∃ xw, xw = (C.D.next s.d t).2.what := ⟨_, rfl⟩
  obtain ⟨xn, hxn⟩ : ∃ xn, xn = (C.D.next s.d t).2.n := ⟨_, rfl⟩
  rw [← hxw, ← hxn]
  have HXW := Lib.hid hxw
  have HXN := Lib.hid hxn
  clear hxw hxn
  have hF : ¬ F ab := fun e => by
    rcases h2 ab e with e2 | e2
    · rw [HNF.out] at e2; cases e2
    · have := HSZ.out; omega
  have hk12 : ¬ τ ab = .doer := by rw [HNF.out]; simp
  have hlt1 : ab < w1.heap.size := by have := HSZ.out; omega
  obtain ⟨τ2, hτ⟩ := isFun_ex τ F .doer w1.heap.size
  have hR2 := HR1.out.doered h1 h2 h4 hτ
  have d0 := (HA.out 0 (by decide)).1
  have d1 := (HA.out 1 (by decide)).1
  have d2 := (HA.out 2 (by decide)).1
  have d3 := (HA.out 3 (by decide)).1
  rw [← h4.cell (p := ⟨ab, 0, none⟩) hlt1 hk12] at d0
  rw [← h4.cell (p := ⟨ab, 1, none⟩) hlt1 hk12] at d1
  rw [← h4.cell (p := ⟨ab, 2, none⟩) hlt1 hk12] at d2
  rw [← h4.cell (p := ⟨ab, 3, none⟩) hlt1 hk12] at d3
  obtain ⟨x0, d0⟩ := Option.isSome_iff_exists.1 d0
  obtain ⟨x1, d1⟩ := Option.isSome_iff_exists.1 d1
  obtain ⟨x2, d2⟩ := Option.isSome_iff_exists.1 d2
  obtain ⟨x3, d3⟩ := Option.isSome_iff_exists.1 d3
  have z0 := (h4.frozen (p := ⟨ab, 0, none⟩) hlt1 hk12).trans (HA.out 0 (by decide)).2
  have z1 := (h4.frozen (p := ⟨ab, 1, none⟩) hlt1 hk12).trans (HA.out 1 (by decide)).2
  have z2 := (h4.frozen (p := ⟨ab, 2, none⟩) hlt1 hk12).trans (HA.out 2 (by decide)).2
  have z3 := (h4.frozen (p := ⟨ab, 3, none⟩) hlt1 hk12).trans (HA.out 3 (by decide)).2
  obtain ⟨aa, na, ca, rfl, -⟩ := id hsay.args
  obtain ⟨ac, nc, cc, rfl, -⟩ := id hsay.cases
  have HSAY := Lib.hid hsay
  have HVO := Lib.hid h3
  have HR2 := Lib.hid hR2
  have HT2 := Lib.hid hτ
  have HK2 := Lib.hid h4
  have HNF2 := Lib.hid hF
  clear hsay h1 h2 h3 h4 hτ hR2 hF hk12 hlt1
  go_wp2_with fail
  have hne : ∀ i j : Nat, i ≠ j → (⟨ab, i, none⟩ : Addr) ≠ ⟨ab, j, none⟩ := fun i j h e => h (by injection e)
  have e3 : ((((w2.setCell ⟨ab, 0, none⟩ (.int .i64 xw)).setCell ⟨ab, 1, none⟩ (.int .i64 xn)).setCell ⟨ab, 2, none⟩ (.slice aa na ca)).setCell ⟨ab, 3, none⟩ (.slice ac nc cc)).cell? ⟨ab, 3, none⟩ = some (.slice ac nc cc) :=
    World.cell?_setCell_same _ _ _ (by rw [World.cell?_setCell_other _ _ _ _ (hne 2 3 (by decide)), World.cell?_setCell_other _ _ _ _ (hne 1 3 (by decide)), World.cell?_setCell_other _ _ _ _ (hne 0 3 (by decide))]; exact d3)
  have e2 : ((((w2.setCell ⟨ab, 0, none⟩ (.int .i64 xw)).setCell ⟨ab, 1, none⟩ (.int .i64 xn)).setCell ⟨ab, 2, none⟩ (.slice aa na ca)).setCell ⟨ab, 3, none⟩ (.slice ac nc cc)).cell? ⟨ab, 2, none⟩ = some (.slice aa na ca) := by
    rw [World.cell?_setCell_other _ _ _ _ (hne 3 2 (by decide))]
    exact World.cell?_setCell_same _ _ _ (by rw [World.cell?_setCell_other _ _ _ _ (hne 1 2 (by decide)), World.cell?_setCell_other _ _ _ _ (hne 0 2 (by decide))]; exact d2)
  have e1 : ((((w2.setCell ⟨ab, 0, none⟩ (.int .i64 xw)).setCell ⟨ab, 1, none⟩ (.int .i64 xn)).setCell ⟨ab, 2, none⟩ (.slice aa na ca)).setCell ⟨ab, 3, none⟩ (.slice ac nc cc)).cell? ⟨ab, 1, none⟩ = some (.int .i64 xn) := by
    rw [World.cell?_setCell_other _ _ _ _ (hne 3 1 (by decide)), World.cell?_setCell_other _ _ _ _ (hne 2 1 (by decide))]
    exact World.cell?_setCell_same _ _ _ (by rw [World.cell?_setCell_other _ _ _ _ (hne 0 1 (by decide))]; exact d1)
  have e0 : ((((w2.setCell ⟨ab, 0, none⟩ (.int .i64 xw)).setCell ⟨ab, 1, none⟩ (.int .i64 xn)).setCell ⟨ab, 2, none⟩ (.slice aa na ca)).setCell ⟨ab, 3, none⟩ (.slice ac nc cc)).cell? ⟨ab, 0, none⟩ = some (.int .i64 xw) := by
    rw [World.cell?_setCell_other _ _ _ _ (hne 3 0 (by decide)), World.cell?_setCell_other _ _ _ _ (hne 2 0 (by decide)), World.cell?_setCell_other _ _ _ _ (hne 1 0 (by decide))]
    exact World.cell?_setCell_same _ _ _ d0
  have hk3 := set4_keeps w2 ab (.int .i64 xw) (.int .i64 xn) (.slice aa na ca) (.slice ac nc cc)
  clear d0 d1 d2 d3 z0 z1 z2 z3 hne
  generalize (((w2.setCell ⟨ab, 0, none⟩ (.int .i64 xw)).setCell ⟨ab, 1, none⟩ (.int .i64 xn)).setCell ⟨ab, 2, none⟩ (.slice aa na ca)).setCell ⟨ab, 3, none⟩ (.slice ac nc cc) = w3 at *
  refine leaves_cons (f := 75) (args := #[]) (by simp) (by simp [go_sem]) ?_
  refine (nextIdle w3).mono ?_
  rintro e u' w4 ⟨rfl, rfl, rfl⟩
  have hsz := HSZ.out
  have h2ab : τ2 ab = .free := by rw [HT2.out.old ab (by omega)]; exact HNF.out
  refine ⟨.agg #[.int .i64 xw, .int .i64 xn, .slice aa na ca, .slice ac nc cc], by simp [results, Tryz.results45, go_sem, e0, e1, e2, e3], _, _, by rw [HXW.out, HXN.out], ?_, ⟨τ2, ?_, fun b hb e => ?_, fun b hb => ?_⟩, ?_⟩
  · refine HSAY.out.keeps hk3 fun b hb e => ?_
    have h5 := (HVO.out b hb).2
    have h6 : b = ab := e
    have := HS0.out
    omega
  · exact (HR2.out.keeps hk3 fun b _ e => by rw [show b = ab from e]; exact ⟨h2ab, HS0.out⟩).bare
  · rw [HT2.out.old b (by have := HAB.out; omega)]; exact e
  · obtain ⟨h5, h6⟩ := HVO.out b hb
    rcases HT2.out.case b with e | ⟨_, e, _⟩
    · rw [e]
      refine Classical.byContradiction fun e2 => ?_
      have h7 := HR1.out.dom b e2
      have h8 := HR1.out.own b e2
      omega
    · exact absurd e h5
  · refine HK1.out.mono (fun _ _ e => e.elim) |>.trans' (HK2.out.mono (S' := fun b => τ b ≠ .free) fun b _ e => by rw [e]; simp) (fun _ _ e => e) |>.trans' hk3 fun b hb e => ?_
    rw [show b = ab from e] at hb
    have := HAB.out
    omega
end
end Go.Proofs.YtnjdmijcoadidaaGreatDoor

namespace Go.Proofs.YtnjdmijcoadidaaGreatDoor
open Go.RowKit Go.Maps Pp

theorem IntsAt.keeps0 {S : Nat → Prop} {w w' : World} {v : Value} {l : List Int} (h : IntsAt w v l) (hk : Keeps S w w') (ho : 0 < l.length → ∀ b, v.ownBlock = some b → ¬ S b) : IntsAt w' v l := by
  obtain ⟨ao, n, cap, hv, hn, hc, hm, hx⟩ := h
  refine ⟨ao, n, cap, hv, hn, hc, hm, fun h0 => ?_⟩
  obtain ⟨b, o, h1, h2, h3⟩ := hx h0
  refine ⟨b, o, h1, Nat.lt_of_lt_of_le h2 hk.size, fun i hi => ?_⟩
  exact hk.cell_of (h3 i hi) (ho (by omega) b (by rw [hv, h1]; rfl))
section
variable {α : Type} {w0 : World} {C : DoerW α w0} {w w' w1 w2 : World} {τ τ' : Nat → RR} {rb N N' N1 N2 : Nat} {s s' s1 s2 : Rm.S α} {V : RK → Value} {l : List Hp.E}
/-- One more that has not ended; one more task. -/
def liveMore (s : Rm.S α) : Rm.S α := { s with live := s.live ++ [s.tasks.length] }
def taskMore (s : Rm.S α) : Rm.S α := { s with tasks := s.tasks ++ [0] }
theorem same_live (s : Rm.S α) : SameBut .live s (liveMore s) := ⟨rfl, rfl, rfl, rfl, rfl, fun k hk => by cases k <;> first | rfl | exact absurd rfl hk, fun k hk => by cases k <;> first | rfl | exact absurd rfl hk⟩
theorem same_task (s : Rm.S α) : SameBut .tasks s (taskMore s) := ⟨rfl, rfl, rfl, rfl, rfl, fun k hk => by cases k <;> first | rfl | exact absurd rfl hk, fun k hk => by cases k <;> first | rfl | exact absurd rfl hk⟩
/-- What was written behind an alloc and a draw. -/
theorem undrewK {S : Nat → Prop} {o : Obj} {w3 : World} (h : Keeps S (w.alloc o).drew w3) : Keeps S w w3 := (((Keeps.refl S w).alloc o).drew).trans h
set_option maxRecDepth 100000 in
set_option maxHeartbeats 6400000 in
theorem begin_any (h : RoomT w0 C w τ rb N s) (fn : Int) (f0 : -9223372036854775808 ≤ fn) (f1 : fn ≤ 9223372036854775807) {va : Value} {args : List Int} (ha : IntsAt w va args) (hv : 0 < args.length → ∀ b, va.ownBlock = some b → τ b = .free)
    (hn : C.num s.d ≤ 100000) (hl : s.tasks.length ≤ 100000) (hm : s.live.length ≤ 100000) :
    Calls Tryz.prog 37 #[.pointer (some ⟨rb, 0, none⟩), .int .i64 fn, va] w fun e w' => e = .returned (.tuple #[]) ∧ Goes w0 C w w' τ rb N (Rm.begins C.D s fn args) := by
  obtain ⟨V, l, hr⟩ := h
  obtain ⟨aa, na, ca, rfl, -⟩ := id ha
  have HA := Lib.hid ha
  have HV := Lib.hid hv
  have HR := Lib.hid hr
  obtain ⟨al, cl, hvl, hl1, hl2⟩ := row_slice (hr.rv .live)
  obtain ⟨at_, ct, hvt, ht1, ht2⟩ := row_slice (hr.rv .tasks)
  have c3 : w.cell? ⟨rb, 3, none⟩ = some (.slice al s.live.length cl) := (hr.cv .live).trans (by rw [hvl]; rfl)
  have c2 : w.cell? ⟨rb, 2, none⟩ = some (.slice at_ s.tasks.length ct) := (hr.cv .tasks).trans (by rw [hvt]; rfl)
  have hlt := hr.lt
  obtain ⟨m, hmm⟩ : ∃ m, m = s.tasks.length := ⟨_, rfl⟩
  have hrl : w.ownsRow 0 3 1 (.slice al s.live.length cl) s.live.length (s.live.map fun (i : Nat) => .int .i64 (i : Int)) := by have := hr.rv .live; rwa [hvl] at this
  have hrt : w.ownsRow 0 3 1 (.slice at_ s.tasks.length ct) s.tasks.length (s.tasks.map (.int .i64)) := by have := hr.rv .tasks; rwa [hvt] at this
  have hvb : ¬ (Value.slice al s.live.length cl).ownBlock = some rb := fun e => by have := hr.rr .live rb (by rw [hvl]; exact e); rw [hr.t0] at this; cases this
  have HVL := Lib.hid hvl
  have HVT := Lib.hid hvt
  have HOWN : Hid ((w.alloc (.cells #[.int .i64 m] 3)).drew.ownsRow 0 3 1 (.slice al s.live.length cl) s.live.length (s.live.map fun (i : Nat) => .int .i64 (i : Int))) := Lib.hid (World.ownsRow.alloc hrl _)
  have HC : Hid ((w.alloc (.cells #[.int .i64 m] 3)).drew.cell? ⟨w.heap.size, 0, none⟩ = some (.int .i64 m)) := Lib.hid (by rw [World.cell?_drew, World.cell?_alloc_at _ _ _ _ rfl]; rfl)
  have c3a : (w.alloc (.cells #[.int .i64 m] 3)).cell? ⟨rb, 3, none⟩ = some (.slice al s.live.length cl) := by rw [World.cell?_alloc_lt _ _ _ hlt]; exact c3
  have c2a : (w.alloc (.cells #[.int .i64 m] 3)).cell? ⟨rb, 2, none⟩ = some (.slice at_ s.tasks.length ct) := by rw [World.cell?_alloc_lt _ _ _ hlt]; exact c2
  have HF3 : Hid (∀ w3 : World, Keeps (fun b => (Value.slice al s.live.length cl).ownBlock = some b) w w3 → w3.cell? ⟨rb, 3, none⟩ = some (.slice al s.live.length cl) ∧ w3.frozen? ⟨rb, 3, none⟩ = false) := Lib.hid fun w3 hk => ⟨hk.cell_of c3 hvb, by rw [hk.frozen (p := ⟨rb, 3, none⟩) hlt hvb]; exact hr.z 3⟩
  rw [← hmm] at c2 c2a
  have HM := Lib.hid hmm
  have HSZ2 : Hid ((w.alloc (.cells #[.int .i64 m] 3)).drew.heap.size = w.heap.size + 1) := Lib.hid (by simp)
  unfold maxLen at hl2 ht2
  have hl3 : s.live.length ≤ 1000000 := by omega
  have hm3 : m ≤ 1000000 := by omega
  clear hr ha hv hvl hvt hrl hrt hvb hmm
  go_enter_defers Tryz.func37, Tryz.ntmps37
  go_upto_region 0 with fail
  refine wp_region_noPanic ?_
  go_region_law (refine step_append1 rfl (.tmp 10) (.tmp 16) 26 3 rfl Tryz.underlying26 info_int rfl (by decide) HOWN.out hl3 HC.out rfl (by simp [Act.eval]) (by simp [Act.eval]) ?_; intro ao' cap' w3 hown3 hk3 hnew3; obtain ⟨c03, z03⟩ := HF3.out _ (undrewK hk3); have HK3 := Lib.hid (undrewK hk3); have HO3 := Lib.hid hown3; have HN3 := Lib.hid hnew3; clear hk3 hown3 hnew3)
  all_goals refine NoPanic.normal ?_
  all_goals
    have hR4 := HR.out.put .live (w' := w3) (s' := liveMore s) (by rw [HVL.out]; exact HK3.out) (same_live s) (by
      show World.ownsRow _ 0 3 1 _ (s.live ++ [s.tasks.length]).length ((s.live ++ [s.tasks.length]).map fun (i : Nat) => .int .i64 (i : Int))
      rw [List.length_append, List.map_append, ← HM.out]
      exact HO3.out) (fun b hb => by
      rw [HVL.out]
      rcases HN3.out b hb with e | e
      · exact Or.inl e
      · rw [HSZ2.out] at e; exact Or.inr (by omega))
    have hg4 : Keeps (fun b => τ b ≠ .free) w (w3.setCell ⟨rb, 3, none⟩ (.slice ao' (s.live.length + 1) cap')) ∧ ∀ b, b < w.heap.size → roleRow τ .live (.slice ao' (s.live.length + 1) cap') w.heap.size b = τ b :=
      ⟨(HK3.out.mono fun b _ e => by rw [HR.out.rr .live b (by rw [HVL.out]; exact e)]; simp).setCell (p := ⟨rb, 3, none⟩) (Or.inl (by rw [HR.out.t0]; simp)) _, fun b hb => by unfold roleRow; rw [if_neg (by omega)]⟩
    have HR4 := Lib.hid hR4
    have HG4 := Lib.hid hg4
    clear hR4 hg4 c3 c2 c3a c2a c03 z03
    obtain ⟨w4, hw4⟩ : ∃ w4, w4 = w3.setCell ⟨rb, 3, none⟩ (.slice ao' (s.live.length + 1) cap') := ⟨_, rfl⟩
    have HR5 : Hid (RoomAt w0 C w4 (roleRow τ .live (.slice ao' (s.live.length + 1) cap') w.heap.size) rb N (liveMore s) (fun k' => if k' = .live then (.slice ao' (s.live.length + 1) cap') else V k') l) := Lib.hid (by rw [hw4]; exact HR4.out)
    have HG5 : Hid (Keeps (fun b => τ b ≠ .free) w w4 ∧ ∀ b, b < w.heap.size → roleRow τ .live (.slice ao' (s.live.length + 1) cap') w.heap.size b = τ b) := Lib.hid (by rw [hw4]; exact HG4.out)
    have c2 : w4.cell? ⟨rb, 2, none⟩ = some (.slice at_ m ct) := (HR5.out.cv .tasks).trans (by show some (V .tasks) = _; rw [HVT.out, HM.out]; rfl)
    have hrt : OwnI w4 0 (.slice at_ m ct) s.tasks := by
      have h5 : w4.ownsRow 0 3 1 (V .tasks) s.tasks.length (s.tasks.map (.int .i64)) := HR5.out.rv .tasks
      rw [HVT.out] at h5
      unfold OwnI
      rw [HM.out]
      exact h5
    have hlt4 := HR5.out.lt
    have hz4 := HR5.out.z 2
    have hvb4 : ¬ (Value.slice at_ m ct).ownBlock = some rb := fun e => by
      have h5 := HR5.out.rr .tasks rb (by show (V .tasks).ownBlock = _; rw [HVT.out]; rw [HM.out] at e; exact e)
      rw [HR5.out.t0] at h5; cases h5
    have HRT := Lib.hid hrt
    have HVB := Lib.hid hvb4
    clear hrt hvb4
    generalize hτ4 : roleRow τ .live (.slice ao' (s.live.length + 1) cap') w.heap.size = τ4 at *
    clear HR4 HG4 hτ4
    rw [← hw4]
    clear hw4
    go_upto_region 2 with (at_builtin; go_loud (refine wpList_appendI rfl _ _ rfl w4 0 _ s.tasks 0 HRT.out rfl rfl (by have := HM.out; omega) (Nat.zero_le _) ?_; intro a6 c6 w6 ho6 hk6 hn6; have HO6 := Lib.hid ho6; have HK6 := Lib.hid hk6; have HN6 := Lib.hid hn6; have y0 : w6.cell? ⟨rb, 2, none⟩ = some (.slice at_ m ct) := hk6.cell_of c2 HVB.out; have y1 : w6.frozen? ⟨rb, 2, none⟩ = false := (by rw [hk6.frozen (p := ⟨rb, 2, none⟩) hlt4 HVB.out]; exact hz4); clear ho6 hk6 hn6))
    have hR7 := HR5.out.put .tasks (w' := w6) (s' := taskMore (liveMore s)) (by
      show Keeps (fun b => (V .tasks).ownBlock = some b) w4 w6
      rw [HVT.out]
      have h6 := HK6.out
      rw [HM.out] at h6
      exact h6) (same_task (liveMore s)) (by
      have h6 := HO6.out
      unfold OwnI at h6
      have e6 : (s.tasks ++ [(0 : Int)]).length = s.tasks.length + 1 := by simp
      exact h6) (fun b hb => by
      show (V .tasks).ownBlock = some b ∨ _
      rw [HVT.out]
      have h6 := HN6.out b hb
      rw [HM.out] at h6
      exact h6)
    have hk7 : Keeps (fun b => τ b ≠ .free) w (w6.setCell ⟨rb, 2, none⟩ (.slice a6 (s.tasks.length + 1) c6)) := by
      refine (HG5.out.1.trans' (HK6.out.mono (S' := fun b => τ4 b ≠ .free) fun b _ e => ?_) fun b hb e e2 => e (by rw [HG5.out.2 b hb]; exact e2)).setCell (p := ⟨rb, 2, none⟩) (Or.inl (by rw [HR.out.t0]; simp)) _
      have h6 := HR5.out.rr .tasks b (by show (V .tasks).ownBlock = _; rw [HVT.out]; rw [HM.out] at e; exact e)
      rw [h6]; simp
    have hf7 : ∀ b, b < w.heap.size → roleRow τ4 .tasks (.slice a6 (s.tasks.length + 1) c6) w4.heap.size b = τ b := fun b hb => by
      have h6 := HG5.out.1.size
      unfold roleRow
      rw [if_neg (by omega)]
      exact HG5.out.2 b hb
    obtain ⟨τ7, V7, hR7, hf7⟩ : ∃ τ7 V7, RoomAt w0 C (w6.setCell ⟨rb, 2, none⟩ (.slice a6 (s.tasks.length + 1) c6)) τ7 rb N (taskMore (liveMore s)) V7 l ∧ ∀ b, b < w.heap.size → τ7 b = τ b := ⟨_, _, hR7, hf7⟩
    generalize w6.setCell ⟨rb, 2, none⟩ (.slice a6 (s.tasks.length + 1) c6) = w7 at *
    have HR7 := Lib.hid hR7
    have HK7 := Lib.hid hk7
    have HF7 := Lib.hid hf7
    have HCB := Lib.hid (C.begins fn hR7.dr f0 f1 (HA.out.keeps0 hk7 fun h0 b hb e => e (HV.out h0 b hb)) hn hR7.bel fun b hb => hR7.own b (by rw [hb]; simp))
    have c0 := hR7.c0
    have m1 := C.nB
    have m2 := C.mB
    have m3 := C.eB
    clear hR7 hk7 hf7 y0 y1 c2
    go_wp2_with fail
    refine HCB.out.mono ?_
    rintro e w8 ⟨rfl, F8, h1, h2, h3⟩
    have HG8 := Lib.hid ((HR7.out.goes_doered h1 h2 h3).trans HK7.out fun b hb e => by rw [HF7.out b hb]; exact e)
    clear h1 h2 h3 m1 m2 m3 c0
    go_wp2_with fail
    refine leaves_cons (f := 70) (args := #[]) (by simp) (by simp [go_sem]) ?_
    refine (beginIdle w8).mono ?_
    rintro e u' w9 ⟨rfl, rfl, rfl⟩
    exact ⟨_, results_none rfl _ _ _, rfl, HG8.out⟩
end
end Go.Proofs.YtnjdmijcoadidaaGreatDoor

namespace Go.Proofs.YtnjdmijcoadidaaGreatDoor
open Go.RowKit Go.Extern.Stop Go.Stop Go.Extern
namespace As

theorem valueOfP (t : Addr) (w : World) : (ReflectliteValue.unpack (.iface 190 (.pointer (some t)))).run Tryz.prog w
    = .ok (.agg #[.pointer (some ⟨1, 190, none⟩), .pointer (some ⟨w.heap.size, 0, none⟩), .int .u64 150]) (w.alloc (.cells #[.pointer (some t)] 190)) := by kernel_rfl
theorem typeP (a : Addr) (w : World) : (ReflectliteValue.methodAny (ReflectliteValue.valueError "reflectlite.Value.Type" 0) (fun t _ _ _ => ReflectliteType.toType t) #[.agg #[.pointer (some ⟨1, 190, none⟩), .pointer (some a), .int .u64 150]]).run Tryz.prog w
    = .ok (.iface 289 (.agg #[.pointer (some ⟨1, 190, none⟩)])) w := by kernel_rfl
theorem methodKind (h : Value) (w : World) : (Go.method 471 289 (.agg #[h]) "Kind").run Tryz.prog w = .ok (206, h) w := by kernel_rfl
theorem kindP (w : World) : ((ReflectliteType.abiMethod fun t => (fun a : Nat => Value.int IntKind.u8 (a : Int)) <$> Rtype.kind t) #[.pointer (some ⟨1, 190, none⟩)]).run Tryz.prog w = .ok (.int .u8 22) w := by kernel_rfl
theorem kindE (w : World) : ((ReflectliteType.abiMethod fun t => (fun a : Nat => Value.int IntKind.u8 (a : Int)) <$> Rtype.kind t) #[.pointer (some ⟨1, 37, none⟩)]).run Tryz.prog w = .ok (.int .u8 2) w := by kernel_rfl
theorem partsP (a : Addr) (w : World) : (ReflectliteValue.parts (.agg #[.pointer (some ⟨1, 190, none⟩), .pointer (some a), .int .u64 150])).run Tryz.prog w = .ok (some (190, a, 150)) w := by kernel_rfl
theorem isNilP (a p : Addr) (W : World) (ha : W.cell? a = some (.pointer (some p))) :
    (ReflectliteValue.method (ReflectliteValue.valueError "reflectlite.Value.IsNil" 0) ReflectliteValue.isNil #[.agg #[.pointer (some ⟨1, 190, none⟩), .pointer (some a), .int .u64 150]]).run Tryz.prog W = .ok (.bool false) W := by
  refine Eq.trans (b := (ReflectliteValue.isNil 190 a 150 22).run Tryz.prog W) (by kernel_rfl) ?_
  simp [ReflectliteValue.isNil, loadVar, isAgg, underlying, Tryz.underlying190, ha, Result.andThen]
theorem methodElem (h : Value) (w : World) : (Go.method 471 289 (.agg #[h]) "Elem").run Tryz.prog w = .ok (230, .agg #[h]) w := by kernel_rfl
theorem methodAssignableTo (h : Value) (w : World) : (Go.method 471 289 (.agg #[h]) "AssignableTo").run Tryz.prog w = .ok (228, .agg #[h]) w := by kernel_rfl
theorem methodImplements (h : Value) (w : World) : (Go.method 471 289 (.agg #[h]) "Implements").run Tryz.prog w = .ok (231, .agg #[h]) w := by kernel_rfl
theorem elemT (w : World) : (ReflectliteType.method ReflectliteType.elem #[.agg #[.pointer (some ⟨1, 190, none⟩)]]).run Tryz.prog w = .ok (.iface 289 (.agg #[.pointer (some ⟨1, 37, none⟩)])) w := by kernel_rfl
theorem implementsE (w : World) : (ReflectliteType.relation "Implements" ReflectliteType.implements_ #[.agg #[.pointer (some ⟨1, 37, none⟩)], .iface 289 (.agg #[.pointer (some ⟨1, 33, none⟩)])]).run Tryz.prog w = .ok (.bool true) w := by kernel_rfl
theorem typeOfE (v : Value) (w : World) : (ReflectliteType.typeOf #[.iface 37 v]).run Tryz.prog w = .ok (.iface 289 (.agg #[.pointer (some ⟨1, 37, none⟩)])) w := by kernel_rfl
theorem assignableE (w : World) : (ReflectliteType.relation "AssignableTo" ReflectliteType.assignableTo #[.agg #[.pointer (some ⟨1, 37, none⟩)], .iface 289 (.agg #[.pointer (some ⟨1, 37, none⟩)])]).run Tryz.prog w = .ok (.bool true) w := by kernel_rfl
theorem valueOfE (k : Int) (w : World) : (ReflectliteValue.unpack (.iface 37 (.int .i64 k))).run Tryz.prog w
    = .ok (.agg #[.pointer (some ⟨1, 37, none⟩), .pointer (some ⟨w.heap.size, 0, none⟩), .int .u64 130]) (w.alloc (.cells #[.int .i64 k] 37)) := by kernel_rfl
theorem elemOfP (w : World) : (Rtype.elem? 190).run Tryz.prog w = .ok (some 37) w := by kernel_rfl
theorem mkE (p : Addr) (w : World) : (ReflectliteValue.mk 37 p ReflectliteValue.flagAddr).run Tryz.prog w = .ok (.agg #[.pointer (some ⟨1, 37, none⟩), .pointer (some p), .int .u64 386]) w := by kernel_rfl
theorem elemV (a p : Addr) (W : World) (ha : W.cell? a = some (.pointer (some p))) :
    (ReflectliteValue.method (ReflectliteValue.valueError "reflectlite.Value.Elem" 0) ReflectliteValue.elem #[.agg #[.pointer (some ⟨1, 190, none⟩), .pointer (some a), .int .u64 150]]).run Tryz.prog W
      = .ok (.agg #[.pointer (some ⟨1, 37, none⟩), .pointer (some p), .int .u64 386]) W := by
  refine Eq.trans (b := (ReflectliteValue.elem 190 a 150 22).run Tryz.prog W) (by kernel_rfl) ?_
  simp [ReflectliteValue.elem, loadVar, isAgg, underlying, Tryz.underlying190, ha, Result.andThen, elemOfP, mkE]
theorem partsEa (a : Addr) (w : World) : (ReflectliteValue.parts (.agg #[.pointer (some ⟨1, 37, none⟩), .pointer (some a), .int .u64 386])).run Tryz.prog w = .ok (some (37, a, 386)) w := by kernel_rfl
theorem partsE (a : Addr) (w : World) : (ReflectliteValue.parts (.agg #[.pointer (some ⟨1, 37, none⟩), .pointer (some a), .int .u64 130])).run Tryz.prog w = .ok (some (37, a, 130)) w := by kernel_rfl
theorem directE (w : World) : (Rtype.directlyAssignable 37 37).run Tryz.prog w = .ok true w := by kernel_rfl
theorem setE (ta b : Addr) (k : Int) (old : Value) (W : World) (hb : W.cell? b = some (.int .i64 k)) (ht : W.cell? ta = some old) (hf : W.frozen? ta = false) :
    (ReflectliteValue.set #[.agg #[.pointer (some ⟨1, 37, none⟩), .pointer (some ta), .int .u64 386], .agg #[.pointer (some ⟨1, 37, none⟩), .pointer (some b), .int .u64 130]]).run Tryz.prog W
      = .ok (.tuple #[]) (W.setCell ta (.int .i64 k)) := by
  have hset := fun v x : Value => id (α := ReflectliteValue.set #[v, x] = (ReflectliteValue.parts v >>= fun p => ReflectliteValue.parts x >>= _)) rfl
  rw [hset]
  simp only [Sem.run_bind, partsEa, partsE, Result.andThen]
  simp [ReflectliteValue.flagAddr, loadVar, isAgg, underlying, Tryz.underlying37, hb, Result.andThen, directE, storeVar, Value.cells, storeCells, Addr.add]
  rw [run_store Tryz.prog W ta _ _ (by rfl)]
  simp [ht, hf]
end As
end Go.Proofs.YtnjdmijcoadidaaGreatDoor

namespace Go.Proofs.YtnjdmijcoadidaaGreatDoor
open Go.RowKit Go.Extern.Stop Go.Stop Go.Extern

/-- The variable errors.errorType, as it is laid. -/
def ErrT (w : World) : Prop := w.cell? ⟨0, 0, none⟩ = some (.iface 289 (.agg #[.pointer (some ⟨1, 33, none⟩)]))

set_option maxRecDepth 100000 in
set_option maxHeartbeats 4000000 in
theorem asErrno_any (k : Int) (t : Addr) (old : Value) (w : World) (hg : ErrT w) (ht0 : w.cell? t = some old) (hf0 : w.frozen? t = false) :
    Calls Tryz.prog 99 #[.iface 37 (.int .i64 k), .iface 190 (.pointer (some t))] w fun ev w' => ev = .returned (.bool true) ∧ w'.cell? t = some (.int .i64 k) ∧ Below t.block w w' := by
  unfold ErrT at hg
  have h6 := @run_callFunc_extern Tryz.prog 129 _ (fun args => ReflectliteValue.unpack (args.getD 0 (.tuple #[]))) Tryz.func129 (by kernel_rfl) (by kernel_rfl) (by kernel_rfl) (by kernel_rfl)
  have h7 := @run_callFunc_extern Tryz.prog 130 _ (ReflectliteValue.methodAny (ReflectliteValue.valueError "reflectlite.Value.Type" 0) (fun t _ _ _ => ReflectliteType.toType t)) Tryz.func130 (by kernel_rfl) (by kernel_rfl) (by kernel_rfl) (by kernel_rfl)
  have h8 := @run_callFunc_extern Tryz.prog 131 _ (ReflectliteValue.method (ReflectliteValue.valueError "reflectlite.Value.IsNil" 0) ReflectliteValue.isNil) Tryz.func131 (by kernel_rfl) (by kernel_rfl) (by kernel_rfl) (by kernel_rfl)
  have h27 := @run_callFunc_extern Tryz.prog 206 _ (ReflectliteType.abiMethod fun t => do pure (.int .u8 (← Rtype.kind t))) Tryz.func206 (by kernel_rfl) (by kernel_rfl) (by kernel_rfl) (by kernel_rfl)
  have h37 := @run_callFunc_extern Tryz.prog 230 _ (ReflectliteType.method ReflectliteType.elem) Tryz.func230 (by kernel_rfl) (by kernel_rfl) (by kernel_rfl) (by kernel_rfl)
  have h38 := @run_callFunc_extern Tryz.prog 231 _ (ReflectliteType.relation "Implements" ReflectliteType.implements_) Tryz.func231 (by kernel_rfl) (by kernel_rfl) (by kernel_rfl) (by kernel_rfl)
  have h10 := @run_callFunc_extern Tryz.prog 161 _ ReflectliteType.typeOf Tryz.func161 (by kernel_rfl) (by kernel_rfl) (by kernel_rfl) (by kernel_rfl)
  have h35 := @run_callFunc_extern Tryz.prog 228 _ (ReflectliteType.relation "AssignableTo" ReflectliteType.assignableTo) Tryz.func228 (by kernel_rfl) (by kernel_rfl) (by kernel_rfl) (by kernel_rfl)
  have h11 := @run_callFunc_extern Tryz.prog 162 _ (ReflectliteValue.method (ReflectliteValue.valueError "reflectlite.Value.Elem" 0) ReflectliteValue.elem) Tryz.func162 (by kernel_rfl) (by kernel_rfl) (by kernel_rfl) (by kernel_rfl)
  have h12 := @run_callFunc_extern Tryz.prog 163 _ ReflectliteValue.set Tryz.func163 (by kernel_rfl) (by kernel_rfl) (by kernel_rfl) (by kernel_rfl)
  have tO := As.typeOfE
  have mA := As.methodAssignableTo
  have aE := As.assignableE
  have vE := As.valueOfE
  have f6 := As.valueOfP
  have f7 := As.typeP
  have mK := As.methodKind
  have mE := As.methodElem
  have mI := As.methodImplements
  have kP := As.kindP
  have kE := As.kindE
  have eT := As.elemT
  have iE := As.implementsE
  have n8 := As.isNilP ⟨w.heap.size, 0, none⟩ t ((w.alloc (.cells #[.pointer (some t)] 190)).alloc (.cells #[.pointer (some ⟨1, 190, none⟩), .pointer (some ⟨w.heap.size, 0, none⟩), .int .u64 150] 239)) (by simp)
  have hlt : 0 < w.heap.size := block_lt_of_cell hg
  have hg2 : ((w.alloc (.cells #[.pointer (some t)] 190)).alloc (.cells #[.pointer (some ⟨1, 190, none⟩), .pointer (some ⟨w.heap.size, 0, none⟩), .int .u64 150] 239)).cell? ⟨0, 0, none⟩ = some (.iface 289 (.agg #[.pointer (some ⟨1, 33, none⟩)])) := by
    rw [World.cell?_alloc_lt _ _ ⟨0, 0, none⟩ (by first | (simp; done) | (simp; omega)), World.cell?_alloc_lt _ _ ⟨0, 0, none⟩ hlt]; exact hg
  have htl : t.block < w.heap.size := block_lt_of_cell ht0
  have el := As.elemV ⟨w.heap.size, 0, none⟩ t (((w.alloc (.cells #[.pointer (some t)] 190)).alloc (.cells #[.pointer (some ⟨1, 190, none⟩), .pointer (some ⟨w.heap.size, 0, none⟩), .int .u64 150] 239)).alloc (.cells #[.pointer (some ⟨1, 190, none⟩), .pointer (some ⟨w.heap.size, 0, none⟩), .int .u64 150] 239)) (by rw [World.cell?_alloc_lt _ _ ⟨w.heap.size, 0, none⟩ (by simp; omega)]; simp)
  have hct : ((((w.alloc (.cells #[.pointer (some t)] 190)).alloc (.cells #[.pointer (some ⟨1, 190, none⟩), .pointer (some ⟨w.heap.size, 0, none⟩), .int .u64 150] 239)).alloc (.cells #[.pointer (some ⟨1, 190, none⟩), .pointer (some ⟨w.heap.size, 0, none⟩), .int .u64 150] 239)).alloc (.cells #[.int .i64 k] 37)).cell? t = some old := by
    rw [World.cell?_alloc_lt _ _ t (by simp; omega), World.cell?_alloc_lt _ _ t (by simp; omega), World.cell?_alloc_lt _ _ t (by simp; omega), World.cell?_alloc_lt _ _ t htl]; exact ht0
  have st := As.setE t ⟨w.heap.size + 1 + 1 + 1, 0, none⟩ k old ((((w.alloc (.cells #[.pointer (some t)] 190)).alloc (.cells #[.pointer (some ⟨1, 190, none⟩), .pointer (some ⟨w.heap.size, 0, none⟩), .int .u64 150] 239)).alloc (.cells #[.pointer (some ⟨1, 190, none⟩), .pointer (some ⟨w.heap.size, 0, none⟩), .int .u64 150] 239)).alloc (.cells #[.int .i64 k] 37))
    (by rw [World.cell?_alloc_at _ _ _ _ (by simp)]; rfl) hct
    (by rw [World.frozen?_alloc_old _ _ t (by simp; omega), World.frozen?_alloc_old _ _ t (by simp; omega), World.frozen?_alloc_old _ _ t (by simp; omega), World.frozen?_alloc_old _ _ t (Nat.ne_of_lt htl)]; exact hf0)
  have HCT := Lib.hid hct
  clear hct
  go_enter Tryz.func99, Tryz.ntmps99
  go_wp2
  refine wp_loop_rounds 1 ?_
  rw [rounds_succ]
  go_wp2
  go_ret
  refine ⟨rfl, ?_, ?_⟩
  · exact World.cell?_setCell_same _ _ _ HCT.out
  · exact (((((Below.refl _ _).alloc (by omega) _).alloc (by simp; omega) _).alloc (by simp; omega) _).alloc (by simp; omega) _).setCell (Nat.le_refl _) _
end Go.Proofs.YtnjdmijcoadidaaGreatDoor

namespace Go.Proofs.YtnjdmijcoadidaaGreatDoor
open Go.RowKit

set_option maxRecDepth 100000 in
set_option maxHeartbeats 800000 in
theorem tell_nil (w : World) : Calls Tryz.prog 71 #[.nilIface] w fun e w' => e = .returned (.int .i64 0) ∧ w = w' := by
  go_enter Tryz.func71, Tryz.ntmps71
  go_wp2
  go_ret
  exact ⟨rfl, rfl⟩

theorem ErrT.alloc {w : World} (h : ErrT w) (o : Obj) : ErrT (w.alloc o) := by
  have hlt : 0 < w.heap.size := block_lt_of_cell h
  unfold ErrT
  rw [World.cell?_alloc_lt _ _ ⟨0, 0, none⟩ hlt]; exact h
theorem ErrT.below {w w' : World} {B : Nat} (h : ErrT w) (hb : Below B w w') (hB : 0 < B) : ErrT w' := by
  unfold ErrT
  rw [hb.cell (p := ⟨0, 0, none⟩) hB]; exact h

set_option maxRecDepth 100000 in
set_option maxHeartbeats 800000 in
theorem tell_errno (k : Int) (w : World) (hE : ErrT w) : Calls Tryz.prog 71 #[.iface 37 (.int .i64 k)] w fun e w' => e = .returned (.int .i64 k) ∧ Below w.heap.size w w' := by
  have HE := Lib.hid (hE.alloc (.cells #[.int .i64 0] 37))
  have hlt : 0 < w.heap.size := block_lt_of_cell hE
  clear hE
  go_enter Tryz.func71, Tryz.ntmps71
  go_wp2_with fail
  refine (asErrno_any k ⟨w.heap.size, 0, none⟩ (.int .i64 0) _ HE.out (by simp) (by simp)).mono ?_
  rintro e w1 ⟨rfl, hc, hb⟩
  go_wp2_with fail
  go_ret
  exact ⟨rfl, ((Below.refl _ _).alloc (Nat.le_refl _) _).trans hb⟩

set_option maxRecDepth 100000 in
set_option maxHeartbeats 800000 in
theorem place_nil (w : World) : Calls Tryz.prog 38 #[.nilIface] w fun e w' => e = .returned (.tuple #[.int .i64 0, .int .i64 (-1)]) ∧ w = w' := by
  go_enter Tryz.func38, Tryz.ntmps38
  go_wp2_with (go_at_call 71; refine (tell_nil _).mono ?_; rintro e w' ⟨rfl, rfl⟩)
  refine wp_loop_rounds 1 ?_
  rw [rounds_succ]
  go_wp2_with fail
  go_ret2
  exact ⟨rfl, rfl⟩

theorem errno_isAt (k : Int) (w : World) : (Instr.typeAssert (.iface 37 (.int .i64 k)) 33 140 true).run Tryz.prog w = .ok (.tuple #[.pointer none, .bool false]) w := by kernel_rfl
theorem errno_isUnwrap (v : Value) (xT : TypeId) (w : World) : (Instr.typeAssert (.iface 37 v) xT 144 true).run Tryz.prog w = .ok (.tuple #[.nilIface, .bool false]) w :=
  Go.run_typeAssert_lacksB Tryz.underlying144 (by kernel_rfl) (by kernel_rfl) v xT w

set_option maxRecDepth 100000 in
set_option maxHeartbeats 800000 in
theorem place_errno (k : Int) (w : World) (hE : ErrT w) : Calls Tryz.prog 38 #[.iface 37 (.int .i64 k)] w fun e w' => e = .returned (.tuple #[.int .i64 k, .int .i64 (-1)]) ∧ Below w.heap.size w w' := by
  have HE := Lib.hid hE
  clear hE
  have t1 := errno_isAt k
  have t2 := errno_isUnwrap (.int .i64 k) 33
  go_enter Tryz.func38, Tryz.ntmps38
  go_wp2_with (go_at_call 71; refine (tell_errno k _ HE.out).mono ?_; rintro e w1 ⟨rfl, hb⟩)
  refine wp_loop_rounds 1 ?_
  rw [rounds_succ]
  go_wp2_with fail
  go_ret2
  exact ⟨rfl, hb⟩

end Go.Proofs.YtnjdmijcoadidaaGreatDoor

namespace Go.Proofs.YtnjdmijcoadidaaGreatDoor
open Go.RowKit Go.Maps Pp

theorem nq_none (w : World) : (binOp BinOp.neq 33 .nilIface .nilIface).run Tryz.prog w = .ok (.bool false) w := by kernel_rfl
theorem nq_no (k : Int) (w : World) : (binOp BinOp.neq 33 (.iface 37 (.int .i64 k)) .nilIface).run Tryz.prog w = .ok (.bool true) w := by kernel_rfl
/-- How all ends, by a fault that a task tells. -/
def faultV (n : Int) : Int := if n < 3 ∨ 9 < n then 10 else n
set_option maxRecDepth 100000 in
set_option maxHeartbeats 1600000 in
theorem fault_any (n : Int) (w : World) : Calls Tryz.prog 77 #[.int .i64 n] w fun e w' => e = .returned (.int .i64 (faultV n)) ∧ Below w.heap.size w w' := by
  rcases Int.lt_or_le n 3 with h | h
  · have hv : faultV n = 10 := if_pos (Or.inl h)
    rw [hv]
    go_enter Tryz.func77, Tryz.ntmps77
    go_wp2_with fail
    go_ret
    exact ⟨rfl, Below.refl _ _⟩
  · have h3 : ¬ n < 3 := by omega
    rcases Int.lt_or_le 9 n with h9 | h9
    · have hv : faultV n = 10 := if_pos (Or.inr h9)
      rw [hv]
      go_enter Tryz.func77, Tryz.ntmps77
      go_wp2_with fail
      go_ret
      exact ⟨rfl, Below.refl _ _⟩
    · have h9' : ¬ 9 < n := by omega
      have hv : faultV n = n := if_neg (by omega)
      rw [hv]
      go_enter Tryz.func77, Tryz.ntmps77
      go_wp2_with fail
      go_ret
      exact ⟨rfl, Below.refl _ _⟩
set_option maxRecDepth 100000 in
set_option maxHeartbeats 1600000 in
theorem wrong_any (k : Int) (w : World) (hE : ErrT w) : Calls Tryz.prog 107 #[.iface 37 (.int .i64 k)] w fun e w' => e = .returned (.int .i64 (if k = 13 then 5 else 10)) ∧ Below w.heap.size w w' := by
  have HT := Lib.hid (tell_errno k w hE)
  clear hE
  by_cases h : k = 13
  · subst h
    go_enter Tryz.func107, Tryz.ntmps107
    go_wp2_with fail
    refine HT.out.mono ?_
    rintro e w1 ⟨rfl, hb⟩
    have HB := Lib.hid hb
    clear hb
    go_wp2_with fail
    go_ret
    exact ⟨rfl, HB.out⟩
  · rw [if_neg h]
    have hq : (k == 13) = false := beq_eq_false_iff_ne.2 h
    go_enter Tryz.func107, Tryz.ntmps107
    go_wp2_with fail
    refine HT.out.mono ?_
    rintro e w1 ⟨rfl, hb⟩
    have HB := Lib.hid hb
    clear hb
    go_wp2_with fail
    go_ret
    exact ⟨rfl, HB.out⟩
section
variable {α : Type} {w0 : World} {C : DoerW α w0} {w w' w1 w2 : World} {τ τ' : Nat → RR} {rb N N' N1 N2 : Nat} {s s' s1 s2 : Rm.S α} {V : RK → Value} {l : List Hp.E}
/-- The channels of a room: how many there are in one. -/
theorem roomlen_any (h : RoomT w0 C w τ rb N s) (c : Int) : Calls Tryz.prog 134 #[.pointer (some ⟨rb, 8, none⟩), .int .i64 c] w fun e w' => e = .returned (.tuple #[.int .i64 (lenV s.pipes c).1, errV (lenV s.pipes c).2]) ∧ w = w' := by
  obtain ⟨V, l, hr⟩ := h
  obtain ⟨_, vch, ptr, mb, D, h1⟩ := hr.pp
  exact plen_any h1 c
theorem RoomT.lt (h : RoomT w0 C w τ rb N s) : rb < w.heap.size := by
  obtain ⟨V, l, hr⟩ := h
  exact hr.lt
theorem RoomT.bel (h : RoomT w0 C w τ rb N s) : Below w0.heap.size w0 w := by
  obtain ⟨V, l, hr⟩ := h
  exact hr.bel
set_option maxRecDepth 100000 in
set_option maxHeartbeats 1600000 in
theorem count_any (h : RoomT w0 C w τ rb N s) (c : Int) : Calls Tryz.prog 113 #[.pointer (some ⟨rb, 0, none⟩), .int .i64 c] w fun e w' => e = .returned (.tuple #[.int .i64 (Rm.lent s c).1, .int .i64 (Rm.lent s c).2]) ∧ w = w' := by
  have HL := Lib.hid (roomlen_any h c)
  have e0 := nq_none
  have e1 := nq_no
  clear h
  by_cases hm : may s.pipes.chs.length c = false
  · have h1 : lenV s.pipes c = (0, 2) := if_pos hm
    have h2 : Rm.lent s c = (0, 10) := if_pos hm
    rw [h2]
    have HL2 : Hid (Calls Tryz.prog 134 #[.pointer (some ⟨rb, 8, none⟩), .int .i64 c] w fun e w' => e = .returned (.tuple #[.int .i64 0, .iface 37 (.int .i64 2)]) ∧ w = w') := Lib.hid (by have := HL.out; rw [h1] at this; exact this)
    clear HL h1 h2 hm
    go_enter Tryz.func113, Tryz.ntmps113
    go_wp2_with fail
    refine HL2.out.mono ?_
    rintro e w1 ⟨rfl, rfl⟩
    go_wp2_with fail
    go_ret2
    exact ⟨rfl, rfl⟩
  · have h1 : lenV s.pipes c = (((Rm.had s c : Nat) : Int), 0) := if_neg hm
    have h2 : Rm.lent s c = (((Rm.had s c : Nat) : Int), 0) := if_neg hm
    rw [h2]
    have HL2 : Hid (Calls Tryz.prog 134 #[.pointer (some ⟨rb, 8, none⟩), .int .i64 c] w fun e w' => e = .returned (.tuple #[.int .i64 (Rm.had s c : Nat), .nilIface]) ∧ w = w') := Lib.hid (by have := HL.out; rw [h1] at this; exact this)
    clear HL h1 h2 hm
    generalize Rm.had s c = k at *
    go_enter Tryz.func113, Tryz.ntmps113
    go_wp2_with fail
    refine HL2.out.mono ?_
    rintro e w1 ⟨rfl, rfl⟩
    go_wp2_with fail
    go_ret2
    exact ⟨rfl, rfl⟩
/-- A channel more, or what is wrong. -/
def makeA (s : Rm.S α) (n : Int) : Rm.S α × Int × Int :=
  if n < 0 ∨ 8 < n then (s, 0, 7) else if 32 ≤ s.pipes.chs.length then (s, 0, 9)
    else ({ s with pipes := ⟨s.pipes.chs ++ [newCh n.toNat], s.pipes.asks⟩ }, (s.pipes.chs.length : Int) + 1, 0)
theorem roommake_any (h : RoomT w0 C w τ rb N s) (n : Int) : Calls Tryz.prog 145 #[.pointer (some ⟨rb, 8, none⟩), .int .i64 n] w fun e w' => e = .returned (.tuple #[.int .i64 (makeV s.pipes n).n, errV (makeV s.pipes n).err]) ∧ Goes w0 C w w' τ rb N { s with pipes := (makeV s.pipes n).st } := by
  obtain ⟨V, l, hr⟩ := h
  refine (make_any hr.pp n).mono ?_
  rintro e w' ⟨rfl, ⟨ρ', h1, h2⟩, h3⟩
  exact ⟨rfl, hr.goes_piped h1 (fun b hb => by
    rcases Nat.lt_or_ge b w.heap.size with h4 | h4
    · rw [h2 b h4] at hb; exact Or.inl hb
    · exact Or.inr h4) h3⟩
set_option maxRecDepth 100000 in
set_option maxHeartbeats 1600000 in
theorem channel_room (h : RoomT w0 C w τ rb N s) (hE : ErrT w0) (n : Int) : Calls Tryz.prog 114 #[.pointer (some ⟨rb, 0, none⟩), .int .i64 n] w fun e w' => e = .returned (.tuple #[.int .i64 (makeA s n).2.1, .int .i64 (makeA s n).2.2]) ∧ Goes w0 C w w' τ rb N (makeA s n).1 := by
  have HM := Lib.hid (roommake_any h n)
  have hlt : 0 < w0.heap.size := block_lt_of_cell hE
  have HE : Hid (∀ W, Below w0.heap.size w0 W → ErrT W) := Lib.hid fun W hb => hE.below hb hlt
  have HB0 : Hid (∀ W, Goes w0 C w W τ rb N s → Below w0.heap.size w0 W) := Lib.hid fun W hg => by obtain ⟨τ', h1, -⟩ := hg.ex; exact h1.bel
  have e0 := nq_none
  have e1 := nq_no
  clear h hE hlt
  by_cases hr : n < 0 ∨ 8 < n
  · have h1 : makeV s.pipes n = ⟨0, 2, s.pipes⟩ := if_pos hr
    have h2 : makeA s n = (s, 0, 7) := if_pos hr
    rw [h2]
    have HM2 : Hid (Calls Tryz.prog 145 #[.pointer (some ⟨rb, 8, none⟩), .int .i64 n] w fun e w' => e = .returned (.tuple #[.int .i64 0, .iface 37 (.int .i64 2)]) ∧ Goes w0 C w w' τ rb N s) := Lib.hid (by have := HM.out; rw [h1] at this; exact this)
    clear HM h1 h2 hr
    go_enter Tryz.func114, Tryz.ntmps114
    go_wp2_with fail
    refine HM2.out.mono ?_
    rintro e w1 ⟨rfl, hg⟩
    have HG := Lib.hid hg
    have HT := Lib.hid (tell_errno 2 w1 (HE.out _ (HB0.out _ hg)))
    clear hg
    go_wp2_with fail
    refine HT.out.mono ?_
    rintro e w2 ⟨rfl, hb⟩
    have HG2 := Lib.hid (HG.out.new (Keeps.of_new hb))
    clear hb
    go_wp2_with fail
    go_ret2
    exact ⟨rfl, HG2.out⟩
  · by_cases hf : 32 ≤ s.pipes.chs.length
    · have h1 : makeV s.pipes n = ⟨0, 12, s.pipes⟩ := by unfold makeV; rw [if_neg hr, if_pos hf]
      have h2 : makeA s n = (s, 0, 9) := by unfold makeA; rw [if_neg hr, if_pos hf]
      rw [h2]
      have HM2 : Hid (Calls Tryz.prog 145 #[.pointer (some ⟨rb, 8, none⟩), .int .i64 n] w fun e w' => e = .returned (.tuple #[.int .i64 0, .iface 37 (.int .i64 12)]) ∧ Goes w0 C w w' τ rb N s) := Lib.hid (by have := HM.out; rw [h1] at this; exact this)
      clear HM h1 h2 hr hf
      go_enter Tryz.func114, Tryz.ntmps114
      go_wp2_with fail
      refine HM2.out.mono ?_
      rintro e w1 ⟨rfl, hg⟩
      have HG := Lib.hid hg
      have HT := Lib.hid (tell_errno 12 w1 (HE.out _ (HB0.out _ hg)))
      clear hg
      go_wp2_with fail
      refine HT.out.mono ?_
      rintro e w2 ⟨rfl, hb⟩
      have HG2 := Lib.hid (HG.out.new (Keeps.of_new hb))
      clear hb
      go_wp2_with fail
      go_ret2
      exact ⟨rfl, HG2.out⟩
    · have h1 : makeV s.pipes n = ⟨(s.pipes.chs.length : Int) + 1, 0, ⟨s.pipes.chs ++ [newCh n.toNat], s.pipes.asks⟩⟩ := by unfold makeV; rw [if_neg hr, if_neg hf]
      have h2 : makeA s n = ({ s with pipes := ⟨s.pipes.chs ++ [newCh n.toNat], s.pipes.asks⟩ }, (s.pipes.chs.length : Int) + 1, 0) := by unfold makeA; rw [if_neg hr, if_neg hf]
      rw [h2]
      have HM2 : Hid (Calls Tryz.prog 145 #[.pointer (some ⟨rb, 8, none⟩), .int .i64 n] w fun e w' => e = .returned (.tuple #[.int .i64 ((s.pipes.chs.length : Int) + 1), .nilIface]) ∧ Goes w0 C w w' τ rb N { s with pipes := ⟨s.pipes.chs ++ [newCh n.toNat], s.pipes.asks⟩ }) := Lib.hid (by have := HM.out; rw [h1] at this; exact this)
      clear HM h1 h2 hr hf HB0
      go_enter Tryz.func114, Tryz.ntmps114
      go_wp2_with fail
      refine HM2.out.mono ?_
      rintro e w1 ⟨rfl, hg⟩
      have HG := Lib.hid hg
      clear hg
      go_wp2_with fail
      refine (tell_nil w1).mono ?_
      rintro e w2 ⟨rfl, rfl⟩
      go_wp2_with fail
      go_ret2
      exact ⟨rfl, HG.out⟩
end
end Go.Proofs.YtnjdmijcoadidaaGreatDoor

namespace Go.Proofs.YtnjdmijcoadidaaGreatDoor
open Go.RowKit Go.Maps Pp

section
variable {α : Type} {w0 : World} {C : DoerW α w0} {w w' w1 w2 : World} {τ τ' : Nat → RR} {rb N N' N1 N2 : Nat} {s s' s1 s2 : Rm.S α} {V : RK → Value} {l : List Hp.E}
def printA (s : Rm.S α) (n : Int) : Rm.S α × Int × Int := if 100 ≤ s.out.length then (s, 0, 9) else ({ s with out := s.out ++ [n] }, 0, 0)
def loadA (s : Rm.S α) (t : Nat) (n : Int) : Rm.S α × Int × Int := if Rm.has s n then (Rm.tell s t 4 n, s.globals.getD n.toNat 0, 0) else (s, 0, 10)
def storeA (s : Rm.S α) (t : Nat) (n : Int) (args : List Int) : Rm.S α × Int × Int := if Rm.has s n && decide (args.length = 1) then (Rm.tell { s with globals := s.globals.set n.toNat (args.getD 0 0) } t 5 n, 0, 0) else (s, 0, 10)
theorem same_out (s : Rm.S α) (n : Int) : SameBut .out s { s with out := s.out ++ [n] } := ⟨rfl, rfl, rfl, rfl, rfl, fun k hk => by cases k <;> first | rfl | exact absurd rfl hk, fun k hk => by cases k <;> first | rfl | exact absurd rfl hk⟩
theorem same_glob (s : Rm.S α) (g : List Int) : SameBut .globals s { s with globals := g } := ⟨rfl, rfl, rfl, rfl, rfl, fun k hk => by cases k <;> first | rfl | exact absurd rfl hk, fun k hk => by cases k <;> first | rfl | exact absurd rfl hk⟩
set_option maxRecDepth 100000 in
set_option maxHeartbeats 3200000 in
theorem print_any (h : RoomT w0 C w τ rb N s) (n : Int) (hl : s.out.length ≤ 100000) :
    Calls Tryz.prog 115 #[.pointer (some ⟨rb, 0, none⟩), .int .i64 n] w fun e w' => e = .returned (.tuple #[.int .i64 (printA s n).2.1, .int .i64 (printA s n).2.2]) ∧ Goes w0 C w w' τ rb N (printA s n).1 := by
  have hG0 := Goes.refl h
  have HG0 := Lib.hid hG0
  obtain ⟨V, l, hr⟩ := h
  have HR := Lib.hid hr
  obtain ⟨ao, cap, hv, hc1, hc2⟩ := row_slice (hr.rv .out)
  have hrow : OwnI w 0 (V .out) s.out := hr.rv .out
  have cv : w.cell? ⟨rb, 11, none⟩ = some (.slice ao s.out.length cap) := (hr.cv .out).trans (by rw [hv]; rfl)
  have hv' : V .out = .slice ao s.out.length cap := hv
  rw [hv'] at hrow
  have HROW := Lib.hid hrow
  have HVE := Lib.hid hv'
  have hlt := hr.lt
  have z11 := hr.z 11
  have HNV : Hid (¬ (Value.slice ao s.out.length cap).ownBlock = some rb) := Lib.hid fun e => by have := hr.rr .out rb (by rw [hv']; exact e); rw [hr.t0] at this; cases this
  have hm : s.out.length ≤ cap := hc1
  unfold maxLen at hc2
  clear hr hrow hv hv' hc1 hG0
  by_cases h100 : 100 ≤ s.out.length
  · have hp : printA s n = (s, 0, 9) := if_pos h100
    rw [hp]
    have g1 : (100 : Int) ≤ (s.out.length : Int) := by omega
    go_enter Tryz.func115, Tryz.ntmps115
    go_wp2_with fail
    go_ret2
    exact ⟨rfl, HG0.out⟩
  · have hp : printA s n = ({ s with out := s.out ++ [n] }, 0, 0) := if_neg h100
    rw [hp]
    have g1 : ¬ (100 : Int) ≤ (s.out.length : Int) := by omega
    clear hp
    go_enter Tryz.func115, Tryz.ntmps115
    go_wp2_with (at_builtin; go_loud (refine wpList_appendI rfl _ _ rfl w 0 _ s.out n HROW.out rfl rfl (by omega) (Nat.zero_le _) ?_; intro a6 c6 w6 ho6 hk6 hn6; have HO6 := Lib.hid ho6; have HK6 := Lib.hid hk6; have HN6 := Lib.hid hn6; have y0 : w6.cell? ⟨rb, 11, none⟩ = some (.slice ao s.out.length cap) := hk6.cell_of cv HNV.out; have y1 : w6.frozen? ⟨rb, 11, none⟩ = false := (by rw [hk6.frozen (p := ⟨rb, 11, none⟩) hlt HNV.out]; exact z11); clear ho6 hk6 hn6))
    go_ret2
    have hg := HR.out.goes_put .out (w' := w6) (s' := { s with out := s.out ++ [n] }) (by rw [HVE.out]; exact HK6.out) (same_out s n) HO6.out (by rw [HVE.out]; exact HN6.out)
    exact ⟨rfl, hg⟩
theorem has_true {s : Rm.S α} {n : Int} (h : Rm.has s n = true) : ∃ k : Nat, n = (k : Int) ∧ k < s.globals.length := by
  unfold Rm.has at h
  rw [Bool.and_eq_true, decide_eq_true_eq, decide_eq_true_eq] at h
  exact ⟨n.toNat, by omega, by omega⟩
set_option maxRecDepth 100000 in
set_option maxHeartbeats 3200000 in
theorem load_any (h : RoomT w0 C w τ rb N s) (t : Nat) (n : Int) (hl : s.events.length ≤ 90000000) :
    Calls Tryz.prog 116 #[.pointer (some ⟨rb, 0, none⟩), .int .i64 t, .int .i64 n] w fun e w' => e = .returned (.tuple #[.int .i64 (loadA s t n).2.1, .int .i64 (loadA s t n).2.2]) ∧ Goes w0 C w w' τ rb N (loadA s t n).1 := by
  have HH := Lib.hid h
  have HHAS := Lib.hid (has_any h n)
  clear h
  cases hh : Rm.has s n with
  | false =>
    have hp : loadA s t n = (s, 0, 10) := by unfold loadA; rw [hh]; rfl
    rw [hp]
    rw [hh] at HHAS
    clear hp hh
    go_enter Tryz.func116, Tryz.ntmps116
    go_wp2_with fail
    refine HHAS.out.mono ?_
    rintro e w1 ⟨rfl, hb⟩
    have HG := Lib.hid ((Goes.refl HH.out).new (Keeps.of_new hb))
    clear hb
    go_wp2_with fail
    go_ret2
    exact ⟨rfl, HG.out⟩
  | true =>
    have hp : loadA s t n = (Rm.tell s t 4 n, s.globals.getD n.toNat 0, 0) := by unfold loadA; rw [hh]; rfl
    rw [hp]
    rw [hh] at HHAS
    obtain ⟨k, rfl, hk⟩ := has_true hh
    rw [Int.toNat_natCast]
    clear hp hh
    go_enter Tryz.func116, Tryz.ntmps116
    go_wp2_with fail
    refine HHAS.out.mono ?_
    rintro e w1 ⟨rfl, hb⟩
    have hk1 : Keeps (fun _ => False) w w1 := Keeps.of_new hb
    have HC := Lib.hid (tell_any (HH.out.new hk1) hl t 4 (k : Int))
    have HK1 := Lib.hid hk1
    clear hb hk1
    go_wp2_with fail
    refine HC.out.mono ?_
    rintro e w2 ⟨rfl, hg⟩
    have HG := Lib.hid (hg.first HK1.out)
    obtain ⟨τ2, ⟨V2, l2, hr2⟩, -⟩ := hg.ex
    obtain ⟨g, cap, hv, hc1, hc2, hgl, hz, hcell⟩ := row_open (hr2.rv .globals) (show 0 < s.globals.length by omega)
    have cg : w2.cell? ⟨rb, 10, none⟩ = some (.slice (some ⟨g, 0, none⟩) s.globals.length cap) := (hr2.cv .globals).trans (by rw [hv]; rfl)
    have ck := hcell k _ (ints_at hk)
    have hkk : (0 : Int) ≤ (k : Int) ∧ (k : Int) < (s.globals.length : Int) := by omega
    unfold maxLen at hc2
    clear hg hr2 hv hc1 hz hcell
    generalize s.globals.getD k 0 = x at *
    go_wp2_with fail
    go_ret2
    exact ⟨rfl, HG.out⟩
set_option maxRecDepth 100000 in
set_option maxHeartbeats 3200000 in
theorem store_any (h : RoomT w0 C w τ rb N s) (t : Nat) (n : Int) (hl : s.events.length ≤ 90000000) {va : Value} {args : List Int} (ha : IntsAt w va args) (hv : 0 < args.length → ∀ b, va.ownBlock = some b → τ b = .free) :
    Calls Tryz.prog 117 #[.pointer (some ⟨rb, 0, none⟩), .int .i64 t, .int .i64 n, va] w fun e w' => e = .returned (.tuple #[.int .i64 (storeA s t n args).2.1, .int .i64 (storeA s t n args).2.2]) ∧ Goes w0 C w w' τ rb N (storeA s t n args).1 := by
  have HH := Lib.hid h
  have HHAS := Lib.hid (has_any h n)
  have HA := Lib.hid ha
  have HV := Lib.hid hv
  obtain ⟨aa, na, ca, rfl, hna, hca, hcm, hxa⟩ := ha
  unfold maxLen at hcm
  clear h hv
  cases hh : Rm.has s n with
  | false =>
    have hp : storeA s t n args = (s, 0, 10) := by unfold storeA; rw [hh]; rfl
    rw [hp]
    rw [hh] at HHAS
    clear hp hh hna hxa
    go_enter Tryz.func117, Tryz.ntmps117
    go_wp2_with fail
    refine HHAS.out.mono ?_
    rintro e w1 ⟨rfl, hb⟩
    have HG := Lib.hid ((Goes.refl HH.out).new (Keeps.of_new hb))
    clear hb
    go_wp2_with fail
    go_ret2
    exact ⟨rfl, HG.out⟩
  | true =>
    by_cases h1 : na = 1
    · have hp : storeA s t n args = (Rm.tell { s with globals := s.globals.set n.toNat (args.getD 0 0) } t 5 n, 0, 0) := by unfold storeA; rw [hh, decide_eq_true (show args.length = 1 by omega)]; rfl
      rw [hp]
      rw [hh] at HHAS
      obtain ⟨k, rfl, hk⟩ := has_true hh
      rw [Int.toNat_natCast]
      obtain ⟨ab, oo, rfl, hal, hac⟩ := hxa (by omega)
      have a0 := hac 0 (by omega)
      rw [Nat.add_zero] at a0
      have hfree := HV.out (by omega) ab rfl
      have HAL := Lib.hid hal
      have HFR := Lib.hid hfree
      obtain ⟨x, hx⟩ : ∃ x, x = args.getD 0 0 := ⟨_, rfl⟩
      rw [← hx] at a0 ⊢
      clear hp hh hna hac hx hal hfree
      subst h1
      clear hxa HA HV
      go_enter Tryz.func117, Tryz.ntmps117
      go_wp2_with fail
      refine HHAS.out.mono ?_
      rintro e w1 ⟨rfl, hb⟩
      have hk1 : Keeps (fun _ => False) w w1 := Keeps.of_new hb
      have hR1 := HH.out.new hk1
      have HK1 := Lib.hid hk1
      obtain ⟨V, l, hr⟩ := hR1
      have HR := Lib.hid hr
      obtain ⟨g, cap, hvg, hc1, hc2, hgl, hz, hcell⟩ := row_open (hr.rv .globals) (show 0 < s.globals.length by omega)
      have hvg' : V .globals = .slice (some ⟨g, 0, none⟩) s.globals.length cap := hvg
      have cg : w1.cell? ⟨rb, 10, none⟩ = some (.slice (some ⟨g, 0, none⟩) s.globals.length cap) := (hr.cv .globals).trans (by rw [hvg'])
      have ck := hcell k _ (ints_at hk)
      have zk := hz k
      have b0 : w1.cell? ⟨ab, oo, none⟩ = some (.int .i64 x) := hk1.cell_of a0 id
      have hkk : (0 : Int) ≤ (k : Int) ∧ (k : Int) < (s.globals.length : Int) := by omega
      unfold maxLen at hc2
      have HVG := Lib.hid hvg'
      obtain ⟨y, hy⟩ : ∃ y, y = s.globals.getD k 0 := ⟨_, rfl⟩
      rw [← hy] at ck
      clear hb hk1 hr hvg hvg' hc1 hz hcell hy a0
      go_wp2_with fail
      go_region
      have hg2 : Goes w0 C w1 (w1.setCell ⟨g, k, none⟩ (.int .i64 x)) τ rb N { s with globals := s.globals.set k x } := by
        refine HR.out.goes_turn .globals ((Keeps.refl _ w1).setCell (p := ⟨g, k, none⟩) (Or.inl (by rw [HVG.out]; rfl)) _) (same_glob s _) ?_
        have h1 : w1.ownsRow 0 3 1 (V .globals) s.globals.length (s.globals.map (.int .i64)) := HR.out.rv .globals
        rw [HVG.out] at h1 ⊢
        have h2 := own_setG (off := k) h1 (.int .i64 x)
        have e : (s.globals.map (Value.int .i64)).set k (.int .i64 x) = (s.globals.set k x).map (.int .i64) := by rw [List.map_set]
        rw [e] at h2
        show World.ownsRow _ 0 3 1 _ (s.globals.set k x).length ((s.globals.set k x).map (.int .i64))
        rw [List.length_set]
        exact h2
      have hg3 := hg2.new (keeps_drew0 _)
      obtain ⟨τ3, hT3, hf3⟩ := hg3.ex
      have HF3 := Lib.hid hf3
      have HK3 := Lib.hid hg3.keep
      have HC := Lib.hid (tell_any hT3 hl t 5 (k : Int))
      clear hg2 hg3 hT3 hf3 cg ck zk b0
      generalize (w1.setCell ⟨g, k, none⟩ (.int .i64 x)).drew = w3 at *
      go_wp2_with fail
      refine HC.out.mono ?_
      rintro e w4 ⟨rfl, hg⟩
      have HG := Lib.hid ((hg.trans HK3.out HF3.out).first HK1.out)
      clear hg
      go_wp2_with fail
      go_ret2
      exact ⟨rfl, HG.out⟩
    · have hp : storeA s t n args = (s, 0, 10) := by unfold storeA; rw [hh, decide_eq_false (show ¬ args.length = 1 by omega)]; rfl
      rw [hp]
      rw [hh] at HHAS
      have hne : ((na : Int) != 1) = true := by rw [bne_iff_ne]; omega
      have hne2 : ¬ (na : Int) = 1 := by omega
      clear hp hh hna hxa
      go_enter Tryz.func117, Tryz.ntmps117
      go_wp2_with fail
      refine HHAS.out.mono ?_
      rintro e w1 ⟨rfl, hb⟩
      have HG := Lib.hid ((Goes.refl HH.out).new (Keeps.of_new hb))
      clear hb
      go_wp2_with fail
      go_ret2
      exact ⟨rfl, HG.out⟩
end
end Go.Proofs.YtnjdmijcoadidaaGreatDoor

namespace Go.Proofs.YtnjdmijcoadidaaGreatDoor
open Go.RowKit Go.Maps Pp

def offI (task : Int) (r : List Int) : List Int := r.filter fun x => decide (x ≠ task)
theorem offI_none {task : Int} {r : List Int} (h : ∀ w ∈ r, w ≠ task) : offI task r = r := List.filter_eq_self.2 fun w hw => by simp [h w hw]
theorem offI_take_succ {task : Int} {r : List Int} {k : Nat} {x : Int} (hx : r[k]? = some x) : offI task (r.take (k + 1)) = if x = task then offI task (r.take k) else offI task (r.take k) ++ [x] := by
  have hk := (List.getElem?_eq_some_iff.1 hx).1
  have e : r[k] = x := (List.getElem?_eq_some_iff.1 hx).2
  rw [List.take_succ_eq_append_getElem hk, e]
  unfold offI
  rw [List.filter_append]
  split
  · next h => simp [h]
  · next h => simp [h]
abbrev endF (bx : Nat) : Value := .func (.func 103) #[] #[.pointer (some ⟨bx, 0, none⟩)]
set_option maxRecDepth 100000 in
set_option maxHeartbeats 1600000 in
theorem endedF_any (t : Int) (task : Int) (bx : Nat) (W : World) (hb : W.cell? ⟨bx, 0, none⟩ = some (.int .i64 task)) :
    Calls Tryz.prog 103 #[.int .i64 t, .pointer (some ⟨bx, 0, none⟩)] W fun e w' => e = .returned (.bool (decide (t = task))) ∧ W = w' := by
  go_enter Tryz.func103, Tryz.ntmps103
  go_wp2_with fail
  go_ret
  exact ⟨rfl, rfl⟩
def FirstI (task : Int) (r : List Int) (x : Int) : Prop := (x = -1 ∧ ∀ w ∈ r, w ≠ task) ∨ ∃ k : Nat, x = k ∧ r[k]? = some task ∧ ∀ w ∈ r.take k, w ≠ task
set_option maxRecDepth 100000 in
set_option maxHeartbeats 3200000 in
theorem indexI_any (w : World) (v : Value) (r : List Int) (h : OwnI w 0 v r) (task : Int) (bx : Nat) (hb : w.cell? ⟨bx, 0, none⟩ = some (.int .i64 task)) :
    Calls Tryz.prog 98 #[v, endF bx] w fun e w' => ∃ x : Int, e = .returned (.int .i64 x) ∧ FirstI task r x ∧ w = w' := by
  obtain ⟨ao, cap, rfl, hcap, hmax⟩ := row_slice h
  unfold maxLen at hmax
  have HH := Lib.hid h
  have HB := Lib.hid hb
  obtain ⟨n, hn⟩ : ∃ n, n = r.length := ⟨_, rfl⟩
  rw [← hn] at hcap HH ⊢
  have HN := Lib.hid hn
  clear h hb hn
  go_enter Tryz.func98, Tryz.ntmps98
  go_wp2_with fail
  go_loopw [8] (fun i wr => ∃ k : Nat, k ≤ n ∧ i = .int .i64 k ∧ (∀ x ∈ r.take k, x ≠ task) ∧ w = wr) (fun i _ => n - (intOf i).toNat)
  case atStart => exact ⟨0, Nat.zero_le _, rfl, (fun w hw => by simp at hw), rfl⟩
  case round =>
    obtain ⟨k, hk, rfl, hno, hww⟩ := hrel
    rename World => wr
    subst hww
    have HNO := Lib.hid hno
    clear hno
    by_cases hkn : k < n
    · obtain ⟨x, hx⟩ : ∃ x, r[k]? = some x := ⟨_, List.getElem?_eq_getElem (by have := HN.out; omega)⟩
      have HX := Lib.hid hx
      obtain ⟨g, cap2, hv, -, -, hg, -, hcell⟩ := row_open HH.out (show 0 < r.length by have := HN.out; omega)
      injection hv with hao hnn hcc
      subst hao
      have hc1 : w.cell? ⟨g, k, none⟩ = some (.int .i64 x) := hcell k _ (by rw [List.getElem?_map, hx]; rfl)
      have hki : (0 : Int) ≤ (k : Int) ∧ (k : Int) < (n : Int) := by omega
      clear hx hcell hnn hcc hg
      by_cases ht : x = task
      · have HT := Lib.hid ht
        have HD := Lib.hid (endedF_any x task bx w HB.out)
        have hd : decide (x = task) = true := by rw [decide_eq_true_eq]; exact ht
        rw [hd] at HD
        clear ht hd
        go_wp2_with fail
        refine HD.out.mono ?_
        rintro e w2 ⟨rfl, rfl⟩
        go_wp2_with fail
        go_ret
        exact ⟨_, rfl, Or.inr ⟨k, rfl, by rw [← HT.out]; exact HX.out, HNO.out⟩, rfl⟩
      · have HT := Lib.hid ht
        have HD := Lib.hid (endedF_any x task bx w HB.out)
        have hd : decide (x = task) = false := by rw [decide_eq_false_iff_not]; exact ht
        rw [hd] at HD
        clear ht hd
        go_wp2_with fail
        refine HD.out.mono ?_
        rintro e w2 ⟨rfl, rfl⟩
        go_wp2_with fail
        go_roundw
        case rel =>
          refine ⟨k + 1, by omega, by go_num, fun y hy => ?_, by first | rfl | trivial⟩
          have hkl := (List.getElem?_eq_some_iff.1 HX.out).1
          rw [List.take_succ_eq_append_getElem hkl, List.mem_append, List.mem_singleton] at hy
          rcases hy with hy | hy
          · exact HNO.out y hy
          · rw [hy, (List.getElem?_eq_some_iff.1 HX.out).2]; exact HT.out
        case measure => simp [intOf]; omega
    · obtain rfl : k = n := by omega
      go_wp2_with fail
      go_ret
      refine ⟨-1, rfl, Or.inl ⟨rfl, fun y hy => HNO.out y ?_⟩, rfl⟩
      rw [HN.out, List.take_length]; exact hy
theorem zero_intR (w : World) : (zeroValue 3).run Tryz.prog w = .ok (.int .i64 0) w := by
  have h := Tryz.zeroValue3
  simp [h]
theorem run_clearR (w : World) (ty : TypeId) (b o n c : Nat) (hn : 0 < n) (hc : ∀ j, j < n → (w.cell? ⟨b, o + j, none⟩).isSome = true) (hf : ∀ j, j < n → w.frozen? ⟨b, o + j, none⟩ = false) :
    (Builtin.clear_ #[26] ty #[.slice (some ⟨b, o, none⟩) n c]).run Tryz.prog w = .ok (.tuple #[]) (w.setCells b o (List.replicate n (.int .i64 0))) :=
  Lib.run_clear_slice w 26 3 ty (.int .i64 0) Tryz.underlying26 zero_intR rfl rfl b o n c hn hc hf
/-- So far: the first m of the row are those of the first k that are left. -/
structure DelI (w wr : World) (g n cap : Nat) (r cur : List Int) (task : Int) (m k : Nat) : Prop where
  row : wr.ownsRow 0 3 1 (.slice (some ⟨g, 0, none⟩) n cap) n (cur.map (.int .i64))
  len : cur.length = r.length
  fst : cur.take m = offI task (r.take k)
  rest : cur.drop k = r.drop k
  lt : m < k
  le : k ≤ n
  keep : Keeps (fun b => b = g) w wr
set_option maxRecDepth 100000 in
set_option maxHeartbeats 6400000 in
theorem deleteI_any (w : World) (v : Value) (r : List Int) (h : OwnI w 0 v r) (hl : r.length ≤ 1000000) (task : Int) (bx : Nat) (hb : w.cell? ⟨bx, 0, none⟩ = some (.int .i64 task)) (hne : ∀ b, v.ownBlock = some b → b ≠ bx) :
    Calls Tryz.prog 102 #[v, endF bx] w fun e w' => ∃ v', e = .returned v' ∧ OwnI w' 0 v' (offI task r) ∧ (∀ b, v'.ownBlock = some b → v.ownBlock = some b) ∧ Keeps (fun b => v.ownBlock = some b) w w' := by
  obtain ⟨ao, cap, rfl, hcap, hmax⟩ := row_slice h
  unfold maxLen at hmax
  have HH := Lib.hid h
  have HB := Lib.hid hb
  have HNE := Lib.hid hne
  have HI := Lib.hid (indexI_any w _ r h task bx hb)
  obtain ⟨n, hn⟩ : ∃ n, n = r.length := ⟨_, rfl⟩
  rw [← hn] at hcap HH HI HNE hl ⊢
  have HN := Lib.hid hn
  clear h hb hne hn
  go_enter Tryz.func102, Tryz.ntmps102
  go_wp2_with fail
  refine HI.out.mono ?_
  rintro e w1 ⟨x, rfl, hx, rfl⟩
  rcases hx with ⟨rfl, hno⟩ | ⟨k0, rfl, hx0, hno⟩
  · have HO : Hid (offI task r = r) := Lib.hid (offI_none hno)
    clear hno
    go_wp2_with fail
    go_ret
    exact ⟨_, rfl, by rw [HO.out]; have := HH.out; exact this, fun _ e => e, Keeps.refl _ _⟩
  · have hk0 : k0 < n := by rw [HN.out]; exact (List.getElem?_eq_some_iff.1 hx0).1
    obtain ⟨g, cap2, hv, -, -, hg, hfz, -⟩ := row_open HH.out (show 0 < r.length by have := HN.out; omega)
    injection hv with hao hnn hcc
    subst hao
    have HJ0 : Hid (DelI w w g n cap r r task k0 (k0 + 1)) := Lib.hid ⟨by have := HH.out; unfold OwnI at this; rw [← HN.out] at this; exact this, rfl, by rw [offI_take_succ hx0, if_pos rfl, offI_none hno], rfl, Nat.lt_succ_self _, hk0, Keeps.refl _ _⟩
    have HBX : Hid (g ≠ bx) := Lib.hid (HNE.out g rfl)
    have HG := Lib.hid hg
    have e1 : ¬ ((k0 : Int) = -1) := by omega
    have e2 : ((k0 : Int) == -1) = false := by rw [beq_eq_false_iff_ne]; exact e1
    clear hno hx0 hg hfz hnn hcc
    go_wp2_with fail
    go_loopw [5, 6] (fun i j wr => ∃ (m k : Nat) (cur : List Int), i = .int .i64 m ∧ j = .int .i64 k ∧ DelI w wr g n cap r cur task m k) (fun _ j _ => n - (intOf j).toNat)
    case atStart => exact ⟨k0, k0 + 1, r, rfl, by go_num, HJ0.out⟩
    case round =>
      obtain ⟨m, k, cur, rfl, rfl, hJ⟩ := hrel
      rename World => wr
      have HJ := Lib.hid hJ
      have hmk := hJ.lt
      have hkn' := hJ.le
      have hcl : cur.length = n := by rw [hJ.len, HN.out]
      have HCL := Lib.hid hcl
      obtain ⟨g', cap3, hv, -, -, hlt, hfz, hcell⟩ := row_open hJ.row (show 0 < n by omega)
      injection hv with hao hnn hcc
      injection hao with hao
      injection hao with hao hz0
      subst hao
      clear hnn hcc hz0
      have HFR := Lib.hid hfz
      have HCE := Lib.hid hcell
      clear HJ0 hJ hcl hfz hcell
      by_cases hkn : k < n
      · obtain ⟨x, hx⟩ : ∃ x, r[k]? = some x := ⟨_, List.getElem?_eq_getElem (by have := HN.out; omega)⟩
        have HX := Lib.hid hx
        have hxc := getD_of_drop hx HJ.out.rest
        have hc1 : wr.cell? ⟨g, k, none⟩ = some (.int .i64 x) := HCE.out k _ (by rw [List.getElem?_map, hxc]; rfl)
        have HB2 : Hid (wr.cell? ⟨bx, 0, none⟩ = some (.int .i64 task)) := Lib.hid (HJ.out.keep.cell_of HB.out (fun e => HBX.out e.symm))
        have hki : (0 : Int) ≤ (k : Int) ∧ (k : Int) < (n : Int) := by omega
        have hmi : (0 : Int) ≤ (m : Int) ∧ (m : Int) < (n : Int) := by omega
        have HD := Lib.hid (endedF_any x task bx _ HB2.out)
        clear hxc hx
        by_cases ht : x = task
        · have hd : decide (x = task) = true := by rw [decide_eq_true_eq]; exact ht
          have HT := Lib.hid ht
          rw [hd] at HD
          clear ht hd
          go_wp2_with fail
          refine HD.out.mono ?_
          rintro e w2 ⟨rfl, rfl⟩
          have HJ2 : Hid (DelI w wr g n cap r cur task m (k + 1)) := Lib.hid (by
            refine ⟨HJ.out.row, HJ.out.len, ?_, ?_, by omega, by omega, HJ.out.keep⟩
            · rw [offI_take_succ HX.out, if_pos HT.out]; exact HJ.out.fst
            · have := congrArg (List.drop 1) HJ.out.rest
              rw [List.drop_drop, List.drop_drop] at this
              exact this)
          clear hc1
          go_wp2_with fail
          go_roundw
          case rel => exact ⟨m, k + 1, cur, rfl, by go_num, HJ2.out⟩
          case measure => simp [intOf]; omega
        · have hd : decide (x = task) = false := by rw [decide_eq_false_iff_not]; exact ht
          have HT := Lib.hid ht
          rw [hd] at HD
          clear ht hd
          go_wp2_with fail
          refine HD.out.mono ?_
          rintro e w2 ⟨rfl, rfl⟩
          obtain ⟨y, hy⟩ : ∃ y, cur[m]? = some y := ⟨_, List.getElem?_eq_getElem (by have := HCL.out; omega)⟩
          have m1 : wr.cell? ⟨g, m, none⟩ = some (.int .i64 y) := HCE.out m _ (by rw [List.getElem?_map, hy]; rfl)
          have z1 := HFR.out m
          have HJ2 : Hid (DelI w (wr.setCell ⟨g, m, none⟩ (.int .i64 x)) g n cap r (cur.set m x) task (m + 1) (k + 1)) := Lib.hid (by
            obtain ⟨t1, t2⟩ := set_take_drop HX.out HJ.out.lt HJ.out.rest HJ.out.len
            refine ⟨?_, by rw [List.length_set]; exact HJ.out.len, ?_, t2, by omega, by omega, ?_⟩
            · have h5 := own_setG (off := m) HJ.out.row (.int .i64 x)
              rw [← List.map_set] at h5
              exact h5
            · rw [offI_take_succ HX.out, if_neg HT.out, t1, HJ.out.fst]
            · exact HJ.out.keep.trans ((Keeps.refl (fun b => b = g) wr).setCell (p := ⟨g, m, none⟩) (Or.inl rfl) _))
          clear hc1 hy
          go_wp2_with fail
          go_roundw
          case rel => exact ⟨m + 1, k + 1, _, by go_num, by go_num, HJ2.out⟩
          case measure => simp [intOf]; omega
      · obtain rfl : k = n := by omega
        have hmn : m < k := hmk
        have hki : ¬ (k : Int) < (k : Int) := by omega
        have hcl := fun ty => run_clearR wr ty g m (k - m) (cap - m) (by omega) (fun j hj => by
          obtain ⟨y, hy⟩ : ∃ y, (cur.map (Value.int .i64))[m + j]? = some y := ⟨_, List.getElem?_eq_getElem (by rw [List.length_map, HCL.out]; omega)⟩
          rw [HCE.out _ _ hy]; rfl) (fun j _ => HFR.out _)
        go_wp2_with fail
        go_ret
        have hnl : (offI task r).length = m := by
          have h3 := congrArg List.length HJ.out.fst
          rw [List.length_take, HCL.out, Nat.min_eq_left (by omega)] at h3
          rw [h3]
          have h4 : r.take k = r := by rw [HN.out, List.take_length]
          rw [h4]
        have hcutR : wr.ownsRow 0 3 1 (.slice (some ⟨g, 0, none⟩) m cap) m ((offI task r).map (.int .i64)) := by
          have h1 := own_cut (i := m) HJ.out.row (by omega)
          rw [Nat.mul_one, ← List.map_take, HJ.out.fst] at h1
          rw [HN.out, List.take_length] at h1
          exact h1
        refine ⟨_, rfl, ?_, fun b e => e, (HJ.out.keep.mono fun b _ e => by rw [e]; rfl).trans ((keeps_setCellsG g _ _ _).mono fun b _ e => by rw [e]; rfl)⟩
        unfold OwnI
        rw [hnl]
        exact own_setCells _ _ hcutR (by rw [List.length_map, hnl]; exact Nat.le_refl _)
set_option maxRecDepth 100000 in
set_option maxHeartbeats 3200000 in
theorem cloneI_any (w : World) {v : Value} {l : List Int} (hl : IntsAt w v l) (h6 : l.length ≤ 1000000) :
    Calls Tryz.prog 56 #[v] w fun e w' => ∃ u, e = .returned u ∧ OwnI w' w.heap.size u l ∧ Below w.heap.size w w' := by
  obtain ⟨ao, n, cap, rfl, hn, h1, h2, h3⟩ := hl
  obtain ⟨i0, hi, hz0, hz1, hz2⟩ := tinfoP info_int
  cases ao with
  | none =>
    have hl0 : l = [] := by
      rcases Nat.eq_zero_or_pos n with h0 | h0
      · exact List.eq_nil_of_length_eq_zero (by omega)
      · obtain ⟨b, o, e, _⟩ := h3 h0; cases e
    subst hl0
    have heq := Lib.run_eql_slice_nil (P := Tryz.prog) w 26 3 none n cap 0 0 Tryz.underlying26
    rw [Option.isNone_none] at heq
    clear h3 hn
    go_enter Tryz.func56, Tryz.ntmps56
    go_wp2_with fail
    go_ret
    exact ⟨_, rfl, World.ownsRow_nil _ _ _ _, Below.refl _ _⟩
  | some ad =>
    have hcell : ∀ j u, (l.map (Value.int .i64))[j]? = some u → w.cell? (ad.add j) = some u := fun j u hu => by
      rw [List.getElem?_map] at hu
      obtain ⟨x, e1, rfl⟩ := Option.map_eq_some_iff.1 hu
      have hj := (List.getElem?_eq_some_iff.1 e1).1
      obtain ⟨b, o, e3, _, e4⟩ := h3 (by omega)
      cases e3
      rw [addr_addP, e4 j (by omega), List.getD_eq_getElem?_getD, e1]; rfl
    have h1c : ∀ u ∈ l.map (Value.int .i64), u.oneCell' = true := fun u hu => by
      obtain ⟨x, _, rfl⟩ := List.mem_map.1 hu
      rfl
    have HC := Lib.hid hcell
    have HL : Hid ((l.map (Value.int .i64)).length = l.length * 1) := Lib.hid (by simp)
    clear hcell h3
    subst hn
    have heq := Lib.run_eql_slice_nil (P := Tryz.prog) w 26 3 (some ad) l.length cap 0 0 Tryz.underlying26
    rw [Option.isNone_some] at heq
    go_enter Tryz.func56, Tryz.ntmps56
    have HOWN : Hid ((w.alloc (.cells #[] 3)).ownsRow w.heap.size 3 1 (.slice (some ⟨w.heap.size, 0, none⟩) 0 0) 0 []) := Lib.hid ⟨rfl, Or.inr ⟨w.heap.size, 0, #[], rfl, Nat.le_refl _, by show (w.heap.push _)[w.heap.size]? = _; simp, Nat.le_refl _, Nat.zero_le _, rfl, rfl⟩⟩
    have HCA : Hid (∀ j u, (l.map (Value.int .i64))[j]? = some u → (w.alloc (.cells #[] 3)).cell? (ad.add j) = some u) := Lib.hid fun j u hu => by
      exact Go.Lib.cell?_alloc_some _ (HC.out j u hu)
    go_wp2_with (at_builtin; refine wpList_append_own _ rfl _ _ 26 rfl w.heap.size 3 i0 (.int .i64 0) 1 8 Tryz.underlying26 hi hz0 hz1 hz2 rfl (by decide) _ 0 [] rfl HOWN.out ad l.length cap (l.map (Value.int .i64)) rfl HL.out HCA.out h1c (by unfold maxLen; omega) (by omega) (by simp) ?_)
    intro v' w' ho' hg' _
    have HO := Lib.hid ho'
    have HG := Lib.hid hg'
    clear ho' hg'
    go_wp2_with fail
    go_ret
    refine ⟨_, rfl, ?_, ?_⟩
    · exact HO.out
    · exact ((Below.refl w.heap.size w).alloc (Nat.le_refl _) _).trans ((Keeps.of_grownBy (S := fun g => g = w.heap.size) HG.out fun g _ e => by cases e; rfl).below (by simp) fun g _ e => by omega)
end Go.Proofs.YtnjdmijcoadidaaGreatDoor

namespace Go.Proofs.YtnjdmijcoadidaaGreatDoor
open Go.RowKit Go.Maps Pp

section
variable {α : Type} {w0 : World} {C : DoerW α w0} {w w' w1 w2 : World} {τ τ' : Nat → RR} {rb N N' N1 N2 : Nat} {s s' s1 s2 : Rm.S α} {V : RK → Value} {l : List Hp.E}
/-- What a room's sizes may be. -/
structure Fits (C : DoerW α w0) (s : Rm.S α) : Prop where
  num : C.num s.d = s.tasks.length
  tasks : s.tasks.length ≤ 90000
  live : s.live.length ≤ 90000
  big : C.big s.d ≤ 500000000
  events : s.events.length ≤ 50000000
  out : s.out.length ≤ 90000
theorem askAlloc (w : World) (a b : Int) (va vc : Value) (t : TypeId) : ∀ (j : Nat) (u : Value), (#[Value.int .i64 a, .int .i64 b, va, vc] : Array Value)[j]? = some u → (w.alloc (.cells #[.int .i64 a, .int .i64 b, va, vc] t)).cell? ⟨w.heap.size, j, none⟩ = some u := fun j u hu => by
  rw [World.cell?_alloc_at _ _ _ _ rfl]; exact hu
set_option maxRecDepth 100000 in
set_option maxHeartbeats 3200000 in
theorem number_any (h : RoomT w0 C w τ rb N s) (hE : ErrT w0) (hf : Fits C s) (t : Nat) {va vc : Value} {a : Rm.Ask} (ha : AskSays w va vc a) (hv : 0 < a.args.length → ∀ b, va.ownBlock = some b → τ b = .free) :
    Calls Tryz.prog 82 #[.pointer (some ⟨rb, 0, none⟩), .int .i64 t, .agg #[.int .i64 a.what, .int .i64 a.n, va, vc]] w fun e w' => e = .returned (.tuple #[.int .i64 (Rm.numberA s t a).2.1, .int .i64 (Rm.numberA s t a).2.2]) ∧ Goes w0 C w w' τ rb N (Rm.numberA s t a).1 := by
  have hk1 : Keeps (fun _ => False) w (w.alloc (.cells #[.int .i64 a.what, .int .i64 a.n, va, vc] 88)) := (Keeps.refl (fun _ => False) w).alloc _
  have hc := askAlloc w a.what a.n va vc 88
  have q0 := hc 0 _ rfl
  have q1 := hc 1 _ rfl
  have q2 := hc 2 _ rfl
  have hT1 := h.new hk1
  have HA := Lib.hid (ha.args.keeps hk1 fun _ _ => id)
  have HV := Lib.hid hv
  have HT := Lib.hid hT1
  have HK := Lib.hid hk1
  have HEE := Lib.hid hE
  have HF := Lib.hid hf
  obtain ⟨aa, na, ca, rfl, -⟩ := id ha.args
  obtain ⟨ac, nc, cc, rfl, -⟩ := id ha.cases
  have m7 : a.what = 7 → Rm.numberA s t a = (s, Rm.lent s a.n) := fun e => by unfold Rm.numberA; rw [if_pos e]
  have m12 : a.what = 12 → Rm.numberA s t a = makeA s a.n := fun e => by unfold Rm.numberA makeA; rw [if_neg (by omega), if_pos e]
  have m8 : a.what = 8 → Rm.numberA s t a = printA s a.n := fun e => by unfold Rm.numberA printA; rw [if_neg (by omega), if_neg (by omega), if_pos e]
  have m10 : a.what = 10 → Rm.numberA s t a = loadA s t a.n := fun e => by unfold Rm.numberA loadA; rw [if_neg (by omega), if_neg (by omega), if_neg (by omega), if_pos e]
  have m11 : a.what = 11 → Rm.numberA s t a = storeA s t a.n a.args := fun e => by unfold Rm.numberA storeA; rw [if_neg (by omega), if_neg (by omega), if_neg (by omega), if_neg (by omega), if_pos e]
  have m0 : a.what ≠ 7 → a.what ≠ 12 → a.what ≠ 8 → a.what ≠ 10 → a.what ≠ 11 → Rm.numberA s t a = (s, 0, 10) := fun h1 h2 h3 h4 h5 => by unfold Rm.numberA; rw [if_neg h1, if_neg h2, if_neg h3, if_neg h4, if_neg h5]
  generalize Rm.numberA s t a = r at *
  obtain ⟨aw, an, args, cases⟩ := a
  simp only at q0 q1 q2 HA m7 m12 m8 m10 m11 m0 ⊢
  have M12 := Lib.hid m12
  have M7 := Lib.hid m7
  have M8 := Lib.hid m8
  have M10 := Lib.hid m10
  have M11 := Lib.hid m11
  have M0 := Lib.hid m0
  clear h ha hv hE hf hT1 hk1 hc m7 m12 m8 m10 m11 m0
  by_cases h7 : aw = 7
  · subst h7
    obtain rfl := M7.out rfl
    clear M7 M12 M8 M10 M11 M0
    have HC := Lib.hid (count_any HT.out an)
    generalize Rm.lent s an = p at *
    go_enter Tryz.func82, Tryz.ntmps82
    go_wp2_with fail
    refine HC.out.mono ?_
    rintro e w2 ⟨rfl, rfl⟩
    have HG := Lib.hid ((Goes.refl HT.out).first HK.out)
    clear q0 q1 q2
    go_wp2_with fail
    go_ret2
    exact ⟨rfl, HG.out⟩
  by_cases h12 : aw = 12
  · subst h12
    obtain rfl := M12.out rfl
    clear M7 M12 M8 M10 M11 M0
    have HC := Lib.hid (channel_room HT.out HEE.out an)
    generalize makeA s an = p at *
    go_enter Tryz.func82, Tryz.ntmps82
    go_wp2_with fail
    refine HC.out.mono ?_
    rintro e w2 ⟨rfl, hg⟩
    have HG := Lib.hid (hg.first HK.out)
    clear q0 q1 q2 hg
    go_wp2_with fail
    go_ret2
    exact ⟨rfl, HG.out⟩
  by_cases h8 : aw = 8
  · subst h8
    obtain rfl := M8.out rfl
    clear M7 M12 M8 M10 M11 M0
    have HC := Lib.hid (print_any HT.out an (by have := HF.out.out; omega))
    generalize printA s an = p at *
    go_enter Tryz.func82, Tryz.ntmps82
    go_wp2_with fail
    refine HC.out.mono ?_
    rintro e w2 ⟨rfl, hg⟩
    have HG := Lib.hid (hg.first HK.out)
    clear q0 q1 q2 hg
    go_wp2_with fail
    go_ret2
    exact ⟨rfl, HG.out⟩
  by_cases h10 : aw = 10
  · subst h10
    obtain rfl := M10.out rfl
    clear M7 M12 M8 M10 M11 M0
    have HC := Lib.hid (load_any HT.out t an (by have := HF.out.events; omega))
    generalize loadA s t an = p at *
    go_enter Tryz.func82, Tryz.ntmps82
    go_wp2_with fail
    refine HC.out.mono ?_
    rintro e w2 ⟨rfl, hg⟩
    have HG := Lib.hid (hg.first HK.out)
    clear q0 q1 q2 hg
    go_wp2_with fail
    go_ret2
    exact ⟨rfl, HG.out⟩
  by_cases h11 : aw = 11
  · subst h11
    obtain rfl := M11.out rfl
    clear M7 M12 M8 M10 M11 M0
    have HC := Lib.hid (store_any HT.out t an (by have := HF.out.events; omega) HA.out HV.out)
    generalize storeA s t an args = p at *
    go_enter Tryz.func82, Tryz.ntmps82
    go_wp2_with fail
    refine HC.out.mono ?_
    rintro e w2 ⟨rfl, hg⟩
    have HG := Lib.hid (hg.first HK.out)
    clear q0 q1 q2 hg
    go_wp2_with fail
    go_ret2
    exact ⟨rfl, HG.out⟩
  obtain rfl := M0.out h7 h12 h8 h10 h11
  have z7 : (aw == 7) = false := beq_eq_false_iff_ne.2 h7
  have z12 : (aw == 12) = false := beq_eq_false_iff_ne.2 h12
  have z8 : (aw == 8) = false := beq_eq_false_iff_ne.2 h8
  have z10 : (aw == 10) = false := beq_eq_false_iff_ne.2 h10
  have z11 : (aw == 11) = false := beq_eq_false_iff_ne.2 h11
  have HG := Lib.hid ((Goes.refl HT.out).first HK.out)
  clear M7 M12 M8 M10 M11 M0
  go_enter Tryz.func82, Tryz.ntmps82
  go_wp2_with fail
  go_ret2
  exact ⟨rfl, HG.out⟩
set_option maxRecDepth 100000 in
set_option maxHeartbeats 3200000 in
theorem fork_any (h : RoomT w0 C w τ rb N s) (hf : Fits C s) (t : Nat) (ht : t < s.tasks.length) (fn : Int) (f0 : -9223372036854775808 ≤ fn) (f1 : fn ≤ 9223372036854775807) {va : Value} {args : List Int} (ha : IntsAt w va args) (hv : 0 < args.length → ∀ b, va.ownBlock = some b → τ b = .free) (hla : args.length ≤ 100000) :
    Calls Tryz.prog 78 #[.pointer (some ⟨rb, 0, none⟩), .int .i64 t, .int .i64 fn, va] w fun e w' => e = .returned (.tuple #[]) ∧ Goes w0 C w w' τ rb N (Rm.forkA C.D s t fn args) := by
  obtain ⟨V, l, hr⟩ := id h
  have HH := Lib.hid h
  have HR := Lib.hid hr
  have HF := Lib.hid hf
  have HA := Lib.hid ha
  have HV := Lib.hid hv
  obtain ⟨al, cl, hvl, hl1, hl2⟩ := row_slice (hr.rv .live)
  obtain ⟨at_, ct, hvt, ht1, ht2⟩ := row_slice (hr.rv .tasks)
  have c3 : w.cell? ⟨rb, 3, none⟩ = some (.slice al s.live.length cl) := (hr.cv .live).trans (by rw [hvl]; rfl)
  have c2 : w.cell? ⟨rb, 2, none⟩ = some (.slice at_ s.tasks.length ct) := (hr.cv .tasks).trans (by rw [hvt]; rfl)
  have c1 := hr.c1
  have z1 := hr.z 1
  obtain ⟨aa, na, ca, rfl, -⟩ := id ha
  obtain ⟨m, hmm⟩ : ∃ m, m = s.tasks.length := ⟨_, rfl⟩
  have HM := Lib.hid hmm
  rw [← hmm] at c2
  have hl3 : s.live.length ≤ cl := hl1
  have ht3 : m ≤ ct := by rw [hmm]; exact ht1
  unfold maxLen at hl2 ht2
  clear h hr hf ha hv hvl hvt hl1 ht1 hmm
  by_cases h16 : 16 ≤ s.live.length
  · have hp : Rm.forkA C.D s t fn args = Rm.ends s 9 := if_pos h16
    rw [hp]
    have g : (16 : Int) ≤ (s.live.length : Int) := by omega
    clear hp
    go_enter Tryz.func78, Tryz.ntmps78
    go_wp2_with fail
    refine bodyPost_ret (results_none rfl _ _ _) rfl ?_
    exact ⟨rfl, HR.out.goes_ends 9⟩
  · have hp : Rm.forkA C.D s t fn args = Rm.give C.D (Rm.begins C.D (Rm.tell s t 1 s.tasks.length) fn args) t 0 0 := if_neg h16
    rw [hp]
    have g : ¬ (16 : Int) ≤ (s.live.length : Int) := by omega
    have HTE := Lib.hid (tell_any HH.out (by have := HF.out.events; omega) t 1 (m : Int))
    have HP := Lib.hid hp
    clear hp z1 c1
    go_enter Tryz.func78, Tryz.ntmps78
    go_wp2_with fail
    refine HTE.out.mono ?_
    rintro e w2 ⟨rfl, hg2⟩
    obtain ⟨τ2, hT2, hf2⟩ := hg2.ex
    have HT2 := Lib.hid hT2
    have HF2 := Lib.hid hf2
    have HK2 := Lib.hid hg2.keep
    have HCL := Lib.hid (cloneI_any w2 (HA.out.keeps0 hg2.keep fun h0 b hb e => e (HV.out h0 b hb)) (by omega))
    clear hg2 hT2 hf2
    go_wp2_with fail
    refine HCL.out.mono ?_
    rintro e w3 ⟨u, rfl, ho3, hb3⟩
    have hk3 : Keeps (fun _ => False) w2 w3 := Keeps.of_new hb3
    have hdom : ∀ b, u.ownBlock = some b → τ2 b = .free := fun b hb => Classical.byContradiction fun e => by
      have h5 := (World.ownsRow.lt ho3 b hb).1
      obtain ⟨V2, l2, hr2⟩ := HT2.out
      have := hr2.dom b e
      omega
    have HBE := Lib.hid (begin_any (HT2.out.new hk3) fn f0 f1 ho3.ints (fun _ => hdom) (by have h6 := HF.out.num; have h7 := HF.out.tasks; show C.num s.d ≤ 100000; omega) (by have h7 := HF.out.tasks; show s.tasks.length ≤ 100000; omega) (by show s.live.length ≤ 100000; omega))
    have HK3 := Lib.hid hk3
    clear ho3 hb3 hk3 hdom
    go_wp2_with fail
    refine HBE.out.mono ?_
    rintro e w4 ⟨rfl, hg4⟩
    obtain ⟨τ4, hT4, hf4⟩ := hg4.ex
    have HT4 := Lib.hid hT4
    have HF4 := Lib.hid hf4
    have HG4 := Lib.hid hg4
    have hnum : C.num (Rm.begins C.D (Rm.tell s t 1 (m : Int)) fn args).d = s.tasks.length + 1 := by
      show C.num (C.D.begins s.d fn args) = _
      rw [C.num_begins, HF.out.num]
    have HGV := Lib.hid (give_any hT4 t (by rw [hnum]; omega) (by rw [hnum]; have := HF.out.tasks; omega) (by
      have h8 := C.big_begins s.d fn args
      have h9 := HF.out.big
      show C.big (C.D.begins s.d fn args) ≤ _
      omega) 0 0)
    clear hg4 hT4 hf4 hnum
    go_wp2_with fail
    refine HGV.out.mono ?_
    rintro e w5 ⟨rfl, hg5⟩
    have HG5 : Hid (Goes w0 C w w5 τ rb N (Rm.give C.D (Rm.begins C.D (Rm.tell s t 1 s.tasks.length) fn args) t 0 0)) := Lib.hid (by
      have h9 := ((hg5.trans HG4.out.keep HF4.out).first HK3.out).trans HK2.out HF2.out
      rw [HM.out] at h9
      exact h9)
    clear hg5
    go_wp2_with fail
    go_end0
    exact ⟨rfl, HG5.out⟩
theorem live_filter (s : Rm.S α) (t : Nat) : offI (t : Int) (s.live.map fun (i : Nat) => (i : Int)) = (s.live.filter fun i => decide (i ≠ t)).map fun (i : Nat) => (i : Int) := by
  unfold offI
  rw [List.filter_map]
  congr 1
  apply List.filter_congr
  intro x _
  simp
  omega
theorem same_liveF (s : Rm.S α) (r : List Nat) : SameBut .live s { s with live := r } := ⟨rfl, rfl, rfl, rfl, rfl, fun k hk => by cases k <;> first | rfl | exact absurd rfl hk, fun k hk => by cases k <;> first | rfl | exact absurd rfl hk⟩
set_option maxRecDepth 100000 in
set_option maxHeartbeats 3200000 in
theorem ended_any (h : RoomT w0 C w τ rb N s) (hf : Fits C s) (t : Nat) (ht : t < s.tasks.length) :
    Calls Tryz.prog 76 #[.pointer (some ⟨rb, 0, none⟩), .int .i64 t] w fun e w' => e = .returned (.tuple #[]) ∧ Goes w0 C w w' τ rb N (Rm.endA s t) := by
  obtain ⟨V, l, hr0⟩ := h
  have hk1 : Keeps (fun _ => False) w (w.alloc (.cells #[.int .i64 t] 3)) := (Keeps.refl (fun _ => False) w).alloc _
  have hr := hr0.new hk1
  have HK1 := Lib.hid hk1
  have HR := Lib.hid hr
  obtain ⟨g, cap, hv, hc1, hc2, hg, hz, hcell⟩ := row_open (hr.rv .tasks) (show 0 < s.tasks.length by omega)
  have hv' : V .tasks = .slice (some ⟨g, 0, none⟩) s.tasks.length cap := hv
  have hab : ¬ g = w.heap.size := fun e => by
    have h1 := hr0.rr .tasks g (by rw [hv']; rfl)
    have h2 := hr0.dom g (by rw [h1]; simp)
    omega
  have hf0 : τ w.heap.size = .free := Classical.byContradiction fun e => by have := hr0.dom _ e; omega
  have c2 : (w.alloc (.cells #[.int .i64 t] 3)).cell? ⟨rb, 2, none⟩ = some (.slice (some ⟨g, 0, none⟩) s.tasks.length cap) := (hr.cv .tasks).trans (by rw [hv'])
  have ct := hcell t _ (ints_at ht)
  have zt := hz t
  have a0 : (w.alloc (.cells #[.int .i64 t] 3)).cell? ⟨w.heap.size, 0, none⟩ = some (.int .i64 t) := by rw [World.cell?_alloc_at _ _ _ _ rfl]; rfl
  have htl : (0 : Int) ≤ (t : Int) ∧ (t : Int) < (s.tasks.length : Int) := by omega
  unfold maxLen at hc2
  have HVT := Lib.hid hv'
  have HF := Lib.hid hf
  have HF0 := Lib.hid hf0
  have HAB := Lib.hid hab
  clear hr0 hr hv hv' hz hcell hk1 hf hf0
  obtain ⟨y, hy⟩ : ∃ y, y = s.tasks.getD t 0 := ⟨_, rfl⟩
  rw [← hy] at ct
  clear hy
  go_enter Tryz.func76, Tryz.ntmps76
  go_upto_region 1 with fail
  generalize w.alloc (.cells #[.int .i64 t] 3) = w1 at *
  generalize hbx : w.heap.size = bx at *
  clear hbx
  go_region
  have hg2 := (HR.out.goes_be HVT.out t 3).new (keeps_drew0 _)
  have b0 : (w1.setCell ⟨g, t, none⟩ (.int .i64 3)).drew.cell? ⟨bx, 0, none⟩ = some (.int .i64 t) := by rw [World.cell?_drew, World.cell?_setCell_other _ _ _ _ (by intro e; injection e with e; exact HAB.out e)]; exact a0
  have hbl : bx < w1.heap.size := block_lt_of_cell a0
  clear c2 ct zt a0
  generalize (w1.setCell ⟨g, t, none⟩ (.int .i64 3)).drew = w2 at *
  obtain ⟨τ2, ⟨V2, l2, hR2⟩, hf2⟩ := hg2.ex
  have h2b : τ2 bx = .free := hf2 bx hbl HF0.out
  obtain ⟨al, cl, hvl, hl1, hl2⟩ := row_slice (hR2.rv .live)
  have hvl' : V2 .live = .slice al s.live.length cl := hvl
  have c3 : w2.cell? ⟨rb, 3, none⟩ = some (.slice al s.live.length cl) := (hR2.cv .live).trans (by rw [hvl'])
  have hrl : OwnI w2 0 (.slice al s.live.length cl) (s.live.map fun (i : Nat) => (i : Int)) := by
    have h5 : w2.ownsRow 0 3 1 (V2 .live) s.live.length (s.live.map fun (i : Nat) => .int .i64 (i : Int)) := hR2.rv .live
    rw [hvl'] at h5
    unfold OwnI
    rw [List.map_map, List.length_map]
    exact h5
  have HD := Lib.hid (deleteI_any w2 _ _ hrl (by rw [List.length_map]; have := HF.out.live; omega) (t : Int) bx b0 fun b hb e => by
    have h5 := hR2.rr .live b (by rw [hvl']; exact hb)
    rw [e, h2b] at h5; cases h5)
  have hll : s.live.length ≤ cl := hl1
  unfold maxLen at hl2
  have hlt2 := hR2.lt
  have hz3 := hR2.z 3
  have hnv : ¬ (Value.slice al s.live.length cl).ownBlock = some rb := fun e => by
    have h5 := hR2.rr .live rb (by rw [hvl']; exact e)
    rw [hR2.t0] at h5; cases h5
  have HNV := Lib.hid hnv
  have HR2 := Lib.hid hR2
  have HG2 := Lib.hid hg2
  have HF2 := Lib.hid hf2
  have HVL := Lib.hid hvl'
  have H2B := Lib.hid h2b
  clear hvl hvl' hrl hnv hR2 hg2 hf2 h2b hl1
  have hmf : ∀ (fn : Fn) (first cap : Array Value) (w : World), (Instr.makeFunc fn first cap).run Tryz.prog w = .ok (.func fn first cap) w := fun _ _ _ _ => rfl
  go_wp2_with fail
  refine HD.out.mono ?_
  rintro e w3 ⟨v3, rfl, ho3, hs3, hk3⟩
  obtain ⟨q, hq0⟩ : ∃ q, q = offI (t : Int) (s.live.map fun (i : Nat) => (i : Int)) := ⟨_, rfl⟩
  rw [← hq0] at ho3
  rw [live_filter] at hq0
  have HQ0 := Lib.hid hq0
  obtain ⟨a3, k3, rfl⟩ := own1_slice ho3
  have HO3 := Lib.hid ho3
  have HS3 := Lib.hid hs3
  have HK3 := Lib.hid hk3
  have y0 : w3.cell? ⟨rb, 3, none⟩ = some (.slice al s.live.length cl) := hk3.cell_of c3 HNV.out
  have y1 : w3.frozen? ⟨rb, 3, none⟩ = false := by rw [hk3.frozen (p := ⟨rb, 3, none⟩) hlt2 HNV.out]; exact hz3
  have hbne : ¬ (Value.slice al s.live.length cl).ownBlock = some bx := fun e => by
    have h5 := HR2.out.rr .live bx (by rw [HVL.out]; exact e)
    rw [H2B.out] at h5; cases h5
  have hrbx : rb ≠ bx := fun e => by have h5 := HR2.out.t0; rw [e, H2B.out] at h5; cases h5
  have y2 : (w3.setCell ⟨rb, 3, none⟩ (.slice a3 q.length k3)).cell? ⟨bx, 0, none⟩ = some (.int .i64 t) := by
    rw [World.cell?_setCell_other _ _ _ _ (by intro e; injection e with e; exact hrbx e)]
    exact hk3.cell_of b0 hbne
  have hg4 := HR2.out.goes_put .live (w' := w3) (s' := { Rm.be s t 3 with live := s.live.filter fun i => decide (i ≠ t) }) (by rw [HVL.out]; exact HK3.out) (same_liveF (Rm.be s t 3) _) (by
    show World.ownsRow _ 0 3 1 _ (s.live.filter fun i => decide (i ≠ t)).length ((s.live.filter fun i => decide (i ≠ t)).map fun (i : Nat) => .int .i64 (i : Int))
    have h6 := HO3.out
    unfold OwnI at h6
    rw [show (s.live.filter fun i => decide (i ≠ t)).length = q.length by rw [HQ0.out, List.length_map], show ((s.live.filter fun i => decide (i ≠ t)).map fun (i : Nat) => Value.int .i64 (i : Int)) = q.map (.int .i64) by rw [HQ0.out, List.map_map]; rfl]
    exact h6) (fun b hb => Or.inl (by rw [HVL.out]; exact HS3.out b hb))
  have hg5 := hg4.trans HG2.out.keep HF2.out
  have HG5 := Lib.hid (hg5.first HK1.out)
  have HG4 := Lib.hid hg4
  clear ho3 hs3 hk3 hg4 hg5 b0 c3 hz3 hbne hrbx hq0 HO3 HQ0
  by_cases h0 : t = 0
  · have hp : Rm.endA s t = Rm.ends { Rm.be s t 3 with live := s.live.filter fun i => decide (i ≠ t) } 1 := if_pos h0
    have hq : ((t : Int) == 0) = true := by rw [beq_iff_eq]; omega
    have HP := Lib.hid hp
    obtain ⟨τ4, ⟨V4, l4, hR4⟩, hf4⟩ := HG4.out.ex
    have z1 : (w3.setCell ⟨rb, 3, none⟩ (.slice a3 q.length k3)).frozen? ⟨rb, 1, none⟩ = false := hR4.z 1
    have d1 : (w3.setCell ⟨rb, 3, none⟩ (.slice a3 q.length k3)).cell? ⟨rb, 1, none⟩ = some (.int .i64 s.fin) := hR4.c1
    have HR4 := Lib.hid hR4
    have HF4 := Lib.hid hf4
    clear hp h0 hR4 hf4
    go_wp2_with fail
    go_end0
    have h9 := ((HR4.out.goes_ends 1).trans HG4.out.keep HF4.out).trans HG2.out.keep HF2.out
    exact ⟨rfl, by rw [HP.out]; exact h9.first HK1.out⟩
  · have hp : Rm.endA s t = { Rm.be s t 3 with live := s.live.filter fun i => decide (i ≠ t) } := if_neg h0
    have hq : ((t : Int) == 0) = false := by rw [beq_eq_false_iff_ne]; omega
    have HP := Lib.hid hp
    clear hp h0
    go_wp2_with fail
    go_end0
    exact ⟨rfl, by rw [HP.out]; exact HG5.out⟩
end
end Go.Proofs.YtnjdmijcoadidaaGreatDoor

namespace Go.Proofs.YtnjdmijcoadidaaGreatDoor
open Go.RowKit Go.Maps Pp

section
variable {α : Type} {w0 : World} {C : DoerW α w0} {w w' w1 w2 : World} {τ τ' : Nat → RR} {rb N N' N1 N2 : Nat} {s s' s1 s2 : Rm.S α} {V : RK → Value} {l : List Hp.E}
theorem talkAlloc (w : World) (a b c : Int) (t : TypeId) : ∀ (j : Nat) (u : Value), (#[Value.int .i64 a, .int .i64 b, .int .i64 c] : Array Value)[j]? = some u → (w.alloc (.cells #[.int .i64 a, .int .i64 b, .int .i64 c] t)).cell? ⟨w.heap.size, j, none⟩ = some u := fun j u hu => by
  rw [World.cell?_alloc_at _ _ _ _ rfl]; exact hu
theorem WksAt.on {v : Value} {wk : List Wk} (h : WksAt w v wk) (hv : ∀ b, b < w.heap.size → v.ownBlock = some b → τ b = .free) (hk : Keeps (fun b => τ b ≠ .free) w w') : WksAt w' v wk := h.keeps hk fun b hb e e2 => e2 (hv b hb e)
set_option maxRecDepth 100000 in
set_option maxHeartbeats 6400000 in
theorem tellTalk_any (h : RoomT w0 C w τ rb N s) (t : Nat) (x : Tk) (k : Nat) {v : Value} {wk : List Wk} (hw : WksAt w v wk) (hv : ∀ b, v.ownBlock = some b → τ b = .free) (hvl : ∀ b, v.ownBlock = some b → b < w.heap.size) (hl : s.events.length + wk.length + 1 ≤ 90000000) :
    Calls Tryz.prog 108 #[.pointer (some ⟨rb, 0, none⟩), .int .i64 t, .agg #[.int .i64 x.what, .int .i64 x.chan, .int .i64 x.n], .int .i64 k, v] w fun e w' => e = .returned (.tuple #[]) ∧ Goes w0 C w w' τ rb N (Rm.tellTalk s t x k wk) := by
  have hk1 : Keeps (fun _ => False) w (w.alloc (.cells #[.int .i64 x.what, .int .i64 x.chan, .int .i64 x.n] 132)) := (Keeps.refl (fun _ => False) w).alloc _
  have hc := talkAlloc w x.what x.chan x.n 132
  have q0 := hc 0 _ rfl
  have q1 := hc 1 _ rfl
  have hT1 := h.new hk1
  have hw1 := hw.keeps hk1 fun _ _ _ => id
  obtain ⟨ao, cap, rfl, hc1, hc2, -⟩ := hw.ex
  have hfb : τ w.heap.size = .free := by
    obtain ⟨V, l, hr⟩ := h
    exact Classical.byContradiction fun e => by have := hr.dom _ e; omega
  have HT := Lib.hid hT1
  have HK := Lib.hid hk1
  have HW := Lib.hid hw1
  have HV : Hid (∀ b, (Value.slice ao wk.length cap).ownBlock = some b → τ b = .free) := Lib.hid hv
  have HL := Lib.hid hl
  have HFB := Lib.hid hfb
  have HVL0 : Hid (∀ b, (Value.slice ao wk.length cap).ownBlock = some b → b < w.heap.size) := Lib.hid hvl
  obtain ⟨xw, xc, xn⟩ := x
  simp only at q0 q1 ⊢
  obtain ⟨n, hn⟩ : ∃ n, n = wk.length := ⟨_, rfl⟩
  have HN := Lib.hid hn
  rw [← hn] at hc1 HW HV HVL0 ⊢
  unfold maxLen at hc2
  have m40 : xw = 40 → Rm.tellTalk s t ⟨xw, xc, xn⟩ k wk = s := fun e => if_pos e
  have m3 : xw = 3 → Rm.tellTalk s t ⟨xw, xc, xn⟩ k wk = Rm.tellEach (Rm.tell s t 2 xc) 3 xc wk := fun e => by unfold Rm.tellTalk; rw [if_neg (show ¬ xw = 40 by omega), if_pos e]
  have mk : xw ≠ 40 → xw ≠ 3 → 0 < k → Rm.tellTalk s t ⟨xw, xc, xn⟩ k wk = Rm.tellEach (Rm.tell s t 3 xc) 2 xc wk := fun e1 e2 e3 => by unfold Rm.tellTalk; rw [if_neg e1, if_neg e2, if_pos e3]
  have mw : xw ≠ 40 → xw ≠ 3 → ¬ 0 < k → 0 < n → Rm.tellTalk s t ⟨xw, xc, xn⟩ k wk = Rm.tell (Rm.tellEach s 2 xc wk) t 3 xc := fun e1 e2 e3 e4 => by unfold Rm.tellTalk; rw [if_neg e1, if_neg e2, if_neg e3, if_pos (by omega)]
  have mz : xw ≠ 40 → xw ≠ 3 → ¬ 0 < k → ¬ 0 < n → Rm.tellTalk s t ⟨xw, xc, xn⟩ k wk = Rm.tell s t 7 xc := fun e1 e2 e3 e4 => by unfold Rm.tellTalk; rw [if_neg e1, if_neg e2, if_neg e3, if_neg (by omega)]
  generalize Rm.tellTalk s t ⟨xw, xc, xn⟩ k wk = r at *
  have M40 := Lib.hid m40
  have M3 := Lib.hid m3
  have MK := Lib.hid mk
  have MW := Lib.hid mw
  have MZ := Lib.hid mz
  have hbl : w.heap.size < (w.alloc (.cells #[.int .i64 xw, .int .i64 xc, .int .i64 xn] 132)).heap.size := by simp
  have HBL := Lib.hid hbl
  clear h hw hv hvl hl hT1 hk1 hc hw1 hfb hn m40 m3 mk mw mz hbl
  go_enter Tryz.func108, Tryz.ntmps108
  go_upto_region 2 with fail
  generalize w.alloc (.cells #[.int .i64 xw, .int .i64 xc, .int .i64 xn] 132) = w1 at *
  have hks := HK.out.size
  generalize hbx : w.heap.size = bx at *
  clear hbx
  have HVL : Hid (∀ b, (Value.slice ao n cap).ownBlock = some b → b < w1.heap.size) := Lib.hid fun b hb => Nat.lt_of_lt_of_le (HVL0.out b hb) hks
  clear hks
  by_cases h40 : xw = 40
  · obtain rfl := M40.out h40
    have HG := Lib.hid ((Goes.refl HT.out).first HK.out)
    subst h40
    go_wp2_with fail
    go_end0
    exact ⟨rfl, HG.out⟩
  have z40 : (xw == 40) = false := beq_eq_false_iff_ne.2 h40
  by_cases h3 : xw = 3
  · obtain rfl := M3.out h3
    subst h3
    clear z40 h40
    have HC1 := Lib.hid (tell_any HT.out (by have := HL.out; omega) t 2 xc)
    go_wp2_with fail
    refine HC1.out.mono ?_
    rintro e w2 ⟨rfl, hg2⟩
    have c1 : w2.cell? ⟨bx, 1, none⟩ = some (.int .i64 xc) := hg2.keep.cell_of q1 (by rw [HFB.out]; simp)
    obtain ⟨τ2, hT2, hf2⟩ := hg2.ex
    have HC2 := Lib.hid (tellEach_any hT2 (HW.out.on (fun b _ => HV.out b) hg2.keep) (fun b hb e => Classical.byContradiction fun e2 => e2 (hf2 b (HVL.out b e) (HV.out b e))) (by show (s.events ++ [_]).length + wk.length ≤ _; rw [List.length_append]; have := HL.out; simp; omega) 3 xc)
    have HK2 := Lib.hid hg2.keep
    have HF2 := Lib.hid hf2
    clear q0 q1 hg2 hT2 hf2
    go_wp2_with fail
    refine HC2.out.mono ?_
    rintro e w3 ⟨rfl, hg3⟩
    have HG3 := Lib.hid ((hg3.trans HK2.out HF2.out).first HK.out)
    clear hg3 c1
    go_wp2_with fail
    go_end0
    exact ⟨rfl, HG3.out⟩
  have z3 : (xw == 3) = false := beq_eq_false_iff_ne.2 h3
  by_cases hk0 : 0 < k
  · obtain rfl := MK.out h40 h3 hk0
    have g0 : (0 : Int) < (k : Int) := by omega
    clear M40 M3 MK MW MZ h40 h3
    have HC1 := Lib.hid (tell_any HT.out (by have := HL.out; omega) t 3 xc)
    go_wp2_with fail
    refine HC1.out.mono ?_
    rintro e w2 ⟨rfl, hg2⟩
    have c1 : w2.cell? ⟨bx, 1, none⟩ = some (.int .i64 xc) := hg2.keep.cell_of q1 (by rw [HFB.out]; simp)
    obtain ⟨τ2, hT2, hf2⟩ := hg2.ex
    have HC2 := Lib.hid (tellEach_any hT2 (HW.out.on (fun b _ => HV.out b) hg2.keep) (fun b hb e => Classical.byContradiction fun e2 => e2 (hf2 b (HVL.out b e) (HV.out b e))) (by show (s.events ++ [_]).length + wk.length ≤ _; rw [List.length_append]; have := HL.out; simp; omega) 2 xc)
    have HK2 := Lib.hid hg2.keep
    have HF2 := Lib.hid hf2
    clear q0 q1 hg2 hT2 hf2
    go_wp2_with fail
    refine HC2.out.mono ?_
    rintro e w3 ⟨rfl, hg3⟩
    have HG3 := Lib.hid ((hg3.trans HK2.out HF2.out).first HK.out)
    clear hg3 c1
    go_wp2_with fail
    go_end0
    exact ⟨rfl, HG3.out⟩
  have g0 : ¬ (0 : Int) < (k : Int) := by omega
  by_cases hn0 : 0 < n
  · obtain rfl := MW.out h40 h3 hk0 hn0
    have g1 : (0 : Int) < (n : Int) := by omega
    clear M40 M3 MK MW MZ h40 h3 hk0
    have HC1 := Lib.hid (tellEach_any HT.out (by have := HW.out; exact this) (fun b _ => HV.out b) (by have := HL.out; omega) 2 xc)
    go_wp2_with fail
    refine HC1.out.mono ?_
    rintro e w2 ⟨rfl, hg2⟩
    have c1 : w2.cell? ⟨bx, 1, none⟩ = some (.int .i64 xc) := hg2.keep.cell_of q1 (by rw [HFB.out]; simp)
    obtain ⟨τ2, hT2, hf2⟩ := hg2.ex
    have HC2 := Lib.hid (tell_any hT2 (by rw [tellEach_events]; have := HL.out; omega) t 3 xc)
    have HK2 := Lib.hid hg2.keep
    have HF2 := Lib.hid hf2
    clear q0 q1 hg2 hT2 hf2
    go_wp2_with fail
    refine HC2.out.mono ?_
    rintro e w3 ⟨rfl, hg3⟩
    have HG3 := Lib.hid ((hg3.trans HK2.out HF2.out).first HK.out)
    clear hg3 c1
    go_wp2_with fail
    go_end0
    exact ⟨rfl, HG3.out⟩
  · obtain rfl := MZ.out h40 h3 hk0 hn0
    have g1 : ¬ (0 : Int) < (n : Int) := by omega
    clear M40 M3 MK MW MZ h40 h3 hk0
    have HC1 := Lib.hid (tell_any HT.out (by have := HL.out; omega) t 7 xc)
    go_wp2_with fail
    refine HC1.out.mono ?_
    rintro e w2 ⟨rfl, hg2⟩
    have HG2 := Lib.hid (hg2.first HK.out)
    clear hg2
    go_wp2_with fail
    go_end0
    exact ⟨rfl, HG2.out⟩
/-- How many numbers there are in each talk's channel. -/
def lensV (st : St) (l : List Tk) : List Int := l.map fun t => (lenV st t.chan).1
theorem info_elR : (Tryz.prog.info? 3).map (fun i => (i.zero, i.size, i.bytes)) = some (some (.int .i64 0), 1, 8) := by kernel_rfl
theorem make_intR (n : Nat) (h : n ≤ 1000000) (W : World) :
    (Instr.makeSlice 26 (.int .i64 n) (.int .i64 n)).run Tryz.prog W = .ok (.slice (some ⟨W.heap.size, 0, none⟩) n n) (W.alloc (.cells (madeCells #[.int .i64 0] n) 3)) := by
  obtain ⟨i0, hi, hz0, hz1, hz2⟩ := info_parts info_elR
  have := run_make (P := Tryz.prog) W 26 3 i0 (.int .i64 0) Tryz.underlying26 hi hz0 .i64 .i64 n n (by omega) (by omega) (by rw [hz2]; omega) (by omega)
  rw [this]
  simp only [Int.toNat_natCast, hz1, Nat.mul_one]
  rfl
theorem made_own (w : World) (n : Nat) (h : n ≤ 1000000) : OwnI (w.alloc (.cells (madeCells #[.int .i64 0] n) 3)) w.heap.size (.slice (some ⟨w.heap.size, 0, none⟩) n n) (List.replicate n 0) := by
  have e : (madeCells #[Value.int .i64 0] n).toList = List.replicate n (.int .i64 0) := by
    apply List.ext_getElem
    · simp [madeCells]
    · intro i h1 h2
      simp [madeCells, Nat.mod_one]
  have e2 : (madeCells #[Value.int .i64 0] n).size = n := by rw [← Array.length_toList, e, List.length_replicate]
  unfold OwnI
  rw [List.length_replicate, List.map_replicate]
  refine ⟨by simp, Or.inr ⟨w.heap.size, n, madeCells #[.int .i64 0] n, rfl, Nat.le_refl _, ?_, Nat.le_refl _, by unfold maxLen; omega, by rw [e2]; simp, ?_⟩⟩
  · show (w.heap.push _)[w.heap.size]? = _
    simp
  · rw [e]
    simp
theorem tail_set {xs : List Int} {k : Nat} (h : k < xs.length) (m : Nat) : ((xs.take k ++ List.replicate (m + 1) 0).set k (xs.getD k 0)) = xs.take (k + 1) ++ List.replicate m 0 := by
  have hl : (xs.take k).length = k := by rw [List.length_take]; omega
  rw [List.set_append_right _ _ (by omega), hl, Nat.sub_self, List.replicate_succ, List.set_cons_zero, List.take_add_one, List.getElem?_eq_getElem h, List.getD_eq_getElem?_getD, List.getElem?_eq_getElem h, List.append_assoc]
  rfl
set_option maxRecDepth 100000 in
set_option maxHeartbeats 6400000 in
theorem counts_any (h : RoomT w0 C w τ rb N s) {v : Value} {tl : List Tk} (ht : TalksAt w v tl) (hl : tl.length ≤ 100000) :
    Calls Tryz.prog 105 #[.pointer (some ⟨rb, 0, none⟩), v] w fun e w' => ∃ u, e = .returned u ∧ OwnI w' w.heap.size u (lensV s.pipes tl) ∧ Below w.heap.size w w' := by
  obtain ⟨ao, n, cap, rfl, hn, hc1, hc2, hx⟩ := ht
  unfold maxLen at hc2
  have HH := Lib.hid h
  have HX := Lib.hid hx
  have HN := Lib.hid hn
  have hn6 : n ≤ 100000 := by omega
  clear h hx hn
  have hmk := make_intR n (by omega) w
  have HO0 := Lib.hid (made_own w n (by omega))
  have hb0 : Below w.heap.size w (w.alloc (.cells (madeCells #[.int .i64 0] n) 3)) := (Below.refl _ w).alloc (Nat.le_refl _) _
  have HB0 := Lib.hid hb0
  clear hb0
  go_enter Tryz.func105, Tryz.ntmps105
  go_upto_region 2 with fail
  clear hmk
  generalize w.alloc (.cells (madeCells #[.int .i64 0] n) 3) = w1 at *
  generalize hcb : w.heap.size = cb at *
  have HCB := Lib.hid hcb
  clear hcb
  go_wp2_with fail
  go_loopw [13] (fun iv wr => ∃ k : Nat, k ≤ n ∧ iv = .int .i64 k ∧ OwnI wr cb (.slice (some ⟨cb, 0, none⟩) n n) ((lensV s.pipes tl).take k ++ List.replicate (n - k) 0) ∧ Below cb w wr) (fun iv _ => n - (intOf iv).toNat)
  case atStart => exact ⟨0, Nat.zero_le _, rfl, by rw [List.take_zero, List.nil_append, Nat.sub_zero]; exact HO0.out, HB0.out⟩
  case round =>
    obtain ⟨k, hk, rfl, hO, hB⟩ := hrel
    rename World => wr
    have HO := Lib.hid hO
    have HB := Lib.hid hB
    clear hO hB HO0 HB0
    by_cases hkn : k < n
    · obtain ⟨⟨xw, xc, xn⟩, hx⟩ : ∃ x, tl[k]? = some x := ⟨_, List.getElem?_eq_getElem (by rw [← HN.out]; exact hkn)⟩
      have hlv : (lensV s.pipes tl).getD k 0 = (lenV s.pipes xc).1 := by
        unfold lensV
        rw [List.getD_eq_getElem?_getD, List.getElem?_map, hx]; rfl
      have hll : (lensV s.pipes tl).length = n := by unfold lensV; rw [List.length_map, HN.out]
      obtain ⟨b, o, rfl, hbl, hcells⟩ := HX.out (by omega)
      obtain ⟨g0, g1, g2⟩ := hcells k _ hx
      simp only at g0 g1 g2
      have r0 := (HB.out.cell (p := ⟨b, o + k * 3, none⟩) hbl).trans g0
      have r1 := (HB.out.cell (p := ⟨b, o + k * 3 + 1, none⟩) hbl).trans g1
      have r2 := (HB.out.cell (p := ⟨b, o + k * 3 + 2, none⟩) hbl).trans g2
      have hkk : (0 : Int) ≤ (k : Int) ∧ (k : Int) < (n : Int) := by omega
      have HLV := Lib.hid hlv
      have HLL := Lib.hid hll
      clear hcells hx g0 g1 g2 hlv hll hbl
      go_upto_region 5 with fail
      have a1 : (wr.alloc (.cells #[.int .i64 xw, .int .i64 xc, .int .i64 xn] 132)).cell? ⟨wr.heap.size, 1, none⟩ = some (.int .i64 xc) := by rw [World.cell?_alloc_at _ _ _ _ rfl]; rfl
      have hka : Keeps (fun _ => False) wr (wr.alloc (.cells #[.int .i64 xw, .int .i64 xc, .int .i64 xn] 132)) := (Keeps.refl (fun _ => False) wr).alloc _
      have hOa := HO.out.keeps hka fun _ _ => id
      have hcbs : cb < wr.heap.size := (World.ownsRow.lt HO.out cb rfl).2
      have hBa : Below cb w (wr.alloc (.cells #[.int .i64 xw, .int .i64 xc, .int .i64 xn] 132)) := HB.out.alloc (by have := HB.out.size; rw [HCB.out] at this; omega) _
      clear r0 r1 r2 hka
      generalize wr.alloc (.cells #[.int .i64 xw, .int .i64 xc, .int .i64 xn] 132) = wq at *
      generalize htb : wr.heap.size = tb at *
      have hct : cb ≠ tb := by omega
      have HLEN : Hid (Calls Tryz.prog 134 #[.pointer (some ⟨rb, 8, none⟩), .int .i64 xc] wq.drew fun e w' => e = .returned (.tuple #[.int .i64 (lenV s.pipes xc).1, errV (lenV s.pipes xc).2]) ∧ wq.drew = w') :=
        Lib.hid (roomlen_any ((HH.out.new (w' := wq) (Keeps.of_new (by rw [HCB.out]; exact hBa))).new (keeps_drew0 _)) xc)
      obtain ⟨p1, hp1⟩ : ∃ p1, p1 = (lenV s.pipes xc).1 := ⟨_, rfl⟩
      obtain ⟨p2, hp2⟩ : ∃ p2, p2 = (lenV s.pipes xc).2 := ⟨_, rfl⟩
      rw [← hp1, ← hp2] at HLEN
      rw [← hp1] at HLV
      have hrow : wq.drew.ownsRow cb 3 1 (.slice (some ⟨cb, 0, none⟩) n n) n (((lensV s.pipes tl).take k ++ List.replicate (n - k) 0).map (.int .i64)) := by
        have h5 := hOa
        unfold OwnI at h5
        have h6 : ((lensV s.pipes tl).take k ++ List.replicate (n - k) (0 : Int)).length = n := by
          rw [List.length_append, List.length_take, HLL.out, List.length_replicate]; omega
        rw [h6] at h5
        exact (keeps_drew0 wq).row h5 fun _ _ => id
      have hcell : wq.cell? ⟨cb, k, none⟩ = some (.int .i64 (((lensV s.pipes tl).take k ++ List.replicate (n - k) 0).getD k 0)) := by
        have h5 := World.ownsRow.cells hrow (g := cb) rfl k _ (ints_at (by rw [List.length_append, List.length_take, HLL.out, List.length_replicate]; omega))
        rw [addr_addP, Nat.zero_add] at h5
        exact h5
      have hfz : wq.frozen? ⟨cb, k, none⟩ = false := by
        rcases hrow.2 with ⟨q, _⟩ | ⟨g, c9, cur, q, _, hg9, _⟩
        · cases q
        · cases q
          exact frozen_of_row wq.drew _ _ _ _ hg9
      have hS3 : (wq.drew.setCell ⟨cb, k, none⟩ (.int .i64 p1)).cell? ⟨tb, 1, none⟩ = some (.int .i64 xc) := by
        rw [World.cell?_setCell_other _ _ _ _ (by intro e; injection e with e; exact hct e)]; exact a1
      have hJ : OwnI (wq.drew.setCell ⟨cb, k, none⟩ (.int .i64 p1)) cb (.slice (some ⟨cb, 0, none⟩) n n) ((lensV s.pipes tl).take (k + 1) ++ List.replicate (n - (k + 1)) 0) := by
        have h5 := own_setG (off := k) hrow (.int .i64 p1)
        rw [← List.map_set] at h5
        have h6 := tail_set (xs := lensV s.pipes tl) (k := k) (by rw [HLL.out]; exact hkn) (n - (k + 1))
        rw [show n - (k + 1) + 1 = n - k by omega, HLV.out] at h6
        rw [h6] at h5
        unfold OwnI
        rw [show ((lensV s.pipes tl).take (k + 1) ++ List.replicate (n - (k + 1)) (0 : Int)).length = n by rw [List.length_append, List.length_take, HLL.out, List.length_replicate]; omega]
        exact h5
      have hB2 : Below cb w (wq.drew.setCell ⟨cb, k, none⟩ (.int .i64 p1)) := hBa.trans ((((Keeps.refl (fun b => b = cb) wq).drew).setCell (p := ⟨cb, k, none⟩) (Or.inl rfl) _).below (by have := hBa.size; rw [HCB.out] at this; exact this) fun b _ e => by omega)
      have HJ := Lib.hid hJ
      have HB2 := Lib.hid hB2
      clear hJ hB2 hrow hOa hBa htb hp1 hp2
      refine wp_region_noPanic ?_
      refine wp_region_held_drew (S := (fun W : World => W.cell? ⟨tb, 1, none⟩ = some (.int .i64 xc))) (by kernel_rfl) (by simp only [World.cell?_drew]; exact a1) (fun hHeld => ?_)
      refine wpAnyH_take (i := 0) (oi := { dst := some 19, op := _, type := _, pos := _, after := _, guard := _ }) (v := .slice (some ⟨cb, 0, none⟩) n n) rfl (by kernel_rfl) (by kernel_rfl) (by kernel_rfl) (fun _ _ _ h => h) (Or.inl ⟨by rfl, ?_⟩) hHeld ?_
      · intro W9 hSW
        (try dsimp only at hSW)
        go_simp
      try simp only [Act.put, List.setIfInBounds_toArray, List.set_cons_zero, List.set_cons_succ]
      refine wpAnyH_take (i := 1) (oi := { dst := some 20, op := _, type := _, pos := _, after := _, guard := _ }) (v := .int .i64 k) rfl (by kernel_rfl) (by kernel_rfl) (by kernel_rfl) (fun _ _ _ h => h) (Or.inl ⟨by rfl, ?_⟩) hHeld ?_
      · intro W9 hSW
        (try dsimp only at hSW)
        go_simp
      try simp only [Act.put, List.setIfInBounds_toArray, List.set_cons_zero, List.set_cons_succ]
      refine wpAnyH_take (i := 2) (oi := { dst := some 21, op := _, type := _, pos := _, after := _, guard := _ }) (v := .pointer (some ⟨rb, 0, none⟩)) rfl (by kernel_rfl) (by kernel_rfl) (by kernel_rfl) (fun _ _ _ h => h) (Or.inl ⟨by rfl, ?_⟩) hHeld ?_
      · intro W9 hSW
        (try dsimp only at hSW)
        go_simp
      try simp only [Act.put, List.setIfInBounds_toArray, List.set_cons_zero, List.set_cons_succ]
      refine wpAnyH_take (i := 3) (oi := { dst := some 22, op := _, type := _, pos := _, after := _, guard := _ }) (v := .pointer (some ⟨rb, 0, none⟩)) rfl (by kernel_rfl) (by kernel_rfl) (by kernel_rfl) (fun _ _ _ h => h) (Or.inl ⟨by rfl, ?_⟩) hHeld ?_
      · intro W9 hSW
        (try dsimp only at hSW)
        go_simp
      try simp only [Act.put, List.setIfInBounds_toArray, List.set_cons_zero, List.set_cons_succ]
      refine wpAnyH_take (i := 4) (oi := { dst := some 23, op := _, type := _, pos := _, after := _, guard := _ }) (v := .pointer (some ⟨rb, 8, none⟩)) rfl (by kernel_rfl) (by kernel_rfl) (by kernel_rfl) (fun _ _ _ h => h) (Or.inl ⟨by rfl, ?_⟩) hHeld ?_
      · intro W9 hSW
        (try dsimp only at hSW)
        go_simp
      try simp only [Act.put, List.setIfInBounds_toArray, List.set_cons_zero, List.set_cons_succ]
      refine wpAnyH_take (i := 5) (oi := { dst := some 24, op := _, type := _, pos := _, after := _, guard := _ }) (v := .pointer (some ⟨tb, 1, none⟩)) rfl (by kernel_rfl) (by kernel_rfl) (by kernel_rfl) (fun _ _ _ h => h) (Or.inl ⟨by rfl, ?_⟩) hHeld ?_
      · intro W9 hSW
        (try dsimp only at hSW)
        go_simp
      try simp only [Act.put, List.setIfInBounds_toArray, List.set_cons_zero, List.set_cons_succ]
      refine wpAnyH_take (i := 6) (oi := { dst := some 25, op := _, type := _, pos := _, after := _, guard := _ }) (v := .int .i64 xc) rfl (by kernel_rfl) (by kernel_rfl) (by kernel_rfl) (fun _ _ _ h => h) (Or.inl ⟨by rfl, ?_⟩) hHeld ?_
      · intro W9 hSW
        (try dsimp only at hSW)
        go_simp
      try simp only [Act.put, List.setIfInBounds_toArray, List.set_cons_zero, List.set_cons_succ]
      refine wpAnyH_ready (rs := [7]) (by kernel_rfl) (by simp) ?_
      refine AllReadyH.cons (o := { dst := some 26, op := _, type := _, pos := _, after := _, guard := _ }) rfl (fun K hK => ?_) AllReadyH.nil
      go_simp
      refine HLEN.out.mono ?_
      rintro e w5 ⟨rfl, rfl⟩
      refine hK.out _ _ hHeld (fun hHeld => ?_)
      clear hK K
      refine wpAnyH_take (i := 8) (oi := { dst := some 18, op := _, type := _, pos := _, after := _, guard := _ }) (v := .tuple #[.int .i64 p1, errV p2]) rfl (by kernel_rfl) (by kernel_rfl) (by kernel_rfl) (fun _ _ _ h => h) (Or.inl ⟨by rfl, ?_⟩) hHeld ?_
      · intro W9 hSW
        (try dsimp only at hSW)
        go_simp
      try simp only [Act.put, List.setIfInBounds_toArray, List.set_cons_zero, List.set_cons_succ]
      refine wpAnyH_take (i := 9) (oi := { dst := some 27, op := _, type := _, pos := _, after := _, guard := _ }) (v := .int .i64 p1) rfl (by kernel_rfl) (by kernel_rfl) (by kernel_rfl) (fun _ _ _ h => h) (Or.inl ⟨by rfl, ?_⟩) hHeld ?_
      · intro W9 hSW
        (try dsimp only at hSW)
        go_simp
      try simp only [Act.put, List.setIfInBounds_toArray, List.set_cons_zero, List.set_cons_succ]
      refine wpAnyH_take (i := 10) (oi := { dst := some 28, op := _, type := _, pos := _, after := _, guard := _ }) (v := errV p2) rfl (by kernel_rfl) (by kernel_rfl) (by kernel_rfl) (fun _ _ _ h => h) (Or.inl ⟨by rfl, ?_⟩) hHeld ?_
      · intro W9 hSW
        (try dsimp only at hSW)
        go_simp
      try simp only [Act.put, List.setIfInBounds_toArray, List.set_cons_zero, List.set_cons_succ]
      refine wpAnyH_take (i := 11) (oi := { dst := some 29, op := _, type := _, pos := _, after := _, guard := _ }) (v := .pointer (some ⟨cb, k, none⟩)) rfl (by kernel_rfl) (by kernel_rfl) (by kernel_rfl) (fun _ _ _ h => h) (Or.inl ⟨by rfl, ?_⟩) hHeld ?_
      · intro W9 hSW
        (try dsimp only at hSW)
        go_simp
      try simp only [Act.put, List.setIfInBounds_toArray, List.set_cons_zero, List.set_cons_succ]
      refine wpAnyH_ready (rs := [12]) (by kernel_rfl) (by simp) ?_
      refine AllReadyH.cons (o := { dst := none, op := _, type := _, pos := _, after := _, guard := _ }) rfl (fun K hK => ?_) AllReadyH.nil
      go_simp
      refine hK.out _ _ hS3 (fun hHeld => ?_)
      clear hK K
      refine wpAnyH_done (by kernel_rfl) ?_ _
      refine NoPanic.normal ?_
      clear a1 hcell hfz hS3 hHeld
      go_wp2_with fail
      go_roundw
      case rel => exact ⟨k + 1, by omega, by go_num, HJ.out, HB2.out⟩
      case measure => simp [intOf]; omega
    · obtain rfl : k = n := by omega
      have hkk : ¬ (k : Int) < (k : Int) := by omega
      go_wp2_with fail
      go_ret
      refine ⟨_, rfl, ?_, ?_⟩
      · have h5 := HO.out
        rw [Nat.sub_self, List.replicate_zero, List.append_nil] at h5
        have h6 : (lensV s.pipes tl).take k = lensV s.pipes tl := by rw [HN.out]; unfold lensV; rw [← List.map_take, List.take_length]
        rw [h6] at h5
        rw [HCB.out]
        exact h5
      · rw [HCB.out]; exact HB.out
end
end Go.Proofs.YtnjdmijcoadidaaGreatDoor
