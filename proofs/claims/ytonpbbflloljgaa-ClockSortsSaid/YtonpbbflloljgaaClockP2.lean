/-
  The walk of the queue's Pop.
-/
import Derived.Test.YtonpbbflloljgaaClockP
import Derived.Maps.OwnSet
namespace Go.Proofs.Ytonpbbflloljgaa
open Go.RowKit Go.Maps

theorem has_del {D : DataW Unit} (a id : Int) : Maps.has (D.del (.int .i64 a)) (.int .i64 id) = true ↔ id ≠ a ∧ Maps.has D (.int .i64 id) = true := by
  by_cases e : id = a
  · subst e
    rw [has_del_same]
    simp
  · rw [has_del_other (lit_ne e)]
    simp [e]
theorem Pl.pop {l : List Hp.E} {D : DataW Unit} (h : Pl l D) (hD : Tidy D) {n : Nat} (hn : n + 1 = l.length) : Pl (l.take n) (D.del (.int .i64 (Hp.g l n).2)) := by
  have hl : (l.take n).length = n := by rw [List.length_take]; omega
  have hg : ∀ k, k < n → Hp.g (l.take n) k = Hp.g l k := fun k hk => Hp.g_take hk
  have hap : ∀ k, k < n → (Hp.g l k).2 ≠ (Hp.g l n).2 := fun k hk e => by have := h.inj (i := k) (j := n) (by omega) (by omega) e; omega
  refine ⟨fun id => ?_, fun k hk => ?_, fun k hk => ?_, by rw [hl]; have := h.len; omega, ?_⟩
  · rw [has_del, h.has, hl]
    constructor
    · rintro ⟨hne, k, hk, rfl⟩
      have : k ≠ n := fun e => hne (by rw [e])
      exact ⟨k, by omega, by rw [hg k (by omega)]⟩
    · rintro ⟨k, hk, rfl⟩
      rw [hg k hk]
      exact ⟨hap k hk, k, by omega, rfl⟩
  · rw [hl] at hk
    rw [hg k hk, atKey_del_other (lit_ne (hap k hk))]
    exact h.place k (by omega)
  · rw [hl] at hk
    rw [hg k hk]; exact h.wf k (by omega)
  · have := size_del (k := .int .i64 (Hp.g l n).2) hD
    rw [if_pos ((h.has _).2 ⟨n, by omega, rfl⟩), h.size] at this
    omega

theorem QAt.cut {w : World} {cb mb eb n cap : Nat} {l : List Hp.E} {D : DataW Unit} (h : QAt w cb (.slice (some ⟨eb, 0, none⟩) l.length cap) mb l D) (hn : n + 1 = l.length) :
    QAt (w.setCell ⟨cb, 1, none⟩ (.slice (some ⟨eb, 0, none⟩) n cap)) cb (.slice (some ⟨eb, 0, none⟩) n cap) mb (l.take n) D := by
  have hs : Keeps (fun b => b = cb) w (w.setCell ⟨cb, 1, none⟩ (.slice (some ⟨eb, 0, none⟩) n cap)) := (Keeps.refl (fun b : Nat => b = cb) w).setCell (S := fun b : Nat => b = cb) (p := ⟨cb, 1, none⟩) (Or.inl rfl) _
  have hc : ∀ o, (⟨cb, 1, none⟩ : Addr) ≠ ⟨cb, o + 2, none⟩ := fun o e => by injection e with _ e; omega
  have hne : (Value.slice (some ⟨eb, 0, none⟩) n cap).ownBlock ≠ some cb := fun e => h.ne e
  have hl : (l.take n).length = n := by rw [List.length_take]; omega
  refine ⟨World.cell?_setCell_same _ _ _ h.c0, ?_, ?_, ?_, ?_, hs.map h.map h.nem, hne⟩
  · rw [World.cell?_setCell_other _ _ _ _ (hc 0)]; exact h.c1
  · rw [World.cell?_setCell_other _ _ _ _ (hc 1)]; exact h.c2
  · rw [World.frozen?_setCell]; exact h.z0
  · refine hs.row (v := .slice (some ⟨eb, 0, none⟩) n cap) ?_ (fun k e e2 => hne (by rw [e, e2]))
    obtain ⟨h1, h2⟩ := h.own
    rcases h2 with ⟨h2, _⟩ | ⟨g, cap', cur, e, h3, h4, h5, h6, h7, h8⟩
    · cases h2
    · cases e
      refine ⟨by rw [flatE_length], Or.inr ⟨eb, cap, cur, by rw [hl], h3, h4, by omega, h6, h7, ?_⟩⟩
      rw [hl]
      have ht : flatE (l.take n) = (flatE l).take (n * 2) := by
        conv => rhs; rw [← List.take_append_drop n l, flatE_append]
        rw [List.take_left' (by rw [flatE_length, hl])]
      rw [ht, ← h8, List.take_take]
      congr 1
      omega

set_option maxRecDepth 100000 in
set_option maxHeartbeats 3200000 in
theorem qpop_any {cb mb : Nat} {v : Value} {l : List Hp.E} {D : DataW Unit} (w : World) (h : QAt w cb v mb l D) (hp : Pl l D) (n : Nat) (hn : n + 1 = l.length) :
    Calls Try.prog 61 #[.pointer (some ⟨cb, 1, none⟩)] w fun e w' => (∃ x, e = .returned x) ∧ ∃ v' D', QAt w' cb v' mb (l.take n) D' ∧ Pl (l.take n) D' ∧ KQ cb mb v w w' ∧ v'.ownBlock = v.ownBlock := by
  have HH := Lib.hid h
  have HP := Lib.hid hp
  have HN := Lib.hid hn
  have HT : Hid (Tidy D) := Lib.hid (h.map.tidy keyedI)
  have HPS := Lib.hid (hp.pop HT.out hn)
  have HW := Lib.hid (hp.wf n (by omega))
  have hlen := hp.len
  obtain ⟨ao, cap, rfl, hao⟩ := h.slice
  obtain ⟨eb, rfl⟩ := hao (by omega)
  have hle : l.length ≤ cap := by
    rcases h.own.2 with ⟨h0, _⟩ | ⟨g, cap', cur, e, _, _, h3, _⟩
    · cases h0
    · cases e; exact h3
  have c0 := h.c0
  have z0 := h.z0
  have hlt := h.lt
  obtain ⟨p1, p2⟩ := h.cells n (by omega)
  have hni : (0 : Int) ≤ (n : Int) ∧ (n : Int) < (l.length : Int) := by omega
  have e1 : (l.length : Int) - 1 = (n : Int) := by omega
  generalize hae : Hp.g l n = a at *
  have HA := Lib.hid hae
  obtain ⟨a1, a2⟩ := a
  have heb : eb < w.heap.size := block_lt_of_cell p1
  clear h hp hao hae hn
  go_enter Try.func61, Try.ntmps61
  go_wp2_with fail
  have HQ2 : Hid (QAt ((w.setCell ⟨cb, 1, none⟩ (.slice (some ⟨eb, 0, none⟩) n cap)).alloc (.cells #[.int .i64 a1, .int .i64 a2] 51)) cb (.slice (some ⟨eb, 0, none⟩) n cap) mb (l.take n) D) :=
    Lib.hid ((HH.out.cut HN.out).next ((Below.refl _ _).alloc (Nat.le_refl _) _))
  have HK2 : Hid (KQ cb mb (.slice (some ⟨eb, 0, none⟩) l.length cap) w ((w.setCell ⟨cb, 1, none⟩ (.slice (some ⟨eb, 0, none⟩) n cap)).alloc (.cells #[.int .i64 a1, .int .i64 a2] 51))) :=
    Lib.hid (((KQ.refl cb mb (.slice (some ⟨eb, 0, none⟩) l.length cap) w).set1 _).alloc (by simpa using hlt) _)
  have hx0 : ((w.setCell ⟨cb, 1, none⟩ (.slice (some ⟨eb, 0, none⟩) n cap)).alloc (.cells #[.int .i64 a1, .int .i64 a2] 51)).cell? ⟨w.heap.size, 0, none⟩ = some (.int .i64 a1) := by
    rw [World.cell?_alloc_at _ _ _ _ (by simp)]; rfl
  have hx1 : ((w.setCell ⟨cb, 1, none⟩ (.slice (some ⟨eb, 0, none⟩) n cap)).alloc (.cells #[.int .i64 a1, .int .i64 a2] 51)).cell? ⟨w.heap.size, 1, none⟩ = some (.int .i64 a2) := by
    rw [World.cell?_alloc_at _ _ _ _ (by simp)]; rfl
  clear c0 z0 p1 p2
  generalize (w.setCell ⟨cb, 1, none⟩ (.slice (some ⟨eb, 0, none⟩) n cap)).alloc (.cells #[.int .i64 a1, .int .i64 a2] 51) = W2 at *
  have c1 := HQ2.out.c1
  have hnm : w.heap.size ≠ mb := fun e => by
    obtain ⟨es, ck, k1, _⟩ := HQ2.out.map
    rw [e] at hx0
    simp [World.cell?, k1] at hx0
  have HX : Hid (∀ w3 : World, W2.drew.mapTurned w3 mb → w3.cell? ⟨w.heap.size, 0, none⟩ = some (.int .i64 a1) ∧ w3.cell? ⟨w.heap.size, 1, none⟩ = some (.int .i64 a2)) := Lib.hid fun w3 ht => by
    have hk : Keeps (fun b => b = mb) W2 w3 := Keeps.of_grownBy (undrewG ht.grown) fun k _ e => by cases e; rfl
    exact ⟨hk.cell_of hx0 hnm, hk.cell_of hx1 hnm⟩
  go_still_tail 6, (by kernel_rfl)
  change wpList _ _ _ _ _ W2.drew
  go_wp2_with (at_delete; refine wpList_delete_own _ rfl _ _ 26 3 rfl 3 keyedI Try.underlying26 _ mb 1000000 D rfl HQ2.out.map _ _ rfl (keyOf_int_mk Try.underlying3 HW.out) ?_; intro w3 hown3 hturn3; obtain ⟨hy0, hy1⟩ := HX.out _ hturn3)
  go_ret
  have hk3 : Keeps (fun b => b = mb) W2 w3 := Keeps.of_grownBy (undrewG hturn3.grown) fun k _ e => by cases e; rfl
  exact ⟨⟨_, rfl⟩, _, _, HQ2.out.putMap hown3 (undrewG hturn3.grown), HPS.out, HK2.out.trans (KQ.rows (hk3.mono fun b _ e => Or.inl e) HQ2.out.lt HQ2.out.nem HH.out.ne), rfl⟩
end Go.Proofs.Ytonpbbflloljgaa
