/-
  The walks of the queue's Push and Pop.
-/
import Derived.Test.YtonpbbflloljgaaClockS
import Derived.Deep.RegionLaw
import Derived.Maps.AppendAt
namespace Go.Proofs.Ytonpbbflloljgaa
open Go.RowKit Go.Maps

/-- 'append(s, e)' on a row of the call's own, as one step of a region that draws. -/
theorem step_appendE {ops : Array Oper} {o : Oper} {a : Act} {w : World} {K : Act → World → Prop} {Q : Exit → Act → World → Prop} {E : Prop}
    (hg : o.guard = none) (s x : Operand) (hop : o.op = Op.call { callee := Callee.builtin Builtin.append, args := #[s, x], argTypes := #[25, 25] })
    (i : TypeInfo) (h2 : Try.prog.info? 51 = some i) (h3 : i.zero = some (.agg #[.int .i64 0, .int .i64 0])) (h4 : i.size = 2) (h5 : i.bytes = 16)
    (v : Value) (n : Nat) (xs : List Value) (hown : w.ownsRow 0 51 2 v n xs) (hn : n ≤ 1000)
    (ad : Addr) (x1 x2 : Int) (hc : ∀ j u, [Value.int .i64 x1, Value.int .i64 x2][j]? = some u → w.cell? (ad.add j) = some u)
    (hs : a.eval s = v) (hx : a.eval x = .slice (some ad) 1 1)
    (hK : ∀ ao' cap' w', w'.ownsRow 0 51 2 (.slice ao' (n + 1) cap') (n + 1) (xs ++ [Value.int .i64 x1, Value.int .i64 x2]) → w.grownBy w' v.ownBlock →
      (∀ k, (Value.slice ao' (n + 1) cap').ownBlock = some k → v.ownBlock = some k ∨ w.heap.size ≤ k) → K (a.put o.dst (.slice ao' (n + 1) cap')) w') :
    if Region.wanted o (yielded ops a.tmps) = true then Oper.wp Try.prog o a w K Q else E := by
  have hw : Region.wanted o (yielded ops a.tmps) = true := by simp [Region.wanted, hg]
  rw [if_pos hw]
  obtain ⟨v', w', hrun, r1, r2, _, r4⟩ := run_append_own_at (P := Try.prog) w 0 25 o.type 51 i (.agg #[.int .i64 0, .int .i64 0]) 2 16 Try.underlying25 h2 h3 h4 h5 rfl (by decide) v n xs hown ad 1 1 [.int .i64 x1, .int .i64 x2] rfl hc
    (fun u hu => by simp at hu; rcases hu with rfl | rfl <;> rfl) (by unfold maxLen; omega) (by omega) (Nat.zero_le _)
  have hv' : ∃ ao' cap', v' = .slice ao' (n + 1) cap' := by
    rcases r1.2 with ⟨_, h0⟩ | ⟨g, cap', cur, rfl, _⟩
    · omega
    · exact ⟨_, _, rfl⟩
  obtain ⟨ao', cap', rfl⟩ := hv'
  unfold Oper.wp
  simp [execOp, hop, resolve, invoke, builtin, hs, hx, hrun, Result.andThen]
  refine hK _ _ _ r1 r2 fun k hk => ?_
  rcases r4 with r4 | r4
  · exact Or.inl (r4 ▸ hk)
  · rw [r4] at hk; cases hk; exact Or.inr (Nat.le_refl _)

theorem QAt.pushed {w w' : World} {cb mb m : Nat} {v : Value} {ao' : Option Addr} {cap' : Nat} {l : List Hp.E} {D : DataW Unit} {a b : Int} (h : QAt w cb v mb l D) (hk : Keeps (fun b => v.ownBlock = some b) w w')
    (ho : w'.ownsRow 0 51 2 (.slice ao' m cap') (l.length + 1) (flatE l ++ [Value.int .i64 a, Value.int .i64 b])) (hne : (Value.slice ao' m cap').ownBlock ≠ some cb) :
    QAt (w'.setCell ⟨cb, 1, none⟩ (.slice ao' m cap')) cb (.slice ao' m cap') mb (l ++ [(a, b)]) D := by
  have hs : Keeps (fun b => b = cb) w' (w'.setCell ⟨cb, 1, none⟩ (.slice ao' m cap')) := (Keeps.refl (fun b : Nat => b = cb) w').setCell (S := fun b : Nat => b = cb) (p := ⟨cb, 1, none⟩) (Or.inl rfl) _
  have hc : ∀ o, (⟨cb, 1, none⟩ : Addr) ≠ ⟨cb, o + 2, none⟩ := fun o e => by injection e with _ e; omega
  refine ⟨World.cell?_setCell_same _ _ _ (hk.cell_of h.c0 h.ne), ?_, ?_, ?_, ?_, hs.map (hk.map h.map h.nev) h.nem, hne⟩
  · rw [World.cell?_setCell_other _ _ _ _ (hc 0)]; exact hk.cell_of h.c1 h.ne
  · rw [World.cell?_setCell_other _ _ _ _ (hc 1)]; exact hk.cell_of h.c2 h.ne
  · rw [World.frozen?_setCell, hk.frozen h.lt h.ne]; exact h.z0
  · rw [flatE_append, List.length_append]
    exact hs.row ho (fun k e e2 => hne (by rw [e, e2]))
theorem cell_two_new (w : World) (x y : Value) (t : TypeId) : ∀ j u, [x, y][j]? = some u → (w.alloc (.cells #[x, y] t)).cell? ((⟨w.heap.size, 0, none⟩ : Addr).add j) = some u := by
  intro j u hj
  match j, hj with
  | 0, hj => simp at hj; subst hj; simp [Addr.add]
  | 1, hj => simp at hj; subst hj; simp [Addr.add]

theorem info_entry : (Try.prog.info? 51).map (fun i => (i.zero, i.size, i.bytes)) = some (some (.agg #[.int .i64 0, .int .i64 0]), 2, 16) := by kernel_rfl
theorem entry_is (a b : Int) (w : World) : (Instr.typeAssert (.iface 51 (.agg #[.int .i64 a, .int .i64 b])) 20 51 true).run Try.prog w = .ok (.tuple #[.agg #[.int .i64 a, .int .i64 b], .bool true]) w := by kernel_rfl
theorem Pl.push {l : List Hp.E} {D : DataW Unit} (h : Pl l D) (hD : Tidy D) (a b : Int) (hn : ∀ i, i < l.length → (Hp.g l i).2 ≠ b) (hw : (Lit.int .i64 b).wf = true) (hl : l.length < 1000) : Pl (l ++ [(a, b)]) (D.put (.int .i64 b) (.lit (.int .i64 (l.length : Int)))) := by
  have g1 : ∀ k, k < l.length → Hp.g (l ++ [(a, b)]) k = Hp.g l k := fun k hk => by rw [Hp.g_eq hk, Hp.g_eq (by simp; omega), List.getElem_append_left hk]
  have g2 : Hp.g (l ++ [(a, b)]) l.length = (a, b) := by rw [Hp.g_eq (by simp), List.getElem_append_right (Nat.le_refl _)]; simp
  have hb : Maps.has D (.int .i64 b) = false := by
    cases hh : Maps.has D (.int .i64 b) with
    | false => rfl
    | true => obtain ⟨i, hi, e⟩ := (h.has b).1 hh; exact absurd e (hn i hi)
  refine ⟨fun id => ?_, fun k hk => ?_, fun k hk => ?_, by simp; omega, ?_⟩
  · rw [has_put hD, h.has]
    constructor
    · rintro (rfl | ⟨k, hk, rfl⟩)
      · exact ⟨l.length, by simp, by rw [g2]⟩
      · exact ⟨k, by simp; omega, by rw [g1 k hk]⟩
    · rintro ⟨k, hk, rfl⟩
      by_cases e : k < l.length
      · exact Or.inr ⟨k, e, by rw [g1 k e]⟩
      · obtain rfl : k = l.length := by simp at hk; omega
        exact Or.inl (by rw [g2])
  · rw [at_put hD]
    by_cases e : k < l.length
    · rw [g1 k e, if_neg (hn k e)]; exact h.place k e
    · obtain rfl : k = l.length := by simp at hk; omega
      rw [g2, if_pos rfl]
  · by_cases e : k < l.length
    · rw [g1 k e]; exact h.wf k e
    · obtain rfl : k = l.length := by simp at hk; omega
      rw [g2]; exact hw
  · rw [size_put hD, if_neg (by rw [hb]; simp), h.size]; simp

set_option maxRecDepth 100000 in
set_option maxHeartbeats 3200000 in
theorem qpush_any {cb mb : Nat} {v : Value} {l : List Hp.E} {D : DataW Unit} (w : World) (h : QAt w cb v mb l D) (hp : Pl l D) (a b : Int) (hn : ∀ i, i < l.length → (Hp.g l i).2 ≠ b) (hw : (Lit.int .i64 b).wf = true) (hl : l.length < 1000) :
    Calls Try.prog 62 #[.pointer (some ⟨cb, 1, none⟩), .iface 51 (.agg #[.int .i64 a, .int .i64 b])] w fun e w' => e = .returned (.tuple #[]) ∧ ∃ v' D', QAt w' cb v' mb (l ++ [(a, b)]) D' ∧ Pl (l ++ [(a, b)]) D' ∧ KQ cb mb v w w' ∧
      (∀ k, v'.ownBlock = some k → v.ownBlock = some k ∨ w.heap.size ≤ k) := by
  have HH := Lib.hid h
  have HP := Lib.hid hp
  have HT : Hid (Tidy D) := Lib.hid (h.map.tidy keyedI)
  have HPS := Lib.hid (hp.push HT.out a b hn hw hl)
  have HW := Lib.hid hw
  obtain ⟨i0, hi, hz0, hz1, hz2⟩ := info_parts info_entry
  have hz0' : i0.zero = some (.agg #[.int .i64 0, .int .i64 0]) := hz0
  have hea := entry_is a b
  have hlt := h.lt
  obtain ⟨ao, cap, rfl, -⟩ := h.slice
  have H1 := Lib.hid (h.next ((Below.refl _ w).alloc (Nat.le_refl _) (.cells #[.int .i64 a, .int .i64 b] 51)))
  have c0 := H1.out.c0
  have c1 := H1.out.c1
  clear h hp hn hw hz0
  go_enter Try.func62, Try.ntmps62
  go_wp2_with fail
  have hx0 : (w.alloc (.cells #[.int .i64 a, .int .i64 b] 51)).cell? ⟨w.heap.size, 0, none⟩ = some (.int .i64 a) := by simp
  have hx1 : (w.alloc (.cells #[.int .i64 a, .int .i64 b] 51)).cell? ⟨w.heap.size, 1, none⟩ = some (.int .i64 b) := by simp
  have hs0 : (w.alloc (.cells #[.int .i64 a, .int .i64 b] 51)).heap.size = w.heap.size + 1 := by simp
  have HK0 : Hid (Keeps (fun b => b = mb ∨ (Value.slice ao l.length cap).ownBlock = some b) w (w.alloc (.cells #[.int .i64 a, .int .i64 b] 51))) := Lib.hid ((Keeps.refl _ w).alloc _)
  have hs0' : w.heap.size < (w.alloc (.cells #[.int .i64 a, .int .i64 b] 51)).heap.size := by omega
  clear hs0
  generalize w.alloc (.cells #[.int .i64 a, .int .i64 b] 51) = W0 at *
  have HX0 := Lib.hid hx0
  have HX1 := Lib.hid hx1
  go_still_tail 11, (by kernel_rfl)
  change wpList _ _ _ _ _ W0.drew
  clear hx0 hx1 c0 c1
  have hlen : l.length ≤ 1000 := by omega
  have hnm : w.heap.size ≠ mb := fun e => by
    obtain ⟨es, ck, k1, _⟩ := H1.out.map
    have := HX0.out
    rw [e] at this
    simp [World.cell?, k1] at this
  have HNM := Lib.hid hnm
  have HKM : Hid (∀ W2 : World, W0.drew.grownBy W2 (some mb) → Keeps (fun b => b = mb) W0 W2) := Lib.hid fun W2 hg => Keeps.of_grownBy (undrewG hg) fun k _ e => by cases e; rfl
  have HQ2F : Hid (∀ W2 : World, W2.ownsMap Try.prog 3 (plainElem Try.prog 3) mb (1000000 + 1) (D.put (.int .i64 b) (.lit (.int .i64 (l.length : Int)))) → W0.drew.grownBy W2 (some mb) → QAt W2 cb (.slice ao l.length cap) mb l (D.put (.int .i64 b) (.lit (.int .i64 (l.length : Int))))) := Lib.hid fun W2 ho hg =>
    H1.out.putMap (ownsMap_fit ho (by have := HPS.out.size; rw [this]; simp; omega)) (undrewG hg)
  go_wp2_with (at_mapUpdate; refine wpList_mapUpdate_own _ rfl _ _ _ 26 rfl 3 3 keyedI Try.underlying26 _ mb 1000000 D rfl H1.out.map (by unfold maxLen; omega) _ _ _ rfl rfl (keyOf_int_mk Try.underlying3 HW.out) _ [] (plainElem_int Try.underlying3 (WalkArith.wf_i64 (by omega))) ?_; intro w2 hown2 hgrow2)
  have hk2 := HKM.out _ hgrow2
  have HQ2 := Lib.hid (HQ2F.out _ hown2 hgrow2)
  have c0 := HQ2.out.c0
  have z0 := HQ2.out.z0
  have hx0 : w2.cell? ⟨w.heap.size, 0, none⟩ = some (.int .i64 a) := hk2.cell_of HX0.out HNM.out
  have hx1 : w2.cell? ⟨w.heap.size, 1, none⟩ = some (.int .i64 b) := hk2.cell_of HX1.out HNM.out
  have HK2 := Lib.hid hk2
  clear hown2 hgrow2 hk2
  have HOWN : Hid ((w2.alloc (.cells #[.int .i64 a, .int .i64 b] 51)).drew.ownsRow 0 51 2 (.slice ao l.length cap) l.length (flatE l)) := Lib.hid (World.ownsRow.alloc HQ2.out.own _)
  have HC : Hid (∀ j u, [Value.int .i64 a, Value.int .i64 b][j]? = some u → (w2.alloc (.cells #[.int .i64 a, .int .i64 b] 51)).drew.cell? ((⟨w2.heap.size, 0, none⟩ : Addr).add j) = some u) := Lib.hid (cell_two_new w2 (.int .i64 a) (.int .i64 b) 51)
  have HKP : Hid (∀ w3 : World, (w2.alloc (.cells #[.int .i64 a, .int .i64 b] 51)).drew.grownBy w3 (Value.slice ao l.length cap).ownBlock → Keeps (fun b => (Value.slice ao l.length cap).ownBlock = some b) w2 w3) := Lib.hid fun w3 hg =>
    ((Keeps.refl (fun b => (Value.slice ao l.length cap).ownBlock = some b) w2).alloc (.cells #[.int .i64 a, .int .i64 b] 51)).trans' (Keeps.of_grownBy (undrewG hg) fun k _ e => e) fun _ _ e => e
  have HFZ : Hid (∀ w3 : World, Keeps (fun b => (Value.slice ao l.length cap).ownBlock = some b) w2 w3 → w3.cell? ⟨cb, 1, none⟩ = some (.slice ao l.length cap) ∧ w3.frozen? ⟨cb, 1, none⟩ = false) := Lib.hid fun w3 hk =>
    ⟨hk.cell_of HQ2.out.c0 HQ2.out.ne, by rw [hk.frozen (p := ⟨cb, 1, none⟩) HQ2.out.lt HQ2.out.ne]; exact HQ2.out.z0⟩
  have HSZ : Hid (w.heap.size ≤ w2.heap.size) := Lib.hid (Nat.le_trans HK0.out.size HK2.out.size)
  have HSZ2 : Hid ((w2.alloc (.cells #[.int .i64 a, .int .i64 b] 51)).drew.heap.size = w2.heap.size + 1) := Lib.hid (by simp)
  have hcb2 : cb < w2.heap.size := HQ2.out.lt
  have hcb3 : cb ≠ w2.heap.size := Nat.ne_of_lt hcb2
  have c0a : (w2.alloc (.cells #[.int .i64 a, .int .i64 b] 51)).cell? ⟨cb, 1, none⟩ = some (.slice ao l.length cap) := by rw [World.cell?_alloc_lt _ _ _ hcb2]; exact c0
  go_region_law (refine step_appendE rfl (.tmp 27) (.tmp 29) rfl i0 hi hz0' hz1 hz2 (.slice ao l.length cap) l.length (flatE l) HOWN.out hlen ⟨w2.heap.size, 0, none⟩ a b HC.out (by simp [Act.eval]) (by simp [Act.eval]) ?_; intro ao' cap' w3 hown3 hgrow3 hnew3; have hk3 := HKP.out _ hgrow3; obtain ⟨c03, z03⟩ := HFZ.out _ hk3; have HK3 := Lib.hid hk3; have HO3 := Lib.hid hown3; have HN3 := Lib.hid hnew3; clear hk3 hown3 hgrow3 hnew3)
  all_goals
    go_end0
    have hnew : ∀ k, (Value.slice ao' (l.length + 1) cap').ownBlock = some k → (Value.slice ao l.length cap).ownBlock = some k ∨ w2.heap.size ≤ k := fun k hk => by
      rcases HN3.out k hk with e | e
      · exact Or.inl e
      · rw [HSZ2.out] at e; exact Or.inr (by omega)
    have hcb : (Value.slice ao' (l.length + 1) cap').ownBlock ≠ some cb := fun e => by
      rcases hnew _ e with e2 | e2
      · exact HQ2.out.ne e2
      · have := HQ2.out.lt; omega
    refine ⟨rfl, _, _, HQ2.out.pushed HK3.out HO3.out hcb, HPS.out, ?_, fun k hk => ?_⟩
    · exact (KQ.rows ((HK0.out.trans (HK2.out.mono fun b _ e => Or.inl e)).trans (HK3.out.mono fun b _ e => Or.inr e)) HH.out.lt HH.out.nem HH.out.ne).set1 _
    · rcases hnew k hk with e | e
      · exact Or.inl e
      · exact Or.inr (Nat.le_trans HSZ.out e)
end Go.Proofs.Ytonpbbflloljgaa
