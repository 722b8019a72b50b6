/-
  The walks of package lex, fourth part: a token taken; an error told.
-/
import Derived.Test.YthkfdhglgonmnaaGreatDoorLexW3
import Derived.Deep.RegionLaw
import Derived.Maps.AppendAt
import Derived.StillTailTactics
namespace Go.Proofs.YthkfdhglgonmnaaGreatDoor
open Go.RowKit Lx Go.Maps

theorem tinfo {i : Option TypeInfo} {z : Value} {n m : Nat} (h : i.map (fun i => (i.zero, i.size, i.bytes)) = some (some z, n, m)) : ∃ i0, i = some i0 ∧ i0.zero = some z ∧ i0.size = n ∧ i0.bytes = m := by
  cases i with
  | none => cases h
  | some i0 =>
    simp only [Option.map_some, Option.some.injEq, Prod.mk.injEq] at h
    exact ⟨i0, rfl, h.1, h.2.1, h.2.2⟩
theorem info_token : (Tryz.prog.info? 35).map (fun i => (i.zero, i.size, i.bytes)) = some (some (.agg #[.int .i64 0, .string ByteArray.empty, .int .i64 0]), 3, 32) := by kernel_rfl
theorem cell_three_new (w : World) (x y z : Value) (t : TypeId) : ∀ j u, [x, y, z][j]? = some u → (w.alloc (.cells #[x, y, z] t)).cell? ((⟨w.heap.size, 0, none⟩ : Addr).add j) = some u := by
  intro j u hj
  match j, hj with
  | 0, hj => simp at hj; subst hj; simp [Addr.add]
  | 1, hj => simp at hj; subst hj; simp [Addr.add]
  | 2, hj => simp at hj; subst hj; simp [Addr.add]

/-- 'append(s, e)' on a row of the call's own tokens, as one step of a region that draws. -/
theorem step_appendT {ops : Array Oper} {o : Oper} {a : Act} {w : World} {K : Act → World → Prop} {Q : Exit → Act → World → Prop} {E : Prop}
    (hg : o.guard = none) (s x : Operand) (hop : o.op = Op.call { callee := Callee.builtin Builtin.append, args := #[s, x], argTypes := #[23, 23] })
    (i : TypeInfo) (h2 : Tryz.prog.info? 35 = some i) (h3 : i.zero = some (.agg #[.int .i64 0, .string ByteArray.empty, .int .i64 0])) (h4 : i.size = 3) (h5 : i.bytes = 32)
    (base : Nat) (v : Value) (n : Nat) (xs : List Value) (hown : w.ownsRow base 35 3 v n xs) (hn : n ≤ 10000) (hbase : base ≤ w.heap.size)
    (ad : Addr) (x1 x3 : Int) (x2 : ByteArray) (hc : ∀ j u, [Value.int .i64 x1, Value.string x2, Value.int .i64 x3][j]? = some u → w.cell? (ad.add j) = some u)
    (hs : a.eval s = v) (hx : a.eval x = .slice (some ad) 1 1)
    (hK : ∀ ao' cap' w', w'.ownsRow base 35 3 (.slice ao' (n + 1) cap') (n + 1) (xs ++ [Value.int .i64 x1, Value.string x2, Value.int .i64 x3]) → w.grownBy w' v.ownBlock → K (a.put o.dst (.slice ao' (n + 1) cap')) w') :
    if Region.wanted o (yielded ops a.tmps) = true then Oper.wp Tryz.prog o a w K Q else E := by
  have hw : Region.wanted o (yielded ops a.tmps) = true := by simp [Region.wanted, hg]
  rw [if_pos hw]
  obtain ⟨v', w', hrun, r1, r2, _, r4⟩ := run_append_own_at (P := Tryz.prog) w base 23 o.type 35 i (.agg #[.int .i64 0, .string ByteArray.empty, .int .i64 0]) 3 32 Tryz.underlying23 h2 h3 h4 h5 rfl (by decide) v n xs hown ad 1 1 [.int .i64 x1, .string x2, .int .i64 x3] rfl hc
    (fun u hu => by simp at hu; rcases hu with rfl | rfl | rfl <;> rfl) (by unfold maxLen; omega) (by omega) hbase
  have hv' : ∃ ao' cap', v' = .slice ao' (n + 1) cap' := by
    rcases r1.2 with ⟨_, h0⟩ | ⟨g, cap', cur, rfl, _⟩
    · omega
    · exact ⟨_, _, rfl⟩
  obtain ⟨ao', cap', rfl⟩ := hv'
  unfold Oper.wp
  simp [execOp, hop, resolve, invoke, builtin, hs, hx, hrun, Result.andThen]
  exact hK _ _ _ r1 r2

variable {w w' : World} {cb a : Nat} {s : ByteArray} {v : Value} {ts : List Tok}
theorem undrewG4 {w w' : World} {r : Option Nat} (h : w.drew.grownBy w' r) : w.grownBy w' r := ⟨h.os, h.tape, h.output, h.size, h.block⟩
/-- What a new token makes of the cutter. -/
theorem CutAt.pushed {w0 : World} {k at_ : Nat} {l : B} {v' : Value} (h : CutAt w0 cb s a v ts) (hk : Keeps (fun b => v.ownBlock = some b) w0 w')
    (ho : w'.ownsRow (cb + 1) 35 3 v' (ts.length + 1) (cellsT ts ++ [.int .i64 k, .string (mkT l), .int .i64 at_])) : CutAt (w'.setCell ⟨cb, 2, none⟩ v') cb s a v' (ts ++ [⟨k, l, at_⟩]) := by
  have hne := h.ownNe
  have hs : Keeps (fun b => b = cb) w' (w'.setCell ⟨cb, 2, none⟩ v') := (Keeps.refl (fun b : Nat => b = cb) w').setCell (S := fun b : Nat => b = cb) (p := ⟨cb, 2, none⟩) (Or.inl rfl) _
  have hv' : v'.ownBlock ≠ some cb := by
    rcases ho.2 with ⟨rfl, _⟩ | ⟨g, cap, cur, rfl, hb, _⟩
    · intro e; cases e
    · intro e
      simp only [Value.ownBlock, Option.some.injEq] at e
      omega
  refine ⟨?_, ?_, World.cell?_setCell_same _ _ _ (hk.cell_of h.c2 hne), ?_, ?_, ?_⟩
  · rw [World.cell?_setCell_other _ _ _ _ (off_neq (by decide) cb)]; exact hk.cell_of h.c0 hne
  · rw [World.cell?_setCell_other _ _ _ _ (off_neq (by decide) cb)]; exact hk.cell_of h.c1 hne
  · rw [World.frozen?_setCell, hk.frozen h.lt hne]; exact h.z1
  · rw [World.frozen?_setCell, hk.frozen h.lt hne]; exact h.z2
  · rw [List.length_append, ← cellsT_snoc]
    exact hs.row ho (fun k e e2 => hv' (by rw [e, e2]))

set_option maxRecDepth 100000 in
set_option maxHeartbeats 800000 in
theorem clone_any (t : ByteArray) (W : World) (hs : t.size ≤ 4000) : Calls Tryz.prog 94 #[.string t] W fun e w' => e = .returned (.string t) ∧ Below W.heap.size W w' := by
  go_enter Tryz.func94, Tryz.ntmps94
  go_wp2_with (go_at_call 121; refine (Tryz.stringslite_Clone t _ (by omega)).mono ?_; rintro e w1 ⟨rfl, hb1⟩)
  go_ret
  exact ⟨rfl, hb1⟩
set_option maxRecDepth 100000 in
set_option maxHeartbeats 3200000 in
theorem take_any (k n : Nat) (w : World) (h : CutAt w cb s a v ts) (ha : a + n ≤ s.size) (hs : s.size ≤ 4000) (hl : ts.length ≤ 5000) :
    Calls Tryz.prog 62 #[.pointer (some ⟨cb, 0, none⟩), .int .i64 k, .int .i64 n] w fun e w' => e = .returned (.tuple #[]) ∧ ∃ v', CutAt w' cb s (a + n) v' (ts ++ [⟨k, (rs s a).take n, a⟩]) ∧ Below cb w w' := by
  have H0 := Lib.hid h
  have c0 := h.c0
  have c1 := h.c1
  obtain ⟨i0, hi, hz0, hz1, hz2⟩ := tinfo info_token
  have he : (s.extract a (a + n)).size ≤ 4000 := by rw [ByteArray.size_extract]; omega
  have hxl : s.extract a (a + n) = mkT ((rs s a).take n) := by
    rw [← mkT_data (s.extract a (a + n)), rs_extract]; congr 2; omega
  have hai : (a : Int) ≤ (a : Int) + (n : Int) := by omega
  have hbi : (0 : Int) ≤ (a : Int) + (n : Int) ∧ (a : Int) + (n : Int) ≤ (s.size : Int) := by omega
  have hti : ((a : Int) + (n : Int)).toNat = a + n := by omega
  have CL : Hid (∀ W, Calls Tryz.prog 94 #[.string (s.extract a (a + n))] W fun e w' => e = .returned (.string (mkT ((rs s a).take n))) ∧ Below W.heap.size W w') := Lib.hid fun W => by
    have := clone_any (s.extract a (a + n)) W he
    rw [hxl] at this ⊢
    exact this
  clear h hxl he
  have e1 : IntKind.i64.wrap ((a : Int) + (n : Int)) = (a : Int) + (n : Int) := by rw [IntKind.wrap_i64]; omega
  go_enter Tryz.func62, Tryz.ntmps62
  go_wp2_with fail
  go_still_tail 15, (by kernel_rfl)
  change wpList _ _ _ _ _ w.drew
  go_wp2_with (go_at_call 94; refine (CL.out _).mono ?_; rintro e w1 ⟨rfl, hb1⟩)
  have H1 := Lib.hid (H0.out.fresh (w' := w1) ⟨hb1.os, hb1.tape, hb1.output, hb1.size, hb1.block⟩)
  have HB1 : Hid (Below cb w w1) := Lib.hid ⟨hb1.os, hb1.tape, hb1.output, hb1.size, fun k hk => hb1.block k (Nat.lt_trans hk H0.out.lt)⟩
  clear hb1 c0 c1
  generalize hT : mkT ((rs s a).take n) = T at *
  have HTE := Lib.hid hT
  clear hT
  have hlt1 := H1.out.lt
  have c1 : (w1.alloc (.cells #[.int .i64 k, .string T, .int .i64 a] 35)).cell? ⟨cb, 1, none⟩ = some (.int .i64 a) := by rw [World.cell?_alloc_lt _ _ _ hlt1]; exact H1.out.c1
  have c2 : (w1.alloc (.cells #[.int .i64 k, .string T, .int .i64 a] 35)).cell? ⟨cb, 2, none⟩ = some v := by rw [World.cell?_alloc_lt _ _ _ hlt1]; exact H1.out.c2
  have d1 := H1.out.c1
  have d2 := H1.out.c2
  have hcb : cb ≠ w1.heap.size := Nat.ne_of_lt hlt1
  have HOWN : Hid ((w1.alloc (.cells #[.int .i64 k, .string T, .int .i64 a] 35)).drew.ownsRow (cb + 1) 35 3 v ts.length (cellsT ts)) := Lib.hid (World.ownsRow.alloc H1.out.own _)
  have HC : Hid (∀ j u, [Value.int .i64 k, Value.string T, Value.int .i64 a][j]? = some u → (w1.alloc (.cells #[.int .i64 k, .string T, .int .i64 a] 35)).drew.cell? ((⟨w1.heap.size, 0, none⟩ : Addr).add j) = some u) := Lib.hid (cell_three_new w1 _ _ _ _)
  have HSZ2 : Hid (cb + 1 ≤ (w1.alloc (.cells #[.int .i64 k, .string T, .int .i64 a] 35)).drew.heap.size) := Lib.hid (by simp; omega)
  have HKP : Hid (∀ w3 : World, (w1.alloc (.cells #[.int .i64 k, .string T, .int .i64 a] 35)).drew.grownBy w3 v.ownBlock → Keeps (fun b => v.ownBlock = some b) w1 w3) := Lib.hid fun w3 hg =>
    ((Keeps.refl (fun b => v.ownBlock = some b) w1).alloc _).trans' (Keeps.of_grownBy (undrewG4 hg) fun k _ e => e) fun _ _ e => e
  have HFZ : Hid (∀ w3 : World, Keeps (fun b => v.ownBlock = some b) w1 w3 → w3.cell? ⟨cb, 2, none⟩ = some v ∧ w3.frozen? ⟨cb, 2, none⟩ = false ∧ w3.cell? ⟨cb, 1, none⟩ = some (.int .i64 a)) := Lib.hid fun w3 hk =>
    ⟨hk.cell_of H1.out.c2 H1.out.ownNe, by rw [hk.frozen (p := ⟨cb, 2, none⟩) H1.out.lt H1.out.ownNe]; exact H1.out.z2, hk.cell_of H1.out.c1 H1.out.ownNe⟩
  have hl2 : ts.length ≤ 10000 := by omega
  go_region_law (refine step_appendT rfl (.tmp 27) (.tmp 35) rfl i0 hi hz0 hz1 hz2 (cb + 1) v ts.length (cellsT ts) HOWN.out hl2 HSZ2.out ⟨w1.heap.size, 0, none⟩ k a T HC.out (by simp [Act.eval]) (by simp [Act.eval]) ?_; intro ao' cap' w3 hown3 hgrow3; have hk3 := HKP.out _ hgrow3; obtain ⟨c23, z23, c13⟩ := HFZ.out _ hk3; have HK3 := Lib.hid hk3; have HO3 := Lib.hid hown3; clear hk3 hown3 hgrow3)
  all_goals
    have hp := H1.out.pushed (w' := w3) (l := (rs s a).take n) HK3.out (by rw [HTE.out]; exact HO3.out)
    have HP := Lib.hid hp
    have c1 := hp.c1
    have z1 := hp.z1
    clear hp
    go_wp2_with fail
    go_end0
    refine ⟨rfl, _, HP.out.set1 (a + n), ?_⟩
    have hB : Below cb w1 (w3.setCell ⟨cb, 2, none⟩ (.slice ao' (ts.length + 1) cap')) := by
      refine (Keeps.below (S := fun b => v.ownBlock = some b) HK3.out (Nat.le_of_lt H1.out.lt) ?_).setCell (Nat.le_refl _) _
      intro k _ hk
      rcases H1.out.own.2 with ⟨rfl, _⟩ | ⟨g, cap, cur, rfl, hb, _⟩
      · cases hk
      · simp only [Value.ownBlock, Option.some.injEq] at hk; omega
    exact (HB1.out.trans hB).setCell (Nat.le_refl _) _
end Go.Proofs.YthkfdhglgonmnaaGreatDoor
