/-
  The walk of package code's reader.fn.
-/
import Derived.Test.YtjdihgmngiplkaaDoorCodeW6
import Derived.Test.YtjdihgmngiplkaaDoorLate
namespace Go.Proofs.YtjdihgmngiplkaaDoor
open Go.RowKit Cd

theorem info_ins : (Tryd.prog.info? 55).map (fun i => (i.zero, i.size, i.bytes)) = some (some (.agg #[.int .i64 0, .int .i64 0]), 2, 16) := by kernel_rfl
def cellsL (l : List Int) : List Value := l.map (Value.int .i64)
def cellsN (l : List In) : List Value := l.flatMap fun i => [.int .i64 i.1, .int .i64 i.2]
theorem cellsN_snoc (l : List In) (i : In) : cellsN l ++ [.int .i64 i.1, .int .i64 i.2] = cellsN (l ++ [i]) := by simp [cellsN]
theorem cellsL_snoc (l : List Int) (i : Int) : cellsL l ++ [.int .i64 i] = cellsL (l ++ [i]) := by simp [cellsL]
theorem cellsN_length (l : List In) : (cellsN l).length = l.length * 2 := by
  induction l with
  | nil => rfl
  | cons p ps ih => simp only [cellsN, List.flatMap_cons, List.length_append, List.length_cons, List.length_nil] at ih ⊢; omega
theorem cellsN_get : ∀ (l : List In) (i : Nat) (x : In), l[i]? = some x → (cellsN l)[i * 2]? = some (.int .i64 x.1) ∧ (cellsN l)[i * 2 + 1]? = some (.int .i64 x.2)
  | [], _, _, h => by cases h
  | y :: l, 0, x, h => by cases h; exact ⟨rfl, rfl⟩
  | y :: l, i + 1, x, h => by
    have := cellsN_get l i x (by simpa using h)
    have e : cellsN (y :: l) = .int .i64 y.1 :: .int .i64 y.2 :: cellsN l := rfl
    rw [e]
    refine ⟨?_, ?_⟩
    · rw [show (i + 1) * 2 = i * 2 + 1 + 1 by omega]; simpa using this.1
    · rw [show (i + 1) * 2 + 1 = i * 2 + 1 + 1 + 1 by omega]; simpa using this.2
theorem addr0 (g j : Nat) : (⟨g, 0, none⟩ : Addr).add j = ⟨g, j, none⟩ := by unfold Addr.add; split <;> simp_all
theorem own_ints {w : World} {B n : Nat} {v : Value} {l : List Int} (h : w.ownsRow B 3 1 v n (cellsL l)) : IntsAt w v l := by
  have hl : l.length = n := by simpa [cellsL] using h.1
  subst hl
  exact OwnI.ints (B := B) h
theorem own_ins {w : World} {B n : Nat} {v : Value} {l : List In} (h : w.ownsRow B 55 2 v n (cellsN l)) : InsAt w v l := by
  have hl : l.length = n := by have := h.1; rw [cellsN_length] at this; omega
  have hc := h
  rcases h.2 with ⟨rfl, h0⟩ | ⟨g, cap, cur, rfl, hb, hg, h3, h4, h5, h6⟩
  · obtain rfl : l = [] := List.eq_nil_of_length_eq_zero (by omega)
    exact insAt_nil w
  · refine ⟨_, _, _, rfl, hl.symm, h3, h4, fun _ => ⟨g, 0, rfl, (Array.getElem?_eq_some_iff.1 hg).1, fun i x hi => ?_⟩⟩
    obtain ⟨e1, e2⟩ := cellsN_get l i x hi
    have f1 := World.ownsRow.cells hc (g := g) rfl _ _ e1
    have f2 := World.ownsRow.cells hc (g := g) rfl _ _ e2
    rw [addr0] at f1 f2
    rw [Nat.zero_add]
    exact ⟨f1, f2⟩
theorem fnV_l (s : List Nat) : (rdFnV s).locals = (rdFn3 s).1 := by simp only [rdFnV]
theorem fnV_c (s : List Nat) : (rdFnV s).code = (rdFn6 s).1 := by simp only [rdFnV]
theorem fnV_ll (s : List Nat) : (rdFnV s).locals.length = (rdFn2 s).1 := by rw [fnV_l, rdFn3, rdBytes_len]
theorem fnV_cl (s : List Nat) : (rdFnV s).code.length = (rdFn5 s).1 := by rw [fnV_c, rdFn6, rdInss_len]
theorem rdInss_zero (s : List Nat) (r : Rd) : rdInss s 0 r = ([], r) := rfl
theorem own_mono {w : World} {B B' n size : Nat} {e : TypeId} {v : Value} {xs : List Value} (h : w.ownsRow B e size v n xs) (hB : B' ≤ B) : w.ownsRow B' e size v n xs :=
  ⟨h.1, h.2.imp id fun ⟨g, c, cur, e1, e2, e3⟩ => ⟨g, c, cur, e1, Nat.le_trans hB e2, e3⟩⟩

/-- Where fn stands: the reader in rb, the function that is made in the block fb, the answer's block b0, and the rows of its locals and instructions, behind them. -/
structure FnJ (w W : World) (rb b0 fb : Nat) (s : ByteArray) (r : Rd) (pa : Int) (ki : Int) (vl vc : Value) (n m : Nat) (ls : List Int) (cs : List In) : Prop where
  rd : RdB W rb s r
  bf : BlkO W fb [.int .i64 pa, vl, .int .i64 ki, vc]
  z0 : BlkO W b0 [.int .i64 0, .slice none 0 0, .int .i64 0, .slice none 0 0]
  ol : W.ownsRow (fb + 1) 3 1 vl n (cellsL ls)
  oc : W.ownsRow (fb + 1) 55 2 vc m (cellsN cs)
  kp : Keeps (fun b => b = rb) w W
  dis : ∀ b, vl.ownBlock = some b → vc.ownBlock ≠ some b
  lt1 : w.heap.size ≤ b0
  lt2 : b0 < fb
  lt0 : rb < b0
namespace FnJ
variable {w W W' : World} {rb b0 fb : Nat} {s : ByteArray} {r r' : Rd} {pa ki : Int} {vl vc : Value} {n m : Nat} {ls : List Int} {cs : List In}
theorem cell0 (h : FnJ w W rb b0 fb s r pa ki vl vc n m ls cs) : W.cell? ⟨fb, 0, none⟩ = some (.int .i64 pa) := h.bf.at_ 0 _ rfl
theorem cell1 (h : FnJ w W rb b0 fb s r pa ki vl vc n m ls cs) : W.cell? ⟨fb, 1, none⟩ = some vl := h.bf.at_ 1 _ rfl
theorem cell2 (h : FnJ w W rb b0 fb s r pa ki vl vc n m ls cs) : W.cell? ⟨fb, 2, none⟩ = some (.int .i64 ki) := h.bf.at_ 2 _ rfl
theorem cell3 (h : FnJ w W rb b0 fb s r pa ki vl vc n m ls cs) : W.cell? ⟨fb, 3, none⟩ = some vc := h.bf.at_ 3 _ rfl
theorem ge1 (h : FnJ w W rb b0 fb s r pa ki vl vc n m ls cs) : ∀ b, vl.ownBlock = some b → fb + 1 ≤ b ∧ b < W.heap.size := fun b e => World.ownsRow.lt h.ol b e
theorem ge2 (h : FnJ w W rb b0 fb s r pa ki vl vc n m ls cs) : ∀ b, vc.ownBlock = some b → fb + 1 ≤ b ∧ b < W.heap.size := fun b e => World.ownsRow.lt h.oc b e
/-- A call of the reader. -/
theorem read (h : FnJ w W rb b0 fb s r pa ki vl vc n m ls cs) (hr : RdB W' rb s r') (hk : Keeps (fun b => b = rb) W W') : FnJ w W' rb b0 fb s r' pa ki vl vc n m ls cs :=
  ⟨hr, h.bf.keeps hk (by have := h.lt2; have := h.lt0; omega), h.z0.keeps hk (by have := h.lt0; omega), hk.row h.ol (fun b e => by have := (h.ge1 b e).1; have := h.lt2; have := h.lt0; omega), hk.row h.oc (fun b e => by have := (h.ge2 b e).1; have := h.lt2; have := h.lt0; omega), h.kp.trans hk, h.dis, h.lt1, h.lt2, h.lt0⟩
/-- Nothing but what is new. -/
theorem fresh (h : FnJ w W rb b0 fb s r pa ki vl vc n m ls cs) (hk : Keeps (fun _ => False) W W') : FnJ w W' rb b0 fb s r pa ki vl vc n m ls cs :=
  ⟨h.rd.keeps hk id, h.bf.keeps hk id, h.z0.keeps hk id, hk.row h.ol (fun _ _ => id), hk.row h.oc (fun _ _ => id), h.kp.trans (hk.mono fun _ _ e => e.elim), h.dis, h.lt1, h.lt2, h.lt0⟩
/-- A number is stored into the function. -/
theorem setP (h : FnJ w W rb b0 fb s r pa ki vl vc n m ls cs) (x : Int) : FnJ w (W.setCell ⟨fb, 0, none⟩ (.int .i64 x)) rb b0 fb s r x ki vl vc n m ls cs :=
  have hk := own_set W fb 0 (.int .i64 x)
  ⟨h.rd.keeps hk (by have := h.lt2; have := h.lt0; omega), h.bf.set 0 (.int .i64 x) (show 0 < 4 by decide), h.z0.keeps hk (by have := h.lt2; omega), hk.row h.ol (fun b e => by have := (h.ge1 b e).1; omega), hk.row h.oc (fun b e => by have := (h.ge2 b e).1; omega), h.kp.trans' hk (fun b hb e => by have h9 : b = fb := e; have := h.lt1; have := h.lt2; omega), h.dis, h.lt1, h.lt2, h.lt0⟩
theorem setK (h : FnJ w W rb b0 fb s r pa ki vl vc n m ls cs) (x : Int) : FnJ w (W.setCell ⟨fb, 2, none⟩ (.int .i64 x)) rb b0 fb s r pa x vl vc n m ls cs :=
  have hk := own_set W fb 2 (.int .i64 x)
  ⟨h.rd.keeps hk (by have := h.lt2; have := h.lt0; omega), h.bf.set 2 (.int .i64 x) (show 2 < 4 by decide), h.z0.keeps hk (by have := h.lt2; omega), hk.row h.ol (fun b e => by have := (h.ge1 b e).1; omega), hk.row h.oc (fun b e => by have := (h.ge2 b e).1; omega), h.kp.trans' hk (fun b hb e => by have h9 : b = fb := e; have := h.lt1; have := h.lt2; omega), h.dis, h.lt1, h.lt2, h.lt0⟩
/-- A row has grown: its new slice is stored. -/
theorem growL {vl' : Value} {n' : Nat} {ls' : List Int} (h : FnJ w W rb b0 fb s r pa ki vl vc n m ls cs) (ho : W'.ownsRow (fb + 1) 3 1 vl' n' (cellsL ls')) (hk : Keeps (fun b => vl.ownBlock = some b) W W') (hn : ∀ b, vl'.ownBlock = some b → vl.ownBlock = some b ∨ W.heap.size ≤ b) :
    FnJ w (W'.setCell ⟨fb, 1, none⟩ vl') rb b0 fb s r pa ki vl' vc n' m ls' cs :=
  have g : ∀ b, vl.ownBlock = some b → fb + 1 ≤ b := fun b e => (h.ge1 b e).1
  have hs := own_set W' fb 1 vl'
  ⟨(h.rd.keeps hk (fun e => by have := g _ e; have := h.lt2; have := h.lt0; omega)).keeps hs (by have := h.lt2; have := h.lt0; omega), (h.bf.keeps hk (fun e => by have := g _ e; omega)).set 1 vl' (show 1 < 4 by decide), (h.z0.keeps hk (fun e => by have := g _ e; have := h.lt2; omega)).keeps hs (by have := h.lt2; omega),
    hs.row ho (fun b e => by have := (World.ownsRow.lt ho b e).1; omega), hs.row (hk.row h.oc (fun b e e2 => h.dis b e2 e)) (fun b e => by have := (h.ge2 b e).1; omega),
    (h.kp.trans' hk (fun b hb e => by have h9 := g b e; have := h.lt1; have := h.lt2; omega)).trans' hs (fun b hb e => by have h9 : b = fb := e; have := h.lt1; have := h.lt2; omega),
    fun b e e2 => by
      rcases hn b e with h1 | h1
      · exact h.dis b h1 e2
      · have := (h.ge2 b e2).2; omega, h.lt1, h.lt2, h.lt0⟩
theorem growC {vc' : Value} {m' : Nat} {cs' : List In} (h : FnJ w W rb b0 fb s r pa ki vl vc n m ls cs) (ho : W'.ownsRow (fb + 1) 55 2 vc' m' (cellsN cs')) (hk : Keeps (fun b => vc.ownBlock = some b) W W') (hn : ∀ b, vc'.ownBlock = some b → vc.ownBlock = some b ∨ W.heap.size ≤ b) :
    FnJ w (W'.setCell ⟨fb, 3, none⟩ vc') rb b0 fb s r pa ki vl vc' n m' ls cs' :=
  have g : ∀ b, vc.ownBlock = some b → fb + 1 ≤ b := fun b e => (h.ge2 b e).1
  have hs := own_set W' fb 3 vc'
  ⟨(h.rd.keeps hk (fun e => by have := g _ e; have := h.lt2; have := h.lt0; omega)).keeps hs (by have := h.lt2; have := h.lt0; omega), (h.bf.keeps hk (fun e => by have := g _ e; omega)).set 3 vc' (show 3 < 4 by decide), (h.z0.keeps hk (fun e => by have := g _ e; have := h.lt2; omega)).keeps hs (by have := h.lt2; omega),
    hs.row (hk.row h.ol (fun b e e2 => h.dis b e e2)) (fun b e => by have := (h.ge1 b e).1; omega), hs.row ho (fun b e => by have := (World.ownsRow.lt ho b e).1; omega),
    (h.kp.trans' hk (fun b hb e => by have h9 := g b e; have := h.lt1; have := h.lt2; omega)).trans' hs (fun b hb e => by have h9 : b = fb := e; have := h.lt1; have := h.lt2; omega),
    fun b e e2 => by
      rcases hn b e2 with h1 | h1
      · exact h.dis b e h1
      · have := (h.ge1 b e).2; omega, h.lt1, h.lt2, h.lt0⟩
end FnJ

set_option maxRecDepth 100000 in
set_option maxHeartbeats 12800000 in
theorem fn_any (rb : Nat) (s : ByteArray) (w : World) (h : RdB w rb s ⟨0, 0⟩) :
    Calls Tryd.prog 75 #[.pointer (some ⟨rb, 0, none⟩)] w fun e w' => ∃ vl vc, e = .returned (.agg #[.int .i64 (rdFnV (bs s)).params, vl, .int .i64 (rdFnV (bs s)).kind, vc]) ∧ RdB w' rb s (rdFn6 (bs s)).2 ∧ Keeps (fun b => b = rb) w w' ∧
      w'.ownsRow w.heap.size 3 1 vl (rdFnV (bs s)).locals.length (cellsL (rdFnV (bs s)).locals) ∧ w'.ownsRow w.heap.size 55 2 vc (rdFnV (bs s)).code.length (cellsN (rdFnV (bs s)).code) := by
  have hlt := h.blk.lt
  have hk1 := (Keeps.refl (fun _ : Nat => False) w).alloc (.cells #[.int .i64 0, .slice none 0 0, .int .i64 0, .slice none 0 0] 47)
  have hk2 := hk1.alloc (.cells #[.int .i64 0, .slice none 0 0, .int .i64 0, .slice none 0 0] 47)
  have HJ : Hid (FnJ w ((w.alloc (.cells #[.int .i64 0, .slice none 0 0, .int .i64 0, .slice none 0 0] 47)).alloc (.cells #[.int .i64 0, .slice none 0 0, .int .i64 0, .slice none 0 0] 47)) rb w.heap.size (w.heap.size + 1) s ⟨0, 0⟩ 0 0 (.slice none 0 0) (.slice none 0 0) 0 0 [] []) := Lib.hid
    ⟨h.keeps hk2 id, by
      have := BlkO.new (w.alloc (.cells #[.int .i64 0, .slice none 0 0, .int .i64 0, .slice none 0 0] 47)) #[.int .i64 0, .slice none 0 0, .int .i64 0, .slice none 0 0] 47
      rwa [show (w.alloc (.cells #[.int .i64 0, .slice none 0 0, .int .i64 0, .slice none 0 0] 47)).heap.size = w.heap.size + 1 by simp] at this,
      (BlkO.new w #[.int .i64 0, .slice none 0 0, .int .i64 0, .slice none 0 0] 47).keeps ((Keeps.refl (fun _ : Nat => False) _).alloc _) id, World.ownsRow_nil _ _ _ _, World.ownsRow_nil _ _ _ _, hk2.mono fun _ _ e => e.elim, fun b e => (by cases e), Nat.le_refl _, Nat.lt_succ_self _, hlt⟩
  obtain ⟨b0, hb0⟩ : ∃ b0, b0 = w.heap.size := ⟨_, rfl⟩
  have HB0 := Lib.hid hb0
  clear h hk1 hk2 hlt hb0
  go_enter Tryd.func75, Tryd.ntmps75
  go_upto_region 2 with fail
  generalize (w.alloc (.cells #[.int .i64 0, .slice none 0 0, .int .i64 0, .slice none 0 0] 47)).alloc (.cells #[.int .i64 0, .slice none 0 0, .int .i64 0, .slice none 0 0] 47) = w1 at *
  obtain ⟨fb, hfb⟩ : ∃ fb, w.heap.size + 1 = fb := ⟨_, rfl⟩
  have HFB := Lib.hid hfb
  rw [hfb] at HJ
  try rw [hfb]
  clear hfb
  go_wp2_with fail
  refine (countR_any 12 (by decide) rb s _ _ HJ.out.rd).mono ?_
  rintro e w2 ⟨rfl, hr2, hk2⟩
  have HJ2 : Hid (FnJ w (w2.setCell ⟨fb, 0, none⟩ (.int .i64 (((rdFn1 (bs s)).1 : Nat) : Int))) rb w.heap.size fb s (rdFn1 (bs s)).2 (((rdFn1 (bs s)).1 : Nat) : Int) 0 (.slice none 0 0) (.slice none 0 0) 0 0 [] []) := Lib.hid ((HJ.out.read hr2 hk2).setP (((rdFn1 (bs s)).1 : Nat) : Int))
  have d0 := (HJ.out.read hr2 hk2).cell0
  have f0 := (HJ.out.read hr2 hk2).bf.free 0
  obtain ⟨p1, hp1⟩ : ∃ p1 : Int, p1 = ((rdFn1 (bs s)).1 : Nat) := ⟨_, rfl⟩
  have HP1 := Lib.hid hp1
  have e1 : (((rdCount (bs s) 12 ⟨0, 0⟩).1 : Nat) : Int) = p1 := hp1.symm
  rw [e1]
  rw [← hp1] at HJ2
  clear hr2 hk2 HJ hp1 e1
  go_upto_region 3 with fail
  generalize w2.setCell ⟨fb, 0, none⟩ (.int .i64 p1) = w3 at *
  clear d0 f0
  go_wp2_with fail
  refine (countR_any 12 (by decide) rb s _ _ HJ2.out.rd).mono ?_
  rintro e w4 ⟨rfl, hr4, hk4⟩
  have HJ4 : Hid (FnJ w w4 rb w.heap.size fb s (rdFn2 (bs s)).2 p1 0 (.slice none 0 0) (.slice none 0 0) 0 0 [] []) := Lib.hid (HJ2.out.read hr4 hk4)
  have hn12 : (rdFn2 (bs s)).1 ≤ 12 := rdCount_most
  have e2 : (rdCount (bs s) 12 (rdFn1 (bs s)).2).1 = (rdFn2 (bs s)).1 := rfl
  rw [e2]
  clear hr4 hk4 HJ2 e2
  obtain ⟨n, hn⟩ : ∃ n, n = (rdFn2 (bs s)).1 := ⟨_, rfl⟩
  have HN := Lib.hid hn
  rw [← hn] at hn12 ⊢
  clear hn
  go_wp2_with fail
  go_loopw [9] (fun iv wr => ∃ (k : Nat) (vl : Value), k ≤ n ∧ iv = .int .i64 k ∧ FnJ w wr rb w.heap.size fb s (rdBytes (bs s) k (rdFn2 (bs s)).2).2 p1 0 vl (.slice none 0 0) k 0 (rdBytes (bs s) k (rdFn2 (bs s)).2).1 []) (fun iv _ => n - (intOf iv).toNat)
  case atStart => exact ⟨0, _, Nat.zero_le _, rfl, HJ4.out⟩
  case round =>
    obtain ⟨k, vl, hk, rfl, hj⟩ := hrel
    rename World => wr
    obtain ⟨ao, cap, hvl⟩ := slice_of_own hj.ol
    subst hvl
    have HFJ0 := Lib.hid hj
    clear hj HJ4
    by_cases hkn : k < n
    · have HFJ : Hid (FnJ w wr.drew rb w.heap.size fb s (rdBytes (bs s) k (rdFn2 (bs s)).2).2 p1 0 (.slice ao k cap) (.slice none 0 0) k 0 (rdBytes (bs s) k (rdFn2 (bs s)).2).1 []) := Lib.hid (HFJ0.out.fresh (Keeps.refl _ wr).drew)
      have hkni : (k : Int) < (n : Int) := by omega
      clear HFJ0
      go_upto_region 5 with fail
      refine wp_region_late (S := (fun W : World => W.cell? ⟨fb, 1, none⟩ = some (.slice ao k cap))) (T := [7]) (by kernel_rfl) ?_
      have hHeld : (fun W : World => W.cell? ⟨fb, 1, none⟩ = some (.slice ao k cap)) wr.drew := HFJ.out.cell1
      generalize hW0 : wr.drew = W0 at *
      clear hW0
      refine late_take0 (i := 0) (oi := { dst := some 11, op := _, type := _, pos := _, after := _, guard := _ }) (v := .pointer (some ⟨fb, 1, none⟩)) rfl (by kernel_rfl) (by kernel_rfl) (by kernel_rfl) (fun _ _ _ h => h) (Or.inl ⟨by rfl, ?_⟩) ?_
      · intro W9 hSW
        (try dsimp only at hSW)
        go_simp
      try simp only [Act.put, List.setIfInBounds_toArray, List.set_cons_zero, List.set_cons_succ]
      refine late_take (i := 1) (oi := { dst := some 12, op := _, type := _, pos := _, after := _, guard := _ }) (v := (.slice ao k cap)) rfl (by kernel_rfl) (by kernel_rfl) (by kernel_rfl) (by kernel_rfl) (fun _ _ _ h => h) (Or.inl ⟨by rfl, ?_⟩) hHeld ?_
      · intro W9 hSW
        (try dsimp only at hSW)
        go_simp
      try simp only [Act.put, List.setIfInBounds_toArray, List.set_cons_zero, List.set_cons_succ]
      refine late_take0 (i := 2) (oi := { dst := some 13, op := _, type := _, pos := _, after := _, guard := _ }) (v := .pointer (some ⟨rb, 0, none⟩)) rfl (by kernel_rfl) (by kernel_rfl) (by kernel_rfl) (fun _ _ _ h => h) (Or.inl ⟨by rfl, ?_⟩) ?_
      · intro W9 hSW
        (try dsimp only at hSW)
        go_simp
      try simp only [Act.put, List.setIfInBounds_toArray, List.set_cons_zero, List.set_cons_succ]
      refine late_ready (rs := [3]) (by kernel_rfl) (by simp) ?_
      refine LateAll.cons (o := { dst := some 14, op := _, type := _, pos := _, after := _, guard := _ }) rfl (fun K hK => ?_) LateAll.nil
      go_simp
      refine (byte_any rb s _ _ HFJ.out.rd).mono ?_
      rintro e w3 ⟨rfl, hr3, hk3⟩
      have HF3 := Lib.hid (HFJ.out.read hr3 hk3)
      obtain ⟨x, hx⟩ : ∃ x : Int, x = ((rdByte (bs s) (rdBytes (bs s) k (rdFn2 (bs s)).2).2).1 : Nat) := ⟨_, rfl⟩
      have HX := Lib.hid hx
      rw [← hx]
      clear hx hr3 hk3
      refine hK.out _ _ (fun _ => HF3.out.cell1) ?_
      clear hK K
      try simp only [Act.put, List.setIfInBounds_toArray, List.set_cons_zero, List.set_cons_succ]
      have HF4 := Lib.hid (HF3.out.fresh ((Keeps.refl (fun _ : Nat => False) w3).alloc (.cells #[.int .i64 x] 3)))
      have HLD3 : Hid ((w3.alloc (.cells #[.int .i64 x] 3)).cell? ⟨fb, 1, none⟩ = some (.slice ao k cap)) := Lib.hid HF4.out.cell1
      have HO3 := Lib.hid HF4.out.ol
      have hlen3 : k ≤ 1000000 := by omega
      have hcn3 : ∀ (j : Nat) u, [Value.int .i64 x][j]? = some u → (w3.alloc (.cells #[.int .i64 x] 3)).cell? ⟨w3.heap.size, j, none⟩ = some u := fun j u hj => (cell_of_row _ _ _ _ _ _ (heap_alloc_new _ _)).trans (by simpa using hj)
      have hone3 : ∀ u ∈ [Value.int .i64 x], u.oneCell' = true := by intro u hu; simp at hu; subst hu; rfl
      have HSZ3 : Hid (fb + 1 ≤ (w3.alloc (.cells #[.int .i64 x] 3)).heap.size) := Lib.hid HF4.out.bf.lt
      refine late_ready (rs := [4]) (by kernel_rfl) (by simp) ?_
      refine LateAll.cons (o := { dst := some 15, op := _, type := _, pos := _, after := _, guard := _ }) rfl (fun K hK => ?_) LateAll.nil
      go_simp
      refine hK.out _ _ (fun _ => HLD3.out) ?_
      clear hK K
      try simp only [Act.put, List.setIfInBounds_toArray, List.set_cons_zero, List.set_cons_succ]
      refine late_ready (rs := [5]) (by kernel_rfl) (by simp) ?_
      refine LateAll.cons (o := { dst := some 16, op := _, type := _, pos := _, after := _, guard := _ }) rfl (fun K hK => ?_) LateAll.nil
      refine step_append2 rfl (.tmp 12) (.tmp 15) 44 3 (.int .i64 0) 1 8 rfl Tryd.underlying44 info_int rfl (by decide) (by decide) _ _ _ _ [.int .i64 x] _ 1 HO3.out hlen3 rfl hcn3 hone3 HSZ3.out (by simp [Act.eval]) (by simp [Act.eval]) ?_
      intro ao4 cap4 w4 ho4 hk4 hn4
      have hHeld4 : w4.cell? ⟨fb, 1, none⟩ = some (.slice ao k cap) := hk4.cell_of HF4.out.cell1 (fun e => absurd (HF4.out.ge1 fb e).1 (by omega))
      have hfz4 : w4.frozen? ⟨fb, 1, none⟩ = false := (HF4.out.bf.keeps hk4 (fun e => absurd (HF4.out.ge1 fb e).1 (by omega))).free 1
      have HG : Hid (FnJ w (w4.setCell ⟨fb, 1, none⟩ (.slice ao4 (k + 1) cap4)) rb w.heap.size fb s (rdBytes (bs s) (k + 1) (rdFn2 (bs s)).2).2 p1 0 (.slice ao4 (k + 1) cap4) (.slice none 0 0) (k + 1) 0 (rdBytes (bs s) (k + 1) (rdFn2 (bs s)).2).1 []) := Lib.hid (by
        rw [rdBytes_snoc]
        rw [cellsL_snoc, HX.out] at ho4
        exact HF4.out.growL ho4 hk4 hn4)
      clear ho4 hk4 hn4
      refine hK.out _ _ (fun _ => hHeld4) ?_
      clear hK K
      try simp only [Act.put, List.setIfInBounds_toArray, List.set_cons_zero, List.set_cons_succ]
      refine late_take0 (i := 6) (oi := { dst := some 17, op := _, type := _, pos := _, after := _, guard := _ }) (v := .pointer (some ⟨fb, 1, none⟩)) rfl (by kernel_rfl) (by kernel_rfl) (by kernel_rfl) (fun _ _ _ h => h) (Or.inl ⟨by rfl, ?_⟩) ?_
      · intro W9 hSW
        (try dsimp only at hSW)
        go_simp
      try simp only [Act.put, List.setIfInBounds_toArray, List.set_cons_zero, List.set_cons_succ]
      refine late_ready (rs := [7]) (by kernel_rfl) (by simp) ?_
      refine LateAll.cons (o := { dst := none, op := _, type := _, pos := _, after := _, guard := _ }) rfl (fun K hK => ?_) LateAll.nil
      go_simp
      refine hK.out _ _ (fun h => absurd (show (7 : Nat) ∈ [7] by decide) h) ?_
      clear hK K
      refine late_done (by kernel_rfl) ?_ _
      go_wp2_with fail
      go_roundw
      case rel => exact ⟨k + 1, _, by omega, by go_num, HG.out⟩
      case measure => simp [intOf]; omega
    · obtain rfl : k = n := by omega
      have hkni : ¬ (k : Int) < (k : Int) := by omega
      have HJ5 : Hid (FnJ w wr rb w.heap.size fb s (rdFn3 (bs s)).2 p1 0 (.slice ao k cap) (.slice none 0 0) k 0 (rdFn3 (bs s)).1 []) := Lib.hid (by
        have := HFJ0.out
        rw [HN.out] at this
        unfold rdFn3
        rw [HN.out]
        exact this)
      clear HFJ0
      go_wp2_with fail
      refine (byte_any rb s _ _ HJ5.out.rd).mono ?_
      rintro e w5 ⟨rfl, hr5, hk5⟩
      have HJ6 : Hid (FnJ w (w5.setCell ⟨fb, 2, none⟩ (.int .i64 (((rdFn4 (bs s)).1 : Nat) : Int))) rb w.heap.size fb s (rdFn4 (bs s)).2 p1 (((rdFn4 (bs s)).1 : Nat) : Int) (.slice ao k cap) (.slice none 0 0) k 0 (rdFn3 (bs s)).1 []) := Lib.hid ((HJ5.out.read hr5 hk5).setK (((rdFn4 (bs s)).1 : Nat) : Int))
      have d2 := (HJ5.out.read hr5 hk5).cell2
      have f2 := (HJ5.out.read hr5 hk5).bf.free 2
      obtain ⟨q1, hq1⟩ : ∃ q1 : Int, q1 = ((rdFn4 (bs s)).1 : Nat) := ⟨_, rfl⟩
      have HQ1 := Lib.hid hq1
      have e1 : (((rdByte (bs s) (rdFn3 (bs s)).2).1 : Nat) : Int) = q1 := hq1.symm
      rw [e1]
      rw [← hq1] at HJ6
      clear hr5 hk5 HJ5 hq1 e1
      go_upto_region 8 with fail
      generalize w5.setCell ⟨fb, 2, none⟩ (.int .i64 q1) = w6 at *
      clear d2 f2
      go_wp2_with fail
      refine (countR_any 9000 (by decide) rb s _ _ HJ6.out.rd).mono ?_
      rintro e w7 ⟨rfl, hr7, hk7⟩
      have HJ7 : Hid (FnJ w w7 rb w.heap.size fb s (rdFn5 (bs s)).2 p1 q1 (.slice ao k cap) (.slice none 0 0) k 0 (rdFn3 (bs s)).1 []) := Lib.hid (HJ6.out.read hr7 hk7)
      have hm90 : (rdFn5 (bs s)).1 ≤ 9000 := rdCount_most
      have e2 : (rdCount (bs s) 9000 (rdFn4 (bs s)).2).1 = (rdFn5 (bs s)).1 := rfl
      rw [e2]
      clear hr7 hk7 HJ6 e2
      obtain ⟨m, hm⟩ : ∃ m, m = (rdFn5 (bs s)).1 := ⟨_, rfl⟩
      have HM := Lib.hid hm
      rw [← hm] at hm90 ⊢
      clear hm
      go_wp2_with fail
      have HJ7z : Hid (FnJ w w7 rb w.heap.size fb s (rdInss (bs s) 0 (rdFn5 (bs s)).2).2 p1 q1 (.slice ao k cap) (.slice none 0 0) k 0 (rdFn3 (bs s)).1 (rdInss (bs s) 0 (rdFn5 (bs s)).2).1) := Lib.hid (by rw [rdInss_zero]; exact HJ7.out)
      go_loopw [24] (fun iv wr => ∃ (j : Nat) (vc : Value), j ≤ m ∧ iv = .int .i64 j ∧ FnJ w wr rb w.heap.size fb s (rdInss (bs s) j (rdFn5 (bs s)).2).2 p1 q1 (.slice ao k cap) vc k j (rdFn3 (bs s)).1 (rdInss (bs s) j (rdFn5 (bs s)).2).1) (fun iv _ => m - (intOf iv).toNat)
      case atStart => exact ⟨0, _, Nat.zero_le _, rfl, HJ7z.out⟩
      case round =>
        obtain ⟨j, vc, hj, rfl, hjj⟩ := hrel
        rename World => wr
        obtain ⟨ao2, cap2, hvc⟩ := slice_of_own hjj.oc
        subst hvc
        have HFJ0 := Lib.hid hjj
        clear hjj HJ7 HJ7z
        by_cases hjm : j < m
        · have HFJ : Hid (FnJ w wr.drew rb w.heap.size fb s (rdInss (bs s) j (rdFn5 (bs s)).2).2 p1 q1 (.slice ao k cap) (.slice ao2 j cap2) k j (rdFn3 (bs s)).1 (rdInss (bs s) j (rdFn5 (bs s)).2).1) := Lib.hid (HFJ0.out.fresh (Keeps.refl _ wr).drew)
          have hkni : (j : Int) < (m : Int) := by omega
          clear HFJ0
          go_upto_region 10 with fail
          refine wp_region_late (S := (fun W : World => W.cell? ⟨fb, 3, none⟩ = some (.slice ao2 j cap2))) (T := [7]) (by kernel_rfl) ?_
          have hHeld : (fun W : World => W.cell? ⟨fb, 3, none⟩ = some (.slice ao2 j cap2)) wr.drew := HFJ.out.cell3
          generalize hW0 : wr.drew = W0 at *
          clear hW0
          refine late_take0 (i := 0) (oi := { dst := some 26, op := _, type := _, pos := _, after := _, guard := _ }) (v := .pointer (some ⟨fb, 3, none⟩)) rfl (by kernel_rfl) (by kernel_rfl) (by kernel_rfl) (fun _ _ _ h => h) (Or.inl ⟨by rfl, ?_⟩) ?_
          · intro W9 hSW
            (try dsimp only at hSW)
            go_simp
          try simp only [Act.put, List.setIfInBounds_toArray, List.set_cons_zero, List.set_cons_succ]
          refine late_take (i := 1) (oi := { dst := some 27, op := _, type := _, pos := _, after := _, guard := _ }) (v := (.slice ao2 j cap2)) rfl (by kernel_rfl) (by kernel_rfl) (by kernel_rfl) (by kernel_rfl) (fun _ _ _ h => h) (Or.inl ⟨by rfl, ?_⟩) hHeld ?_
          · intro W9 hSW
            (try dsimp only at hSW)
            go_simp
          try simp only [Act.put, List.setIfInBounds_toArray, List.set_cons_zero, List.set_cons_succ]
          refine late_take0 (i := 2) (oi := { dst := some 28, op := _, type := _, pos := _, after := _, guard := _ }) (v := .pointer (some ⟨rb, 0, none⟩)) rfl (by kernel_rfl) (by kernel_rfl) (by kernel_rfl) (fun _ _ _ h => h) (Or.inl ⟨by rfl, ?_⟩) ?_
          · intro W9 hSW
            (try dsimp only at hSW)
            go_simp
          try simp only [Act.put, List.setIfInBounds_toArray, List.set_cons_zero, List.set_cons_succ]
          refine late_ready (rs := [3]) (by kernel_rfl) (by simp) ?_
          refine LateAll.cons (o := { dst := some 29, op := _, type := _, pos := _, after := _, guard := _ }) rfl (fun K hK => ?_) LateAll.nil
          go_simp
          refine (rins_any rb s _ _ HFJ.out.rd).mono ?_
          rintro e w3 ⟨rfl, hr3, hk3⟩
          have HF3 := Lib.hid (HFJ.out.read hr3 hk3)
          obtain ⟨x, y, hxy⟩ : ∃ x y, (rdIns (bs s) (rdInss (bs s) j (rdFn5 (bs s)).2).2).1 = (x, y) := ⟨_, _, rfl⟩
          have HX := Lib.hid hxy
          rw [hxy]
          clear hxy hr3 hk3
          refine hK.out _ _ (fun _ => HF3.out.cell3) ?_
          clear hK K
          have HF4 := Lib.hid (HF3.out.fresh ((Keeps.refl (fun _ : Nat => False) w3).alloc (.cells #[.int .i64 x, .int .i64 y] 55)))
          have HLD3 : Hid ((w3.alloc (.cells #[.int .i64 x, .int .i64 y] 55)).cell? ⟨fb, 3, none⟩ = some (.slice ao2 j cap2)) := Lib.hid HF4.out.cell3
          have HO3 := Lib.hid HF4.out.oc
          have hlen3 : j ≤ 1000000 := by omega
          have hcn3 : ∀ (i : Nat) u, [Value.int .i64 x, .int .i64 y][i]? = some u → (w3.alloc (.cells #[.int .i64 x, .int .i64 y] 55)).cell? ⟨w3.heap.size, i, none⟩ = some u := fun i u hj => (cell_of_row _ _ _ _ _ _ (heap_alloc_new _ _)).trans (by simpa using hj)
          have hone3 : ∀ u ∈ [Value.int .i64 x, .int .i64 y], u.oneCell' = true := by intro u hu; simp at hu; rcases hu with rfl | rfl <;> rfl
          have HSZ3 : Hid (fb + 1 ≤ (w3.alloc (.cells #[.int .i64 x, .int .i64 y] 55)).heap.size) := Lib.hid HF4.out.bf.lt
          refine late_ready (rs := [4]) (by kernel_rfl) (by simp) ?_
          refine LateAll.cons (o := { dst := some 30, op := _, type := _, pos := _, after := _, guard := _ }) rfl (fun K hK => ?_) LateAll.nil
          go_simp
          refine hK.out _ _ (fun _ => HLD3.out) ?_
          clear hK K
          try simp only [Act.put, List.setIfInBounds_toArray, List.set_cons_zero, List.set_cons_succ]
          refine late_ready (rs := [5]) (by kernel_rfl) (by simp) ?_
          refine LateAll.cons (o := { dst := some 31, op := _, type := _, pos := _, after := _, guard := _ }) rfl (fun K hK => ?_) LateAll.nil
          refine step_append2 rfl (.tmp 27) (.tmp 30) 45 55 (.agg #[.int .i64 0, .int .i64 0]) 2 16 rfl Tryd.underlying45 info_ins rfl (by decide) (by decide) _ _ _ _ [.int .i64 x, .int .i64 y] _ 1 HO3.out hlen3 rfl hcn3 hone3 HSZ3.out (by simp [Act.eval]) (by simp [Act.eval]) ?_
          intro ao4 cap4 w4 ho4 hk4 hn4
          have hHeld4 : w4.cell? ⟨fb, 3, none⟩ = some (.slice ao2 j cap2) := hk4.cell_of HF4.out.cell3 (fun e => absurd (HF4.out.ge2 fb e).1 (by omega))
          have hfz4 : w4.frozen? ⟨fb, 3, none⟩ = false := (HF4.out.bf.keeps hk4 (fun e => absurd (HF4.out.ge2 fb e).1 (by omega))).free 3
          have HG : Hid (FnJ w (w4.setCell ⟨fb, 3, none⟩ (.slice ao4 (j + 1) cap4)) rb w.heap.size fb s (rdInss (bs s) (j + 1) (rdFn5 (bs s)).2).2 p1 q1 (.slice ao k cap) (.slice ao4 (j + 1) cap4) k (j + 1) (rdFn3 (bs s)).1 (rdInss (bs s) (j + 1) (rdFn5 (bs s)).2).1) := Lib.hid (by
            rw [rdInss_snoc]
            have e : cellsN (rdInss (bs s) j (rdFn5 (bs s)).2).1 ++ [.int .i64 x, .int .i64 y] = cellsN ((rdInss (bs s) j (rdFn5 (bs s)).2).1 ++ [(rdIns (bs s) (rdInss (bs s) j (rdFn5 (bs s)).2).2).1]) := by rw [HX.out]; exact cellsN_snoc _ (x, y)
            rw [e] at ho4
            exact HF4.out.growC ho4 hk4 hn4)
          clear ho4 hk4 hn4
          refine hK.out _ _ (fun _ => hHeld4) ?_
          clear hK K
          try simp only [Act.put, List.setIfInBounds_toArray, List.set_cons_zero, List.set_cons_succ]
          refine late_take0 (i := 6) (oi := { dst := some 32, op := _, type := _, pos := _, after := _, guard := _ }) (v := .pointer (some ⟨fb, 3, none⟩)) rfl (by kernel_rfl) (by kernel_rfl) (by kernel_rfl) (fun _ _ _ h => h) (Or.inl ⟨by rfl, ?_⟩) ?_
          · intro W9 hSW
            (try dsimp only at hSW)
            go_simp
          try simp only [Act.put, List.setIfInBounds_toArray, List.set_cons_zero, List.set_cons_succ]
          refine late_ready (rs := [7]) (by kernel_rfl) (by simp) ?_
          refine LateAll.cons (o := { dst := none, op := _, type := _, pos := _, after := _, guard := _ }) rfl (fun K hK => ?_) LateAll.nil
          go_simp
          refine hK.out _ _ (fun h => absurd (show (7 : Nat) ∈ [7] by decide) h) ?_
          clear hK K
          refine late_done (by kernel_rfl) ?_ _
          go_wp2_with fail
          go_roundw
          case rel => exact ⟨j + 1, _, by omega, by go_num, HG.out⟩
          case measure => simp [intOf]; omega
        · obtain rfl : j = m := by omega
          have hkni : ¬ (j : Int) < (j : Int) := by omega
          have HJ8 : Hid (FnJ w wr rb w.heap.size fb s (rdFn6 (bs s)).2 p1 q1 (.slice ao k cap) (.slice ao2 j cap2) k j (rdFn3 (bs s)).1 (rdFn6 (bs s)).1) := Lib.hid (by
            have := HFJ0.out
            rw [HM.out] at this
            unfold rdFn6
            rw [HM.out]
            exact this)
          clear HFJ0
          have c0 := HJ8.out.cell0
          have c1 := HJ8.out.cell1
          have c2 := HJ8.out.cell2
          have c3 := HJ8.out.cell3
          have z0 := HJ8.out.z0.at_ 0 _ rfl
          have z1 := HJ8.out.z0.at_ 1 _ rfl
          have z2 := HJ8.out.z0.at_ 2 _ rfl
          have z3 := HJ8.out.z0.at_ 3 _ rfl
          have y0 := HJ8.out.z0.free 0
          have y1 := HJ8.out.z0.free 1
          have y2 := HJ8.out.z0.free 2
          have y3 := HJ8.out.z0.free 3
          have HB := (((HJ8.out.z0.set 0 (.int .i64 p1) (show 0 < 4 by decide)).set 1 (.slice ao k cap) (show 1 < 4 by decide)).set 2 (.int .i64 q1) (show 2 < 4 by decide)).set 3 (.slice ao2 j cap2) (show 3 < 4 by decide)
          have r0 := HB.at_ 0 _ rfl
          have r1 := HB.at_ 1 _ rfl
          have r2 := HB.at_ 2 _ rfl
          have r3 := HB.at_ 3 _ rfl
          have hks : Keeps (fun b => b = w.heap.size) wr ((((wr.setCell ⟨w.heap.size, 0, none⟩ (.int .i64 p1)).setCell ⟨w.heap.size, 1, none⟩ (.slice ao k cap)).setCell ⟨w.heap.size, 2, none⟩ (.int .i64 q1)).setCell ⟨w.heap.size, 3, none⟩ (.slice ao2 j cap2)) :=
            ((own_set wr w.heap.size 0 _).trans (own_set _ w.heap.size 1 _)).trans ((own_set _ w.heap.size 2 _).trans (own_set _ w.heap.size 3 _))
          have HKS := Lib.hid hks
          clear hks HB
          go_wp2_with fail
          refine bodyPost_ret (v := .agg #[.int .i64 p1, .slice ao k cap, .int .i64 q1, .slice ao2 j cap2]) (by simp [results, Tryd.results75, go_sem, r0, r1, r2, r3] <;> rfl) rfl ?_
          refine ⟨_, _, by rw [HP1.out, HQ1.out]; rfl, HJ8.out.rd.keeps HKS.out (by have := HJ8.out.lt0; omega), HJ8.out.kp.trans' HKS.out (fun b hb e => by have h9 : b = w.heap.size := e; omega), ?_, ?_⟩
          · rw [fnV_ll, ← HN.out, fnV_l]
            exact own_mono (HKS.out.row HJ8.out.ol fun b e => by have := (HJ8.out.ge1 b e).1; have := HJ8.out.lt2; omega) (by have := HJ8.out.lt2; omega)
          · rw [fnV_cl, ← HM.out, fnV_c]
            exact own_mono (HKS.out.row HJ8.out.oc fun b e => by have := (HJ8.out.ge2 b e).1; have := HJ8.out.lt2; omega) (by have := HJ8.out.lt2; omega)
end Go.Proofs.YtjdihgmngiplkaaDoor
