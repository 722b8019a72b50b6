/-
  Texts of one proof, in build order: FoldX3 FoldX4 FoldX5 FoldX6 FoldX7 FoldX8 TreeSM TreeSN TreeSO LexM3 LexM4 TreeSP TreeSQ
-/
import Derived.Test.YtnpapppipccdbaaGreatDoorW5
import Derived.Recover
import Derived.Lib.ParseIntBCases
import Derived.Deep.RegionHeld3
set_option maxRecDepth 100000
set_option maxHeartbeats 12800000
namespace Go.Proofs.YtnpapppipccdbaaGreatDoor
open Go.RowKit Lx Tr
variable {w w' : World}
theorem jW (g i : Nat) : (⟨g, 0, none⟩ : Addr).add i = ⟨g, 0 + i, none⟩ := by unfold Addr.add; split <;> simp_all
theorem mD (w : World) (xs : List Value) (t : TypeId) : ∀ j u, xs[j]? = some u -> (w.alloc (.cells xs.toArray t)).cell? ((⟨w.heap.size, 0, none⟩ : Addr).add j) = some u := fun j u h => by
 rw [jW, World.cell?_alloc_at _ _ _ _ rfl]; simpa using h
def mE (acc : Sts) : List St -> Sts
 | [] => acc
 | s :: l => mE (match eL s with | some y => acc.snoc y | none => acc) l
theorem nZ : ∀ (l : List St) (acc : Sts) (s : St), mE acc (l ++ [s]) = match eL s with | some y => (mE acc l).snoc y | none => mE acc l
 | [], _, _ => rfl
 | _ :: l, _, s => nZ l _ s
def E6 : Sts -> Sts -> Sts
 | .nil, y => y
 | .cons x xs, y => .cons x (E6 xs y)
theorem sH : ∀ (acc : Sts) (y : St) (z : Sts), E6 (acc.snoc y) z = E6 acc (.cons y z)
 | .nil, _, _ => rfl
 | .cons x xs, y, z => congrArg (Sts.cons x) (sH xs y z)
theorem wP : ∀ acc : Sts, E6 acc .nil = acc
 | .nil => rfl
 | .cons x xs => congrArg (Sts.cons x) (wP xs)
def Tr.Sts.toL : Sts -> List St
 | .nil => []
 | .cons x xs => x :: xs.toL
theorem wQ : ∀ (xs acc : Sts), mE acc xs.toL = E6 acc (aD xs)
 | .nil, acc => by rw [aD, wP]; rfl
 | .cons s ss, acc => by
  show mE _ ss.toL = _
  rw [wQ ss, aD]
  cases eL s with
  | none => rfl
  | some y => exact sH acc y (aD ss)
theorem CY (xs : Sts) : mE .nil xs.toL = aD xs := wQ xs .nil
def Tr.Cas.toL : Cas -> List Ca
 | .nil => []
 | .cons x xs => x :: xs.toL
theorem qA : ∀ xs : Cas, xs.toL.length = xs.len
 | .nil => rfl
 | .cons _ xs => congrArg (· + 1) (qA xs)
theorem qB : ∀ xs : Sts, xs.toL.length = xs.len
 | .nil => rfl
 | .cons _ xs => congrArg (· + 1) (qB xs)
def n7 (acc : Cas) : List Ca -> Cas
 | [] => acc
 | s :: l => n7 (acc.snoc (gR s)) l
theorem sI : ∀ (l : List Ca) (acc : Cas) (s : Ca), n7 acc (l ++ [s]) = (n7 acc l).snoc (gR s)
 | [], _, _ => rfl
 | _ :: l, _, s => sI l _ s
def E7 : Cas -> Cas -> Cas
 | .nil, y => y
 | .cons x xs, y => .cons x (E7 xs y)
theorem sJ : ∀ (acc : Cas) (y : Ca) (z : Cas), E7 (acc.snoc y) z = E7 acc (.cons y z)
 | .nil, _, _ => rfl
 | .cons x xs, y, z => congrArg (Cas.cons x) (sJ xs y z)
theorem wR : ∀ acc : Cas, E7 acc .nil = acc
 | .nil => rfl
 | .cons x xs => congrArg (Cas.cons x) (wR xs)
theorem wS : ∀ (xs acc : Cas), n7 acc xs.toL = E7 acc (bC xs)
 | .nil, acc => by rw [bC, wR]; rfl
 | .cons s ss, acc => by
  show n7 _ ss.toL = _
  rw [wS ss, bC]
  exact sJ acc (gR s) (bC ss)
theorem CZ (xs : Cas) : n7 .nil xs.toL = bC xs := wS xs .nil
theorem wT : ∀ (l : List St) (acc : Sts), (mE acc l).len <= acc.len + l.length
 | [], acc => Nat.le_refl _
 | s :: l, acc => by
  show (mE _ l).len <= _
  refine Nat.le_trans (wT l _) ?_
  cases eL s with
  | none => show acc.len + l.length <= acc.len + (l.length + 1); omega
  | some y => show (acc.snoc y).len + l.length <= acc.len + (l.length + 1); rw [Sts.len_snoc]; omega
theorem wU : ∀ (l : List Ca) (acc : Cas), (n7 acc l).len <= acc.len + l.length
 | [], acc => Nat.le_refl _
 | s :: l, acc => by
  show (n7 _ l).len <= _
  refine Nat.le_trans (wU l _) ?_
  rw [Cas.len_snoc]; show acc.len + 1 + l.length <= acc.len + (l.length + 1); omega
def qC (s : St) : Prop := ∀ (F : Nat -> Prop) (w : World) (u : Value), (∀ b, F b -> b < w.heap.size) -> StA w F u s -> Calls Tryz.prog 123 #[u] w fun e w' => ∃ u' b y, e = .returned (.tuple #[u', .bool b]) /\ StA w' (fun b => w.heap.size <= b) u' y /\ eL s = (if b then some y else none) /\ Below w.heap.size w w'
def qD (s : Ca) : Prop := ∀ (F : Nat -> Prop) (w : World) (u : Value), (∀ b, F b -> b < w.heap.size) -> CaA w F u s -> Calls Tryz.prog 175 #[u] w fun e w' => ∃ u', e = .returned (.tuple #[u', .bool true]) /\ CaA w' (fun b => w.heap.size <= b) u' (gR s) /\ Below w.heap.size w w'
theorem C0 {c a : Nat} {nm : Lx.B} {dst val : Ex} {thn els : Sts} {cs : Cas} (hX1 : dZ dst) (hX2 : dZ val) (hS1 : jV thn) (hS2 : jV els) (hC : yV cs) : qC (.mk c a nm dst val thn els cs) := by
 intro F w u hF h
 obtain ⟨c', a', nm', dst', val', thn', els', cs', o1, o2, a5, k5, a6, k6, a7, k7, hs, rfl, hv⟩ := h
 cases hs
 rw [wO]
 exact yX hX1 hX2 hS1 hS2 hC w hF hv
theorem C1 {c a : Nat} {nm : Lx.B} {dst val : Ex} {body : Sts} (hX1 : dZ dst) (hX2 : dZ val) (hS1 : jV body) : qD (.mk c a nm dst val body) := by
 intro F w u hF h
 obtain ⟨c', a', nm', dst', val', body', o1, o2, a5, k5, hs, rfl, h1, h2, h3⟩ := h
 cases hs
 exact yY hX1 hX2 hS1 w hF h1 h2 h3
theorem qE {F : Nat -> Prop} {g o : Nat} {s : St} (h : StIn w F g o s) : ∃ c a nm dst val thn els cs o1 o2 a5 k5 a6 k6 a7 k7, s = .mk c a nm dst val thn els cs /\ w.cell? ⟨g, o, none⟩ = some (.int .i64 (c : Nat)) /\ w.cell? ⟨g, o + 1, none⟩ = some (.int .i64 (a : Nat)) /\ w.cell? ⟨g, o + 2, none⟩ = some (.string (mkT nm)) /\ w.cell? ⟨g, o + 3, none⟩ = some (.pointer o1) /\ w.cell? ⟨g, o + 4, none⟩ = some (.pointer o2) /\ w.cell? ⟨g, o + 5, none⟩ = some (.slice a5 thn.len k5) /\ w.cell? ⟨g, o + 6, none⟩ = some (.slice a6 els.len k6) /\ w.cell? ⟨g, o + 7, none⟩ = some (.slice a7 cs.len k7) ∧
  StV w F (.pointer o1) (.pointer o2) (.slice a5 thn.len k5) (.slice a6 els.len k6) (.slice a7 cs.len k7) dst val thn els cs := by
 obtain ⟨c, a, nm, dst, val, thn, els, cs⟩ := s
 obtain ⟨tv, vv, nv, ev, cv, c0, c1, c2, c3, c4, c5, c6, c7, h1, h2, h3, h4, h5, h6, h7, h8⟩ := h
 obtain ⟨o1, rfl⟩ := aH h1
 obtain ⟨o2, rfl⟩ := aH h2
 obtain ⟨a5, k5, rfl⟩ := bM h3
 obtain ⟨a6, k6, rfl⟩ := bM h5
 obtain ⟨a7, k7, rfl⟩ := bM h7
 exact ⟨c, a, nm, dst, val, thn, els, cs, o1, o2, a5, k5, a6, k6, a7, k7, rfl, c0, c1, c2, c3, c4, c5, c6, c7, h1, h2, h3, h4, h5, h6, h7, h8⟩
theorem qF {F : Nat -> Prop} {g o : Nat} {s : Ca} (h : CaIn w F g o s) : ∃ c a nm dst val body o1 o2 a5 k5, s = .mk c a nm dst val body /\ w.cell? ⟨g, o, none⟩ = some (.int .i64 (c : Nat)) /\ w.cell? ⟨g, o + 1, none⟩ = some (.int .i64 (a : Nat)) /\ w.cell? ⟨g, o + 2, none⟩ = some (.string (mkT nm)) /\ w.cell? ⟨g, o + 3, none⟩ = some (.pointer o1) /\ w.cell? ⟨g, o + 4, none⟩ = some (.pointer o2) /\ w.cell? ⟨g, o + 5, none⟩ = some (.slice a5 body.len k5) /\ ExIn w F (.pointer o1) dst /\ ExIn w F (.pointer o2) val /\ StsF w F body (.slice a5 body.len k5) := by
 obtain ⟨c, a, nm, dst, val, body⟩ := s
 obtain ⟨tv, vv, nv, c0, c1, c2, c3, c4, c5, h1, h2, h3, h4⟩ := h
 obtain ⟨o1, rfl⟩ := aH h1
 obtain ⟨o2, rfl⟩ := aH h2
 obtain ⟨a5, k5, rfl⟩ := bM h3
 exact ⟨c, a, nm, dst, val, body, o1, o2, a5, k5, rfl, c0, c1, c2, c3, c4, c5, h1, h2, h3, h4⟩
theorem E8 {F : Nat -> Prop} {g : Nat} : ∀ (xs : Sts) (i : Nat), StsIn w F g i xs -> ∀ (j : Nat) (x : St), xs.toL[j]? = some x -> StIn w F g ((i + j) * 8) x
 | .nil, _, _, j, x, h => by simp [Tr.Sts.toL] at h
 | .cons y ys, i, ⟨h1, _⟩, 0, x, h => by
  have e : y = x := by simpa [Tr.Sts.toL] using h
  subst e; exact h1
 | .cons y ys, i, ⟨_, h2⟩, j + 1, x, h => by
  have := E8 ys (i + 1) h2 j x (by simpa [Tr.Sts.toL] using h)
  rw [show i + (j + 1) = i + 1 + j by omega]; exact this
theorem E9 {F : Nat -> Prop} {g : Nat} : ∀ (xs : Cas) (i : Nat), CasIn w F g i xs -> ∀ (j : Nat) (x : Ca), xs.toL[j]? = some x -> CaIn w F g ((i + j) * 6) x
 | .nil, _, _, j, x, h => by simp [Tr.Cas.toL] at h
 | .cons y ys, i, ⟨h1, _⟩, 0, x, h => by
  have e : y = x := by simpa [Tr.Cas.toL] using h
  subst e; exact h1
 | .cons y ys, i, ⟨_, h2⟩, j + 1, x, h => by
  have := E9 ys (i + 1) h2 j x (by simpa [Tr.Cas.toL] using h)
  rw [show i + (j + 1) = i + 1 + j by omega]; exact this
theorem FA {B : Nat} {v : Value} {vs : List Value} {xs : Sts} (hown : w.ownsRow B 71 8 v xs.len vs) (hv : RowS w (fun b => B <= b) vs xs) (h0 : xs.len = 0 -> v = .slice none 0 0) : StsF w (fun b => B <= b) xs v := by
 by_cases hz : xs.len = 0
 ·refine ⟨Or.inl ⟨h0 hz, hz⟩, fun g n cap e => ?_⟩
  rw [h0 hz] at e; cases e
 ·have hc := hown
  rcases hown.2 with ⟨_, e⟩ | ⟨g, cap, cur, rfl, hb, hg, h3, h4, _⟩
  ·exact absurd e hz
  ·refine ⟨Or.inr ⟨g, cap, rfl, h3, h4, by omega, hb⟩, fun g' n' cap' e => ?_⟩
   cases e
   refine RowS.lies xs vs 0 (fun j u hj => ?_) hv
   rw [show 0 * 8 + j = j by omega, World.ownsRow.cellAt hc j (by have := (List.getElem?_eq_some_iff.1 hj).1; have := hc.1; omega)]
   exact hj
theorem FB {B : Nat} {v : Value} {vs : List Value} {xs : Cas} (hown : w.ownsRow B 134 6 v xs.len vs) (hv : RowC w (fun b => B <= b) vs xs) (h0 : xs.len = 0 -> v = .slice none 0 0) : CasF w (fun b => B <= b) xs v := by
 by_cases hz : xs.len = 0
 ·refine ⟨Or.inl ⟨h0 hz, hz⟩, fun g n cap e => ?_⟩
  rw [h0 hz] at e; cases e
 ·have hc := hown
  rcases hown.2 with ⟨_, e⟩ | ⟨g, cap, cur, rfl, hb, hg, h3, h4, _⟩
  ·exact absurd e hz
  ·refine ⟨Or.inr ⟨g, cap, rfl, h3, h4, by omega, hb⟩, fun g' n' cap' e => ?_⟩
   cases e
   refine RowC.lies xs vs 0 (fun j u hj => ?_) hv
   rw [show 0 * 6 + j = j by omega, World.ownsRow.cellAt hc j (by have := (List.getElem?_eq_some_iff.1 hj).1; have := hc.1; omega)]
   exact hj
theorem n8 {ops : Array Oper} {rest : List Oper} {o : Oper} {a : Act} {Q : Exit -> Act -> World -> Prop} (hgd : o.guard = none) (s x : Operand)
  (ho : o.op = .call { callee := .builtin .append, args := #[s, x], argTypes := #[49, 49] }) (w : World) (B : Nat) (v : Value) (n : Nat) (xs us : List Value) (hus : us.length = 1 * 8) (h1us : ∀ u ∈ us, u.oneCell' = true) (hown : w.ownsRow B 71 8 v n xs) (hs : a.eval s = v)
  (g9 : Nat) (hx : a.eval x = .slice (some ⟨g9, 0, none⟩) 1 1) (hg9 : g9 = w.heap.size) (hl : n <= 1000000) (hB : B <= w.heap.size)
  (h : ∀ ao' cap' w', w'.ownsRow B 71 8 (.slice ao' (n + 1) cap') (n + 1) (xs ++ us) -> Keeps (fun b => v.ownBlock = some b) w w' -> (∀ k, (Value.slice ao' (n + 1) cap').ownBlock = some k -> v.ownBlock = some k \/ w.heap.size <= k) ->
   wpList Tryz.prog ops Q rest (a.put o.dst (.slice ao' (n + 1) cap')) w') : wpList Tryz.prog ops Q (o :: rest) a (w.alloc (.cells us.toArray 71)) := by
 subst hg9
 obtain ⟨i0, hi, hz0, hz1, hz2⟩ := info_parts nY
 refine wpList_append_own_at _ hgd s x 49 ho B 71 i0 (.agg #[.int .i64 0, .int .i64 0, .string ByteArray.empty, .pointer none, .pointer none, .slice none 0 0, .slice none 0 0, .slice none 0 0]) 8 120 Tryz.underlying49 hi hz0 hz1 hz2 rfl (by decide) v n xs hs (World.ownsRow.alloc hown _) ⟨w.heap.size, 0, none⟩ 1 1 us hx hus
  (mD _ _ _) h1us (by unfold maxLen; omega) (by omega) (by simp; omega) ?_
 intro v' w' h1 h2 _ h4
 have hv' : ∃ ao' cap', v' = .slice ao' (n + 1) cap' := by
  rcases h1.2 with ⟨_, h0⟩ | ⟨g, cap', cur, rfl, _⟩
  ·omega
  ·exact ⟨_, _, rfl⟩
 obtain ⟨ao', cap', rfl⟩ := hv'
 refine h ao' cap' w' h1 (eH h2 (fun k e => e)) (fun k e => ?_)
 rcases h4 with h5 | h5
 ·exact Or.inl (h5 ▸ e)
 ·rw [h5] at e
  have := Option.some.inj e
  exact Or.inr (by simp at this; omega)
theorem wV {xs : Sts} (hA : ∀ x ∈ xs.toL, qC x) (hsz : xs.len <= 1000000) {F : Nat -> Prop} (w : World) (v : Value) (hx : StsF w F xs v) (hF : ∀ b, F b -> b < w.heap.size) :
  Calls Tryz.prog 122 #[v, .func (.func 123) #[] #[]] w fun e w' => ∃ sv, e = .returned sv /\ StsF w' (fun b => w.heap.size <= b) (aD xs) sv /\ Below w.heap.size w w' := by
 obtain ⟨ao, cap, rfl⟩ := bM hx.1
 have HA := zz hA
 have HN := zz hsz
 have HLL := zz (qB xs)
 have HW : Hid (∀ W, Below w.heap.size w W -> StsF W (fun b => b < w.heap.size) xs (.slice ao xs.len cap)) := zz fun W hb =>
  cR (cG (fun b _ e => hF b e) hx) (Keeps.of_below (S := fun k => w.heap.size <= k) hb (fun _ _ e => e)) (fun b e e2 => by have h9 : w.heap.size <= b := e2; have h8 : b < w.heap.size := e; omega)
 clear hA hx hsz hF
 go_enter Tryz.func122, Tryz.ntmps122
 go_wp2_with fail
 go_loopw [5, 12] (fun v i wr => ∃ (k : Nat) (vals : List Value), k <= xs.len /\ i = .int .i64 k /\ wr.ownsRow w.heap.size 71 8 v (mE .nil (xs.toL.take k)).len vals /\ RowS wr (fun b => w.heap.size <= b /\ v.ownBlock ≠ some b) vals (mE .nil (xs.toL.take k)) /\ Below w.heap.size w wr /\ ((mE .nil (xs.toL.take k)).len = 0 -> v = .slice none 0 0)) (fun _ i _ => xs.len - (intOf i).toNat)
 case atStart => exact ⟨0, [], Nat.zero_le _, rfl, World.ownsRow_nil _ _ _ _, rfl, Below.refl _ _, fun _ => rfl⟩
 case round =>
  obtain ⟨k, vals, hk, rfl, hown, hvals, hb, h0⟩ := hrel
  have hn := HN.out
  have haccl := wT (xs.toL.take k) .nil
  have hnil : (Sts.nil).len = 0 := rfl
  rw [hnil, List.length_take] at haccl
  obtain ⟨acc, hacc⟩ : ∃ acc, acc = mE .nil (xs.toL.take k) := ⟨_, rfl⟩
  rw [<- hacc] at hown hvals h0 haccl
  have HACC := zz hacc
  have HAL : Hid (acc.len <= 1000000) := zz (by omega)
  obtain ⟨ao1, cap1, hform⟩ : ∃ ao1 cap1, u5 = .slice ao1 acc.len cap1 := by
   rcases hown.2 with ⟨e1, e2⟩ | ⟨g, c, cur, e1, _⟩
   ·exact ⟨none, 0, by rw [e1, e2]⟩
   ·exact ⟨_, _, e1⟩
  subst hform
  have HOW := zz hown
  have HVL := zz hvals
  have HBL := zz hb
  have H0 := zz h0
  clear hown hvals hb h0 hacc haccl hnil
  by_cases hlt : k < xs.len
  ·obtain ⟨x, hkx⟩ : ∃ x, xs.toL[k]? = some x := ⟨_, List.getElem?_eq_getElem (by rw [HLL.out]; exact hlt)⟩
   have hw0 := HW.out wr HBL.out
   obtain ⟨g, rfl⟩ : ∃ g, ao = some ⟨g, 0, none⟩ := by
    rcases hw0.1 with ⟨_, e0⟩ | ⟨g, cp, e, _⟩
    ·omega
    ·injection e with e1 _ _; exact ⟨g, e1⟩
   have hin := E8 xs 0 (hw0.2 g _ _ rfl) k x hkx
   rw [Nat.zero_add] at hin
   obtain ⟨c, a, nm, dst, val, thn, els, cs, o1, o2, a5, k5, a6, k6, a7, k7, rfl, c0, c1, c2, c3, c4, c5, c6, c7, hv⟩ := qE hin
   have hki : (k : Int) < (xs.len : Int) := by omega
   have hkii : (0 : Int) <= (k : Int) /\ (k : Int) < (xs.len : Int) := by omega
   have hw : IntKind.i64.wrap ((k : Int) + 1) = (k : Int) + 1 := IntWalk.i64_in _ (by omega)
   have hmem := List.mem_of_getElem? hkx
   have HTK : Hid (xs.toL.take (k + 1) = xs.toL.take k ++ [(Tr.St.mk c a nm dst val thn els cs)]) := zz (by rw [List.take_add_one, hkx]; rfl)
   obtain ⟨wq, hwq⟩ : ∃ W, W = wr.alloc (.cells #[.int .i64 (c : Nat), .int .i64 (a : Nat), .string (mkT nm), .pointer o1, .pointer o2, .slice a5 thn.len k5, .slice a6 els.len k6, .slice a7 cs.len k7] 71) := ⟨_, rfl⟩
   have HWQ := zz hwq
   have hbq : Below wr.heap.size wr wq := by rw [hwq]; exact cF wr _ _
   have HBQ := zz (HBL.out.trans (hbq.mono HBL.out.size))
   have HLO := zz (World.ownsRow.lt HOW.out)
   have HBQ1 := zz hbq
   have hvq := hv.keeps (Keeps.of_below (S := fun k => wr.heap.size <= k) HBQ1.out (fun _ _ e => e)) (fun b e e2 => by have h9 : wr.heap.size <= b := e2; have h8 : b < w.heap.size := e; have := HBL.out.size; omega)
   have HE := zz (HA.out _ hmem (fun b => b < w.heap.size) wq _ (fun b hb => Nat.lt_of_lt_of_le hb HBQ.out.size) ⟨c, a, nm, dst, val, thn, els, cs, o1, o2, a5, k5, a6, k6, a7, k7, rfl, rfl, hvq⟩)
   unfold iD at HE
   clear hvq
   clear hkx hmem hin hw0 hwq hbq hv
   go_wp2_with fail
   rw [<- HWQ.out]
   refine HE.out.mono ?_
   rintro e w2 ⟨u', b, y, rfl, hst, hdec, hb2⟩
   obtain ⟨c', a', nm', dst', val', thn', els', cs', o1', o2', a5', k5', a6', k6', a7', k7', rfl, rfl, hv'⟩ := hst
   have HB2 : Hid (Below w.heap.size w w2) := zz (HBQ.out.trans (hb2.mono HBQ.out.size))
   have HK2 : Hid (Keeps (fun b => wr.heap.size <= b) wr w2) := zz (Keeps.of_below (S := fun k => wr.heap.size <= k) (HBQ1.out.trans (hb2.mono HBQ1.out.size)) (fun _ _ e => e))
   have HSQ := zz HBQ1.out.size
   have HV2 := zz hv'
   have HD2 := zz hdec
   obtain ⟨w2a, hw2a⟩ : ∃ W, W = w2.alloc (.cells #[.int .i64 (c' : Nat), .int .i64 (a' : Nat), .string (mkT nm'), .pointer o1', .pointer o2', .slice a5' thn'.len k5', .slice a6' els'.len k6', .slice a7' cs'.len k7'] 71) := ⟨_, rfl⟩
   have HW2 := zz hw2a
   have hba : Below w2.heap.size w2 w2a := by rw [hw2a]; exact cF w2 _ _
   have HBA := zz hba
   have HB2a := zz (HB2.out.trans (hba.mono HB2.out.size))
   have HSZ : Hid (w.heap.size <= w2a.heap.size) := zz HB2a.out.size
   have HKA : Hid (Keeps (fun b => wr.heap.size <= b) wr w2a) := zz (HK2.out.trans (Keeps.of_below (S := fun k => wr.heap.size <= k) hba (fun b _ e => Nat.le_trans HK2.out.size e)))
   have HOW2 : Hid (w2a.ownsRow w.heap.size 71 8 (.slice ao1 acc.len cap1) acc.len vals) := zz (HKA.out.row HOW.out (fun b e e2 => by have := (HLO.out b e).2; have h9 : wr.heap.size <= b := e2; omega))
   clear hb2 hv' hdec hba hw2a
   unfold iD
   cases b with
   | true =>
    go_wp2_with (at_builtin; rw [<- HW2.out]; refine n8 rfl _ _ rfl w2a w.heap.size _ acc.len vals [.int .i64 (c' : Nat), .int .i64 (a' : Nat), .string (mkT nm'), .pointer o1', .pointer o2', .slice a5' thn'.len k5', .slice a6' els'.len k6', .slice a7' cs'.len k7'] rfl (by intro u hu; simp at hu; rcases hu with rfl | rfl | rfl | rfl | rfl | rfl | rfl | rfl <;> rfl) HOW2.out rfl _ rfl (by rw [HW2.out]; simp) HAL.out HSZ.out ?_; intro ao' cap' w3 hO3 hK3 hN3)
    have HO3 := zz hO3
    have HK3 := zz hK3
    have HN3 := zz hN3
    clear hO3 hK3 hN3
    go_wp2_with fail
    go_roundw
    case rel =>
     have hz2 := HBA.out.size
     have hbl := HBL.out.size
     have hzq := HSQ.out
     have hz2w := HK2.out.size
     have h1 : RowS w2a (fun b => w.heap.size <= b /\ (Value.slice ao1 acc.len cap1).ownBlock ≠ some b /\ b < wr.heap.size) vals acc := RowS.keeps HKA.out (fun b e e2 => by have h9 : wr.heap.size <= b := e2; omega) _ _ (RowS.mono (fun b hb e => ⟨e.1, e.2, hb⟩) _ _ HVL.out)
     have hac : mE .nil (xs.toL.take (k + 1)) = acc.snoc (.mk c' a' nm' dst' val' thn' els' cs') := by rw [HTK.out, nZ, <- HACC.out, show eL (Tr.St.mk c a nm dst val thn els cs) = some (.mk c' a' nm' dst' val' thn' els' cs') from HD2.out]
     refine ⟨k + 1, _, by omega, by go_num, by rw [hac, Sts.len_snoc]; exact HO3.out, ?_, ?_, fun e => absurd e (by rw [hac, Sts.len_snoc]; omega)⟩
     ·rw [hac]
      refine RowS.snoc ?_ _ _ ?_
      ·exact ⟨_, _, _, _, _, rfl, StV.mono (fun b _ e => ⟨by have := e.1; omega, fun e4 => by
     rcases HN3.out b e4 with h | h
     ·have := (HLO.out b h).2; have := e.1; omega
     ·have := e.2; omega⟩) (StV.keeps (StV.mono (G := fun b => wq.heap.size <= b /\ b < w2a.heap.size) (fun b hb e => ⟨e, hb⟩) (HV2.out.grow HBA.out)) HK3.out (fun b e e2 => by have := (HLO.out b e2).2; have := e.1; omega))⟩
      ·exact RowS.mono (fun b _ e => ⟨e.1, fun e4 => by
        rcases HN3.out b e4 with h | h
        ·exact e.2.1 h
        ·omega⟩) _ _ (RowS.keeps HK3.out (fun b e e2 => e.2.1 e2) _ _ h1)
     ·exact HB2a.out.trans (HK3.out.below HSZ.out (fun b _ e => by have := (HLO.out b e).1; omega))
    case measure => simp [intOf]; omega
   | false =>
    go_wp2_with fail
    go_roundw
    case rel =>
     have hz2 := HBA.out.size
     have hbl := HBL.out.size
     have hzq := HSQ.out
     have hz2w := HK2.out.size
     have h1 : RowS w2a (fun b => w.heap.size <= b /\ (Value.slice ao1 acc.len cap1).ownBlock ≠ some b /\ b < wr.heap.size) vals acc := RowS.keeps HKA.out (fun b e e2 => by have h9 : wr.heap.size <= b := e2; omega) _ _ (RowS.mono (fun b hb e => ⟨e.1, e.2, hb⟩) _ _ HVL.out)
     have hac : mE .nil (xs.toL.take (k + 1)) = acc := by rw [HTK.out, nZ, <- HACC.out, show eL (Tr.St.mk c a nm dst val thn els cs) = none from HD2.out]
     have hown2 := HOW2.out
     have h2 : RowS w2a (fun b => w.heap.size <= b /\ (Value.slice ao1 acc.len cap1).ownBlock ≠ some b) vals acc := RowS.mono (fun b _ e => ⟨e.1, e.2.1⟩) _ _ h1
     have h3 := HB2a.out
     rw [HW2.out] at hown2 h2 h3
     exact ⟨k + 1, vals, by omega, by go_num, by rw [hac]; exact hown2, by rw [hac]; exact h2, h3, by rw [hac]; exact H0.out⟩
    case measure => simp [intOf]; omega
  ·have hki : ¬ (k : Int) < (xs.len : Int) := by omega
   have hkk : k = xs.len := by omega
   subst hkk
   go_wp2_with fail
   go_ret
   have hfl : acc = aD xs := by
    rw [HACC.out, List.take_of_length_le (by rw [HLL.out]; exact Nat.le_refl _)]
    exact CY xs
   refine ⟨_, rfl, ?_, HBL.out⟩
   rw [<- hfl]
   exact FA HOW.out (RowS.mono (fun b _ e => e.1) _ _ HVL.out) H0.out
theorem n9 {ops : Array Oper} {rest : List Oper} {o : Oper} {a : Act} {Q : Exit -> Act -> World -> Prop} (hgd : o.guard = none) (s x : Operand)
  (ho : o.op = .call { callee := .builtin .append, args := #[s, x], argTypes := #[69, 69] }) (w : World) (B : Nat) (v : Value) (n : Nat) (xs us : List Value) (hus : us.length = 1 * 6) (h1us : ∀ u ∈ us, u.oneCell' = true) (hown : w.ownsRow B 134 6 v n xs) (hs : a.eval s = v)
  (g9 : Nat) (hx : a.eval x = .slice (some ⟨g9, 0, none⟩) 1 1) (hg9 : g9 = w.heap.size) (hl : n <= 1000000) (hB : B <= w.heap.size)
  (h : ∀ ao' cap' w', w'.ownsRow B 134 6 (.slice ao' (n + 1) cap') (n + 1) (xs ++ us) -> Keeps (fun b => v.ownBlock = some b) w w' -> (∀ k, (Value.slice ao' (n + 1) cap').ownBlock = some k -> v.ownBlock = some k \/ w.heap.size <= k) ->
   wpList Tryz.prog ops Q rest (a.put o.dst (.slice ao' (n + 1) cap')) w') : wpList Tryz.prog ops Q (o :: rest) a (w.alloc (.cells us.toArray 134)) := by
 subst hg9
 obtain ⟨i0, hi, hz0, hz1, hz2⟩ := info_parts sF
 refine wpList_append_own_at _ hgd s x 69 ho B 134 i0 (.agg #[.int .i64 0, .int .i64 0, .string ByteArray.empty, .pointer none, .pointer none, .slice none 0 0]) 6 72 Tryz.underlying69 hi hz0 hz1 hz2 rfl (by decide) v n xs hs (World.ownsRow.alloc hown _) ⟨w.heap.size, 0, none⟩ 1 1 us hx hus
  (mD _ _ _) h1us (by unfold maxLen; omega) (by omega) (by simp; omega) ?_
 intro v' w' h1 h2 _ h4
 have hv' : ∃ ao' cap', v' = .slice ao' (n + 1) cap' := by
  rcases h1.2 with ⟨_, h0⟩ | ⟨g, cap', cur, rfl, _⟩
  ·omega
  ·exact ⟨_, _, rfl⟩
 obtain ⟨ao', cap', rfl⟩ := hv'
 refine h ao' cap' w' h1 (eH h2 (fun k e => e)) (fun k e => ?_)
 rcases h4 with h5 | h5
 ·exact Or.inl (h5 ▸ e)
 ·rw [h5] at e
  have := Option.some.inj e
  exact Or.inr (by simp at this; omega)
theorem wW {xs : Cas} (hA : ∀ x ∈ xs.toL, qD x) (hsz : xs.len <= 1000000) {F : Nat -> Prop} (w : World) (v : Value) (hx : CasF w F xs v) (hF : ∀ b, F b -> b < w.heap.size) :
    Calls Tryz.prog 174 #[v, .func (.func 175) #[] #[]] w fun e w' => ∃ sv, e = .returned sv /\ CasF w' (fun b => w.heap.size <= b) (bC xs) sv /\ Below w.heap.size w w' := by
  obtain ⟨ao, cap, rfl⟩ := bM hx.1
  have HA := zz hA
  have HN := zz hsz
  have HLL := zz (qA xs)
  have HW : Hid (∀ W, Below w.heap.size w W -> CasF W (fun b => b < w.heap.size) xs (.slice ao xs.len cap)) := zz fun W hb =>
    p9 (mC (fun b _ e => hF b e) hx) (Keeps.of_below (S := fun k => w.heap.size <= k) hb (fun _ _ e => e)) (fun b e e2 => by have h9 : w.heap.size <= b := e2; have h8 : b < w.heap.size := e; omega)
  clear hA hx hsz hF
  go_enter Tryz.func174, Tryz.ntmps174
  go_wp2_with fail
  go_loopw [5, 12] (fun v i wr => ∃ (k : Nat) (vals : List Value), k <= xs.len /\ i = .int .i64 k /\ wr.ownsRow w.heap.size 134 6 v (n7 .nil (xs.toL.take k)).len vals /\ RowC wr (fun b => w.heap.size <= b /\ v.ownBlock ≠ some b) vals (n7 .nil (xs.toL.take k)) /\ Below w.heap.size w wr /\ ((n7 .nil (xs.toL.take k)).len = 0 -> v = .slice none 0 0)) (fun _ i _ => xs.len - (intOf i).toNat)
  case atStart => exact ⟨0, [], Nat.zero_le _, rfl, World.ownsRow_nil _ _ _ _, rfl, Below.refl _ _, fun _ => rfl⟩
  case round =>
    obtain ⟨k, vals, hk, rfl, hown, hvals, hb, h0⟩ := hrel
    have hn := HN.out
    have haccl := wU (xs.toL.take k) .nil
    have hnil : (Cas.nil).len = 0 := rfl
    rw [hnil, List.length_take] at haccl
    obtain ⟨acc, hacc⟩ : ∃ acc, acc = n7 .nil (xs.toL.take k) := ⟨_, rfl⟩
    rw [<- hacc] at hown hvals h0 haccl
    have HACC := zz hacc
    have HAL : Hid (acc.len <= 1000000) := zz (by omega)
    obtain ⟨ao1, cap1, hform⟩ : ∃ ao1 cap1, u5 = .slice ao1 acc.len cap1 := by
      rcases hown.2 with ⟨e1, e2⟩ | ⟨g, c, cur, e1, _⟩
      · exact ⟨none, 0, by rw [e1, e2]⟩
      · exact ⟨_, _, e1⟩
    subst hform
    have HOW := zz hown
    have HVL := zz hvals
    have HBL := zz hb
    have H0 := zz h0
    clear hown hvals hb h0 hacc haccl hnil
    by_cases hlt : k < xs.len
    · obtain ⟨x, hkx⟩ : ∃ x, xs.toL[k]? = some x := ⟨_, List.getElem?_eq_getElem (by rw [HLL.out]; exact hlt)⟩
      have hw0 := HW.out wr HBL.out
      obtain ⟨g, rfl⟩ : ∃ g, ao = some ⟨g, 0, none⟩ := by
        rcases hw0.1 with ⟨_, e0⟩ | ⟨g, cp, e, _⟩
        · omega
        · injection e with e1 _ _; exact ⟨g, e1⟩
      have hin := E9 xs 0 (hw0.2 g _ _ rfl) k x hkx
      rw [Nat.zero_add] at hin
      obtain ⟨c, a, nm, dst, val, body, o1, o2, a5, k5, rfl, c0, c1, c2, c3, c4, c5, hv1, hv2, hv3⟩ := qF hin
      have hki : (k : Int) < (xs.len : Int) := by omega
      have hkii : (0 : Int) <= (k : Int) /\ (k : Int) < (xs.len : Int) := by omega
      have hw : IntKind.i64.wrap ((k : Int) + 1) = (k : Int) + 1 := IntWalk.i64_in _ (by omega)
      have hmem := List.mem_of_getElem? hkx
      have HTK : Hid (xs.toL.take (k + 1) = xs.toL.take k ++ [(Tr.Ca.mk c a nm dst val body)]) := zz (by rw [List.take_add_one, hkx]; rfl)
      obtain ⟨wq, hwq⟩ : ∃ W, W = wr.alloc (.cells #[.int .i64 (c : Nat), .int .i64 (a : Nat), .string (mkT nm), .pointer o1, .pointer o2, .slice a5 body.len k5] 134) := ⟨_, rfl⟩
      have HWQ := zz hwq
      have hbq : Below wr.heap.size wr wq := by rw [hwq]; exact cF wr _ _
      have HBQ := zz (HBL.out.trans (hbq.mono HBL.out.size))
      have HLO := zz (World.ownsRow.lt HOW.out)
      have HBQ1 := zz hbq
      have hkq : Keeps (fun k => wr.heap.size <= k) wr wq := Keeps.of_below (S := fun k => wr.heap.size <= k) HBQ1.out (fun _ _ e => e)
      have hnq : ∀ b, b < w.heap.size -> ¬ wr.heap.size <= b := fun b e e2 => by have := HBL.out.size; omega
      have HE := zz (HA.out _ hmem (fun b => b < w.heap.size) wq _ (fun b hb => Nat.lt_of_lt_of_le hb HBQ.out.size) ⟨c, a, nm, dst, val, body, o1, o2, a5, k5, rfl, rfl, hv1.keeps hkq hnq, hv2.keeps hkq hnq, cR hv3 hkq hnq⟩)
      unfold nA at HE
      clear hkq hnq
      clear hkx hmem hin hw0 hwq hbq hv1 hv2 hv3
      go_wp2_with fail
      rw [<- HWQ.out]
      refine HE.out.mono ?_
      rintro e w2 ⟨u', rfl, hst, hb2⟩
      obtain ⟨c', a', nm', dst', val', body', o1', o2', a5', k5', hdec, rfl, hv1', hv2', hv3'⟩ := hst
      have hv' := And.intro hv1' (And.intro hv2' hv3')
      have HB2 : Hid (Below w.heap.size w w2) := zz (HBQ.out.trans (hb2.mono HBQ.out.size))
      have HK2 : Hid (Keeps (fun b => wr.heap.size <= b) wr w2) := zz (Keeps.of_below (S := fun k => wr.heap.size <= k) (HBQ1.out.trans (hb2.mono HBQ1.out.size)) (fun _ _ e => e))
      have HSQ := zz HBQ1.out.size
      have HV2 := zz hv'
      have HD2 := zz hdec
      obtain ⟨w2a, hw2a⟩ : ∃ W, W = w2.alloc (.cells #[.int .i64 (c' : Nat), .int .i64 (a' : Nat), .string (mkT nm'), .pointer o1', .pointer o2', .slice a5' body'.len k5'] 134) := ⟨_, rfl⟩
      have HW2 := zz hw2a
      have hba : Below w2.heap.size w2 w2a := by rw [hw2a]; exact cF w2 _ _
      have HBA := zz hba
      have HB2a := zz (HB2.out.trans (hba.mono HB2.out.size))
      have HSZ : Hid (w.heap.size <= w2a.heap.size) := zz HB2a.out.size
      have HKA : Hid (Keeps (fun b => wr.heap.size <= b) wr w2a) := zz (HK2.out.trans (Keeps.of_below (S := fun k => wr.heap.size <= k) hba (fun b _ e => Nat.le_trans HK2.out.size e)))
      have HOW2 : Hid (w2a.ownsRow w.heap.size 134 6 (.slice ao1 acc.len cap1) acc.len vals) := zz (HKA.out.row HOW.out (fun b e e2 => by have := (HLO.out b e).2; have h9 : wr.heap.size <= b := e2; omega))
      clear hb2 hv' hdec hba hw2a
      unfold nA
      go_wp2_with (at_builtin; rw [<- HW2.out]; refine n9 rfl _ _ rfl w2a w.heap.size _ acc.len vals [.int .i64 (c' : Nat), .int .i64 (a' : Nat), .string (mkT nm'), .pointer o1', .pointer o2', .slice a5' body'.len k5'] rfl (by intro u hu; simp at hu; rcases hu with rfl | rfl | rfl | rfl | rfl | rfl <;> rfl) HOW2.out rfl _ rfl (by rw [HW2.out]; simp) HAL.out HSZ.out ?_; intro ao' cap' w3 hO3 hK3 hN3)
      have HO3 := zz hO3
      have HK3 := zz hK3
      have HN3 := zz hN3
      clear hO3 hK3 hN3
      go_wp2_with fail
      go_roundw
      case rel =>
        have hz2 := HBA.out.size
        have hbl := HBL.out.size
        have hzq := HSQ.out
        have hz2w := HK2.out.size
        have h1 : RowC w2a (fun b => w.heap.size <= b /\ (Value.slice ao1 acc.len cap1).ownBlock ≠ some b /\ b < wr.heap.size) vals acc := RowC.keeps HKA.out (fun b e e2 => by have h9 : wr.heap.size <= b := e2; omega) _ _ (RowC.mono (fun b hb e => ⟨e.1, e.2, hb⟩) _ _ HVL.out)
        have hac : n7 .nil (xs.toL.take (k + 1)) = acc.snoc (.mk c' a' nm' dst' val' body') := by rw [HTK.out, sI, <- HACC.out, HD2.out]
        refine ⟨k + 1, _, by omega, by go_num, by rw [hac, Cas.len_snoc]; exact HO3.out, ?_, ?_, fun e => absurd e (by rw [hac, Cas.len_snoc]; omega)⟩
        · rw [hac]
          refine RowC.snoc ?_ _ _ ?_
          · have hm := HV2.out
            have hG : ∀ b, b < w2a.heap.size -> wq.heap.size <= b -> wq.heap.size <= b /\ b < w2a.heap.size := fun b h1 h2 => ⟨h2, h1⟩
            have hKB : ∀ b, wq.heap.size <= b /\ b < w2a.heap.size -> ¬ (Value.slice ao1 acc.len cap1).ownBlock = some b := (fun b e e2 => by have := (HLO.out b e2).2; have := e.1; omega)
            have hFR : ∀ b, b < w3.heap.size -> wq.heap.size <= b /\ b < w2a.heap.size -> w.heap.size <= b /\ (Value.slice ao' (acc.len + 1) cap').ownBlock ≠ some b := (fun b _ e => ⟨by have := e.1; omega, fun e4 => by
        rcases HN3.out b e4 with h | h
        · have := (HLO.out b h).2; have := e.1; omega
        · have := e.2; omega⟩)
            have hg3 := dI (k := wq.heap.size) hm.2.2 (Keeps.of_below (S := fun k => w2.heap.size <= k) HBA.out (fun _ _ e => e)) (fun b _ h2 e => by have h9 : w2.heap.size <= b := e; omega) (Nat.le_refl _)
            have hg4 := cG hFR (cR (cG hG hg3) HK3.out hKB)
            exact ⟨_, _, _, rfl, ExIn.mono hFR _ _ ((ExIn.mono hG _ _ (hm.1.grow HBA.out)).keeps HK3.out hKB), ExIn.mono hFR _ _ ((ExIn.mono hG _ _ (hm.2.1.grow HBA.out)).keeps HK3.out hKB), hg4.1, hg4.2⟩
          · exact RowC.mono (fun b _ e => ⟨e.1, fun e4 => by
              rcases HN3.out b e4 with h | h
              · exact e.2.1 h
              · omega⟩) _ _ (RowC.keeps HK3.out (fun b e e2 => e.2.1 e2) _ _ h1)
        · exact HB2a.out.trans (HK3.out.below HSZ.out (fun b _ e => by have := (HLO.out b e).1; omega))
      case measure => simp [intOf]; omega
    · have hki : ¬ (k : Int) < (xs.len : Int) := by omega
      have hkk : k = xs.len := by omega
      subst hkk
      go_wp2_with fail
      go_ret
      have hfl : acc = bC xs := by
        rw [HACC.out, List.take_of_length_le (by rw [HLL.out]; exact Nat.le_refl _)]
        exact CZ xs
      refine ⟨_, rfl, ?_, HBL.out⟩
      rw [<- hfl]
      exact FB HOW.out (RowC.mono (fun b _ e => e.1) _ _ HVL.out) H0.out
mutual
def szS : St -> Nat
 | .mk _ _ _ dst val thn els cs => 1 + szE dst + szE val + iT thn + iT els + mF cs
def iT : Sts -> Nat
 | .nil => 0
 | .cons s ss => szS s + iT ss
def szC : Ca -> Nat
 | .mk _ _ _ dst val body => 1 + szE dst + szE val + iT body
def mF : Cas -> Nat
 | .nil => 0
 | .cons c cs => szC c + mF cs
end
theorem kT : ∀ xs : Sts, xs.len <= iT xs
 | .nil => Nat.zero_le _
 | .cons (.mk c a nm dst val thn els cs) ss => by
  have := kT ss
  show ss.len + 1 <= _
  rw [iT, szS]; omega
theorem wX : ∀ xs : Cas, xs.len <= mF xs
 | .nil => Nat.zero_le _
 | .cons (.mk c a nm dst val body) ss => by
  have := wX ss
  show ss.len + 1 <= _
  rw [mF, szC]; omega
theorem lD {xs : Sts} (hA : ∀ x ∈ xs.toL, qC x) (hsz : xs.len <= 1000000) : jV xs := by
 intro F w v hx hF
 have HE := zz (wV hA hsz w v hx hF)
 obtain ⟨ao, cap, rfl⟩ := bM hx.1
 clear hA hsz hx hF
 go_enter Tryz.func75, Tryz.ntmps75
 go_wp2_with fail
 refine HE.out.mono ?_
 rintro e w2 ⟨sv, rfl, hs, hb⟩
 go_wp2_with fail
 go_ret
 exact ⟨_, rfl, hs, hb⟩
theorem C2 {xs : Cas} (hA : ∀ x ∈ xs.toL, qD x) (hsz : xs.len <= 1000000) : yV xs := by
 intro F w v hx hF
 have HE := zz (wW hA hsz w v hx hF)
 obtain ⟨ao, cap, rfl⟩ := bM hx.1
 clear hA hsz hx hF
 go_enter Tryz.func125, Tryz.ntmps125
 go_wp2_with fail
 refine HE.out.mono ?_
 rintro e w2 ⟨sv, rfl, hs, hb⟩
 go_wp2_with fail
 go_ret
 exact ⟨_, rfl, hs, hb⟩
mutual
theorem FC : ∀ s : St, rI s -> szS s <= 1000000 -> qC s
 | .mk c a nm dst val thn els cs, h, hz => by
  rw [szS] at hz
  exact C0 (f8 dst h.1 (by omega)) (f8 val h.2.1 (by omega)) (lD (jG thn h.2.2.1 (by omega)) (by have := kT thn; omega)) (lD (jG els h.2.2.2.1 (by omega)) (by have := kT els; omega)) (C2 (sK cs h.2.2.2.2 (by omega)) (by have := wX cs; omega))
theorem jG : ∀ xs : Sts, fQ xs -> iT xs <= 1000000 -> ∀ x ∈ xs.toL, qC x
 | .nil, _, _, x, hx => by cases hx
 | .cons y ys, h, hz, x, hx => by
  rw [iT] at hz
  rcases List.mem_cons.1 hx with e | e
  ·rw [e]; exact FC y h.1 (by omega)
  ·exact jG ys h.2 (by omega) x e
theorem FD : ∀ s : Ca, yJ s -> szC s <= 1000000 -> qD s
 | .mk c a nm dst val body, h, hz => by
  rw [szC] at hz
  exact C1 (f8 dst h.1 (by omega)) (f8 val h.2.1 (by omega)) (lD (jG body h.2.2 (by omega)) (by have := kT body; omega))
theorem sK : ∀ xs : Cas, mV xs -> mF xs <= 1000000 -> ∀ x ∈ xs.toL, qD x
 | .nil, _, _, x, hx => by cases hx
 | .cons y ys, h, hz, x, hx => by
  rw [mF] at hz
  rcases List.mem_cons.1 hx with e | e
  ·rw [e]; exact FD y h.1 (by omega)
  ·exact sK ys h.2 (by omega) x e
end
theorem yZ (xs : Sts) (h : fQ xs) (hz : iT xs <= 1000000) : jV xs := lD (jG xs h hz) (Nat.le_trans (kT xs) hz)
theorem sL (w : World) (e : TypeId) (size : Nat) : (w.alloc (.cells #[] e)).ownsRow w.heap.size e size (.slice (some ⟨w.heap.size, 0, none⟩) 0 0) 0 [] :=
 ⟨by simp, Or.inr ⟨w.heap.size, 0, #[], rfl, Nat.le_refl _, heap_alloc_new w _, Nat.le_refl _, Nat.zero_le _, by simp, by simp⟩⟩
theorem sM {g : Nat} : ∀ (l : List Gl) (o : Nat), (∀ i p, l[i]? = some p -> w.cell? ⟨g, o + i * 2, none⟩ = some (.string (mkT p.name)) /\ w.cell? ⟨g, o + i * 2 + 1, none⟩ = some (.int .i64 (p.at_ : Nat))) -> ∀ j u, (bO l)[j]? = some u -> w.cell? ⟨g, o + j, none⟩ = some u
 | [], _, _, _, _, h => by cases h
 | p :: l, o, hl, j, u, h => by
  obtain ⟨a0, a1⟩ := hl 0 p rfl
  rw [show o + 0 * 2 = o by omega] at a0 a1
  match j, h with
  | 0, h => cases h; exact a0
  | 1, h => cases h; exact a1
  | j + 2, h =>
   have := sM l (o + 2) (fun i q hi => by
    have h2 := hl (i + 1) q hi
    rw [show o + (i + 1) * 2 = o + 2 + i * 2 by omega] at h2
    exact h2) j u h
   rw [show o + (j + 2) = o + 2 + j by omega]
   exact this
theorem C3 (w : World) : (binOp BinOp.eql 23 (.slice none 0 0) (.slice none 0 0)).run Tryz.prog w = .ok (.bool true) w := by kernel_rfl
theorem zA (g n c : Nat) (w : World) : (binOp BinOp.eql 23 (.slice (some ⟨g, 0, none⟩) n c) (.slice none 0 0)).run Tryz.prog w = .ok (.bool false) w := by kernel_rfl
theorem AV : ∀ (l : List Gl), ∀ y ∈ bO l, y.oneCell' = true
 | [], y, h => by cases h
 | p :: l, y, h => by
  have h' : y ∈ [Value.string (mkT p.name), Value.int .i64 (p.at_ : Nat)] ++ bO l := h
  rcases List.mem_append.1 h' with h | h
  ·simp at h; rcases h with rfl | rfl <;> rfl
  ·exact AV l y h
theorem AW : ∀ l : List Gl, (bO l).length = l.length * 2
 | [] => rfl
 | p :: l => by
  show ([Value.string (mkT p.name), Value.int .i64 (p.at_ : Nat)] ++ bO l).length = (l.length + 1) * 2
  rw [List.length_append, AW l]
  simp only [List.length_cons, List.length_nil]
  omega
theorem IA {B : Nat} {v : Value} {l : List Gl} (hown : w.ownsRow B 54 2 v l.length (bO l)) (hpos : 0 < l.length) : hH w (fun b => B <= b) v l := by
 have hc := hown
 rcases hown.2 with ⟨_, e⟩ | ⟨g, cap, cur, rfl, hb, hg, h3, h4, _⟩
 ·omega
 ·refine Or.inr ⟨g, cap, rfl, h3, h4, hb, hpos, fun i p hi => ?_⟩
  obtain ⟨a0, a1⟩ := mB l i p hi
  have hin := (List.getElem?_eq_some_iff.1 hi).1
  refine ⟨?_, ?_⟩
  ·rw [World.ownsRow.cellAt hc (i * 2) (by omega)]; exact a0
  ·rw [World.ownsRow.cellAt hc (i * 2 + 1) (by omega)]; exact a1
theorem zB {F : Nat -> Prop} {v : Value} {l : List Gl} (hl : l.length <= 1000000) (w : World) (h : hH w F v l) : Calls Tryz.prog 71 #[v] w fun e w' => ∃ u, e = .returned u /\ hH w' (fun b => w.heap.size <= b) u l /\ Below w.heap.size w w' := by
 rcases h with ⟨rfl, rfl⟩ | ⟨g, cap, rfl, h1, h2, h3, h4, h5⟩
 ·have hE := C3
  go_enter Tryz.func71, Tryz.ntmps71
  go_wp2_with fail
  go_ret
  exact ⟨_, rfl, Or.inl ⟨rfl, rfl⟩, Below.refl _ _⟩
 ·have hE := zA g l.length cap
  have hg : g < w.heap.size := by
   obtain ⟨p, hp⟩ : ∃ p, l[0]? = some p := ⟨_, List.getElem?_eq_getElem h4⟩
   exact block_lt_of_cell (h5 0 p hp).1
  have HC : Hid (∀ j u, (bO l)[j]? = some u -> (w.alloc (.cells #[] 54)).cell? ((⟨g, 0, none⟩ : Addr).add j) = some u) := zz fun j u hj => by
   rw [jW, World.cell?_alloc_lt _ _ ⟨g, 0 + j, none⟩ hg]
   exact sM l 0 (fun i p hi => by
    have h9 := h5 i p hi
    rw [<- Nat.zero_add (i * 2)] at h9
    exact h9) j u hj
  have HO := zz (sL w 54 2)
  have HL := zz hl
  have HP := zz h4
  obtain ⟨i0, hi, hz0, hz1, hz2⟩ := info_parts oM
  have HI := zz (And.intro hi (And.intro hz0 (And.intro hz1 hz2)))
  clear h1 h2 h3 h4 h5 hg hl hi hz0 hz1 hz2
  go_enter Tryz.func71, Tryz.ntmps71
  go_wp2_with (at_builtin; refine wpList_append_own_at _ rfl _ _ 23 rfl w.heap.size 54 i0 (.agg #[.string ByteArray.empty, .int .i64 0]) 2 24 Tryz.underlying23 HI.out.1 HI.out.2.1 HI.out.2.2.1 HI.out.2.2.2 rfl (by decide) _ 0 [] rfl HO.out ⟨g, 0, none⟩ l.length cap (bO l) rfl (AW l) HC.out (AV l) (by have := HL.out; unfold maxLen; omega) (by have := HL.out; omega) (by simp) ?_; intro v' w' q1 q2 _ _)
  rw [Nat.zero_add, List.nil_append] at q1
  have hk : Keeps (fun k => k = w.heap.size) w w' := eH (v := .slice (some ⟨w.heap.size, 0, none⟩) 0 0) q2 (fun k e => by cases e; rfl)
  have hrow := IA q1 HP.out
  have HR := zz hrow
  have HB : Hid (Below w.heap.size w w') := zz (hk.below (Nat.le_refl _) (fun k _ e => by have h9 : k = w.heap.size := e; omega))
  clear q1 q2 hk hrow
  go_wp2_with fail
  go_ret
  exact ⟨_, rfl, HR.out, HB.out⟩
theorem sN {g : Nat} : ∀ (l : List Pa) (o : Nat), (∀ i p, l[i]? = some p -> w.cell? ⟨g, o + i * 3, none⟩ = some (.string (mkT p.name)) /\ w.cell? ⟨g, o + i * 3 + 1, none⟩ = some (.int .i64 (p.kind : Nat)) /\ w.cell? ⟨g, o + i * 3 + 2, none⟩ = some (.int .i64 (p.at_ : Nat))) -> ∀ j u, (cI l)[j]? = some u -> w.cell? ⟨g, o + j, none⟩ = some u
 | [], _, _, _, _, h => by cases h
 | p :: l, o, hl, j, u, h => by
  obtain ⟨a0, a1, a2⟩ := hl 0 p rfl
  rw [show o + 0 * 3 = o by omega] at a0 a1 a2
  match j, h with
  | 0, h => cases h; exact a0
  | 1, h => cases h; exact a1
  | 2, h => cases h; exact a2
  | j + 3, h =>
   have := sN l (o + 3) (fun i q hi => by
    have h2 := hl (i + 1) q hi
    rw [show o + (i + 1) * 3 = o + 3 + i * 3 by omega] at h2
    exact h2) j u h
   rw [show o + (j + 3) = o + 3 + j by omega]
   exact this
theorem C4 (w : World) : (binOp BinOp.eql 48 (.slice none 0 0) (.slice none 0 0)).run Tryz.prog w = .ok (.bool true) w := by kernel_rfl
theorem zC (g n c : Nat) (w : World) : (binOp BinOp.eql 48 (.slice (some ⟨g, 0, none⟩) n c) (.slice none 0 0)).run Tryz.prog w = .ok (.bool false) w := by kernel_rfl
theorem AX : ∀ (l : List Pa), ∀ y ∈ cI l, y.oneCell' = true
 | [], y, h => by cases h
 | p :: l, y, h => by
  have h' : y ∈ [Value.string (mkT p.name), Value.int .i64 (p.kind : Nat), Value.int .i64 (p.at_ : Nat)] ++ cI l := h
  rcases List.mem_append.1 h' with h | h
  ·simp at h; rcases h with rfl | rfl | rfl <;> rfl
  ·exact AX l y h
theorem AY : ∀ l : List Pa, (cI l).length = l.length * 3
 | [] => rfl
 | p :: l => by
  show ([Value.string (mkT p.name), Value.int .i64 (p.kind : Nat), Value.int .i64 (p.at_ : Nat)] ++ cI l).length = (l.length + 1) * 3
  rw [List.length_append, AY l]
  simp only [List.length_cons, List.length_nil]
  omega
theorem IC {B : Nat} {v : Value} {l : List Pa} (hown : w.ownsRow B 102 3 v l.length (cI l)) (hpos : 0 < l.length) : PaRow w (fun b => B <= b) v l := by
 have hc := hown
 rcases hown.2 with ⟨_, e⟩ | ⟨g, cap, cur, rfl, hb, hg, h3, h4, _⟩
 ·omega
 ·refine Or.inr ⟨g, cap, rfl, h3, h4, hb, hpos, fun i p hi => ?_⟩
  obtain ⟨a0, a1, a2⟩ := mA l i p hi
  have hin := (List.getElem?_eq_some_iff.1 hi).1
  refine ⟨?_, ?_, ?_⟩
  ·rw [World.ownsRow.cellAt hc (i * 3) (by omega)]; exact a0
  ·rw [World.ownsRow.cellAt hc (i * 3 + 1) (by omega)]; exact a1
  ·rw [World.ownsRow.cellAt hc (i * 3 + 2) (by omega)]; exact a2
theorem zD {F : Nat -> Prop} {v : Value} {l : List Pa} (hl : l.length <= 1000000) (w : World) (h : PaRow w F v l) : Calls Tryz.prog 74 #[v] w fun e w' => ∃ u, e = .returned u /\ PaRow w' (fun b => w.heap.size <= b) u l /\ Below w.heap.size w w' := by
 rcases h with ⟨rfl, rfl⟩ | ⟨g, cap, rfl, h1, h2, h3, h4, h5⟩
 ·have hE := C4
  go_enter Tryz.func74, Tryz.ntmps74
  go_wp2_with fail
  go_ret
  exact ⟨_, rfl, Or.inl ⟨rfl, rfl⟩, Below.refl _ _⟩
 ·have hE := zC g l.length cap
  have hg : g < w.heap.size := by
   obtain ⟨p, hp⟩ : ∃ p, l[0]? = some p := ⟨_, List.getElem?_eq_getElem h4⟩
   exact block_lt_of_cell (h5 0 p hp).1
  have HC : Hid (∀ j u, (cI l)[j]? = some u -> (w.alloc (.cells #[] 102)).cell? ((⟨g, 0, none⟩ : Addr).add j) = some u) := zz fun j u hj => by
   rw [jW, World.cell?_alloc_lt _ _ ⟨g, 0 + j, none⟩ hg]
   exact sN l 0 (fun i p hi => by
    have h9 := h5 i p hi
    rw [<- Nat.zero_add (i * 3)] at h9
    exact h9) j u hj
  have HO := zz (sL w 102 3)
  have HL := zz hl
  have HP := zz h4
  obtain ⟨i0, hi, hz0, hz1, hz2⟩ := info_parts p8
  have HI := zz (And.intro hi (And.intro hz0 (And.intro hz1 hz2)))
  clear h1 h2 h3 h4 h5 hg hl hi hz0 hz1 hz2
  go_enter Tryz.func74, Tryz.ntmps74
  go_wp2_with (at_builtin; refine wpList_append_own_at _ rfl _ _ 48 rfl w.heap.size 102 i0 (.agg #[.string ByteArray.empty, .int .i64 0, .int .i64 0]) 3 32 Tryz.underlying48 HI.out.1 HI.out.2.1 HI.out.2.2.1 HI.out.2.2.2 rfl (by decide) _ 0 [] rfl HO.out ⟨g, 0, none⟩ l.length cap (cI l) rfl (AY l) HC.out (AX l) (by have := HL.out; unfold maxLen; omega) (by have := HL.out; omega) (by simp) ?_; intro v' w' q1 q2 _ _)
  rw [Nat.zero_add, List.nil_append] at q1
  have hk : Keeps (fun k => k = w.heap.size) w w' := eH (v := .slice (some ⟨w.heap.size, 0, none⟩) 0 0) q2 (fun k e => by cases e; rfl)
  have hrow := IC q1 HP.out
  have HR := zz hrow
  have HB : Hid (Below w.heap.size w w') := zz (hk.below (Nat.le_refl _) (fun k _ e => by have h9 : k = w.heap.size := e; omega))
  clear q1 q2 hk hrow
  go_wp2_with fail
  go_ret
  exact ⟨_, rfl, HR.out, HB.out⟩
def pB (nm : Lx.B) (a : Nat) (ap : Option Addr) (lp kp kd : Nat) (ab : Option Addr) (lb kb : Nat) : Value := .agg #[.string (mkT nm), .int .i64 (a : Nat), .slice ap lp kp, .int .i64 (kd : Nat), .slice ab lb kb]
def FuA (w : World) (F : Nat -> Prop) (u : Value) (g : Fu) : Prop := ∃ nm a ps kd body ap kp ab kb, g = ⟨nm, a, ps, kd, body⟩ /\ u = pB nm a ap ps.length kp kd ab body.len kb /\ PaRow w F (.slice ap ps.length kp) ps /\ StsF w F body (.slice ab body.len kb)
theorem sO {F : Nat -> Prop} {v : Value} {l : List Pa} (h : PaRow w F v l) : ∃ o c, v = .slice o l.length c := by
 rcases h with ⟨e, e0⟩ | ⟨g, cap, e, _⟩
 ·exact ⟨none, 0, by rw [e, e0]; rfl⟩
 ·exact ⟨_, _, e⟩
theorem iP {F G : Nat -> Prop} (hF : ∀ b, b < w.heap.size -> F b -> G b) {v : Value} {l : List Pa} (h : PaRow w F v l) : PaRow w G v l := by
 rcases h with h | ⟨g, cap, h1, h2, h3, h4, h5, h6⟩
 ·exact Or.inl h
 ·obtain ⟨p, hp⟩ : ∃ p, l[0]? = some p := ⟨_, List.getElem?_eq_getElem h5⟩
  have h7 := (h6 0 p hp).1
  exact Or.inr ⟨g, cap, h1, h2, h3, hF g (block_lt_of_cell h7) h4, h5, h6⟩
theorem nB {B k : Nat} {S : Nat -> Prop} {v : Value} {x : List Pa} (h : PaRow w (fun b => B <= b) v x) (hk : Keeps S w w') (hS : ∀ b, B <= b -> b < w.heap.size -> ¬ S b) (hB : k <= B) : PaRow w' (fun b => k <= b) v x :=
 iP (fun _ _ e => Nat.le_trans hB e.1) ((iP (G := fun b => B <= b /\ b < w.heap.size) (fun _ h1 h2 => ⟨h2, h1⟩) h).keeps hk (fun b e => hS b e.1 e.2))
theorem KJ {k : Nat} {v0 v1 v2 v3 v4 : Value} : Keeps (fun b => b = k) w (((((w.setCell ⟨k, 0, none⟩ v0).setCell ⟨k, 1, none⟩ v1).setCell ⟨k, 2, none⟩ v2).setCell ⟨k, 3, none⟩ v3).setCell ⟨k, 4, none⟩ v4) :=
 (fF.trans fF).trans lO
def JV (g : Fu) : Prop := ∀ (F : Nat -> Prop) (w : World) (u : Value), (∀ b, F b -> b < w.heap.size) -> FuA w F u g -> Calls Tryz.prog 73 #[u] w fun e w' => ∃ u', e = .returned (.tuple #[u', .bool true]) /\ FuA w' (fun b => w.heap.size <= b) u' (gS g) /\ Below w.heap.size w w'
theorem FE {g : Fu} (hp : g.params.length <= 1000000) (hS : jV g.body) : JV g := by
 intro F w u hF h
 obtain ⟨nm, a, ps, kd, body, ap, kp, ab, kb, rfl, rfl, h1, h2⟩ := h
 obtain ⟨w1, hw1⟩ : ∃ W, W = (w.alloc (.cells #[.string (mkT nm), .int .i64 (a : Nat), .slice ap ps.length kp, .int .i64 (kd : Nat), .slice ab body.len kb] 51)).alloc (.cells #[.string ⟨#[]⟩, .int .i64 0, .slice none 0 0, .int .i64 0, .slice none 0 0] 51) := ⟨_, rfl⟩
 have HW1 := zz hw1
 have hB1 : Below w.heap.size w w1 := by rw [hw1]; exact eV w _ _ _ _
 have hz1 : w1.heap.size = w.heap.size + 2 := by rw [hw1]; simp
 have hs1 : Blk w1 w.heap.size [.string (mkT nm), .int .i64 (a : Nat), .slice ap ps.length kp, .int .i64 (kd : Nat), .slice ab body.len kb] := by
  rw [hw1]; exact (Blk.new w _ _).fresh (cF _ _ _)
 have hr1 : Blk w1 (w.heap.size + 1) [.string ⟨#[]⟩, .int .i64 0, .slice none 0 0, .int .i64 0, .slice none 0 0] := by
  rw [hw1]; exact Blk.new' _ _ _ (by simp)
 have hn : ∀ b, F b -> ¬ w.heap.size <= b := fun b e e2 => by have := hF b e; omega
 have HV : Hid (∀ W, Below w.heap.size w W -> PaRow W F (.slice ap ps.length kp) ps /\ StsF W F body (.slice ab body.len kb)) := zz fun W hb => by
  have hk : Keeps (fun k => w.heap.size <= k) w W := Keeps.of_below (S := fun k => w.heap.size <= k) hb (fun _ _ e => e)
  exact ⟨h1.keeps hk hn, cR h2 hk hn⟩
 have HF := zz hF
 have HS := zz hS
 have HB1 := zz hB1
 have HZ1 := zz hz1
 have SB1 := zz hs1
 have RB1 := zz hr1
 have HC := zz (zD hp w1 (HV.out w1 hB1).1)
 have i2 := hs1.at_ 2 _ rfl
 clear h1 h2 hS hp hw1 hB1 hz1 hs1 hr1 hn hF
 unfold pB
 go_enter Tryz.func73, Tryz.ntmps73
 go_upto_region 1 with fail
 rw [<- HW1.out]
 go_wp2_with fail
 refine HC.out.mono ?_
 rintro e w2 ⟨v2, rfl, hp2, hb2⟩
 obtain ⟨up, uk, rfl⟩ := sO hp2
 have SB2 := zz (SB1.out.fresh hb2)
 have RB2 := zz (RB1.out.fresh hb2)
 have j2 := SB2.out.at_ 2 _ rfl
 have z2 := SB2.out.free 2
 have hk3 : Keeps (fun b => b = w.heap.size) w2 (w2.setCell ⟨w.heap.size, 2, none⟩ (.slice up ps.length uk)) := lO
 have SB3 := zz (SB2.out.set 2 (.slice up ps.length uk) (by simp))
 have RB3 := zz (RB2.out.keeps hk3 (by omega))
 have hz1 := HZ1.out
 have hz2 := hb2.size
 have hB3 : Below w.heap.size w (w2.setCell ⟨w.heap.size, 2, none⟩ (.slice up ps.length uk)) := HB1.out.trans ((hb2.mono HB1.out.size).trans (hk3.below (by omega) (fun b _ e => by have h9 : b = w.heap.size := e; omega)))
 have hp3 : PaRow (w2.setCell ⟨w.heap.size, 2, none⟩ (.slice up ps.length uk)) (fun b => w.heap.size + 2 <= b) (.slice up ps.length uk) ps := nB hp2 hk3 (fun b h1 _ e => by have h9 : b = w.heap.size := e; omega) (by omega)
 have HE := zz (HS.out F _ _ (HV.out _ hB3).2 (fun b hb => Nat.lt_of_lt_of_le (HF.out b hb) hB3.size))
 have HB3 := zz hB3
 have HP3 := zz hp3
 have HZ3 : Hid (w.heap.size + 2 <= (w2.setCell ⟨w.heap.size, 2, none⟩ (.slice up ps.length uk)).heap.size) := zz (by have := hk3.size; omega)
 have i4 := SB3.out.at_ 4 _ rfl
 clear hp2 hb2 hk3 hz1 hz2 hB3 hp3 i2
 go_wp2_with (go_at_call 75; refine HE.out.mono ?_; rintro e w5 ⟨v5, rfl, hv5, hb5⟩; obtain ⟨vb, vk, rfl⟩ := bM hv5.1; have SB5 := zz (SB3.out.fresh hb5); have RB5 := zz (RB3.out.fresh hb5); have j5 := SB5.out.at_ 4 _ rfl; have z5 := SB5.out.free 4; have SB6 : Hid (Blk (w5.setCell ⟨w.heap.size, 4, none⟩ (.slice vb (aD body).len vk)) w.heap.size [.string (mkT nm), .int .i64 (a : Nat), .slice up ps.length uk, .int .i64 (kd : Nat), .slice vb (aD body).len vk]) := zz (SB5.out.set 4 _ (by simp)); have RB6 : Hid (Blk (w5.setCell ⟨w.heap.size, 4, none⟩ (.slice vb (aD body).len vk)) (w.heap.size + 1) [.string ⟨#[]⟩, .int .i64 0, .slice none 0 0, .int .i64 0, .slice none 0 0]) := zz (RB5.out.keeps (S := fun b => b = w.heap.size) lO (by omega)); have l0 := SB6.out.at_ 0 _ rfl; have l1 := SB6.out.at_ 1 _ rfl; have l2 := SB6.out.at_ 2 _ rfl; have l3 := SB6.out.at_ 3 _ rfl; have l4 := SB6.out.at_ 4 _ rfl; have r0 := RB6.out.at_ 0 _ rfl; have r1 := RB6.out.at_ 1 _ rfl; have r2 := RB6.out.at_ 2 _ rfl; have r3 := RB6.out.at_ 3 _ rfl; have r4 := RB6.out.at_ 4 _ rfl; have y0 := RB6.out.free 0; have y1 := RB6.out.free 1; have y2 := RB6.out.free 2; have y3 := RB6.out.free 3; have y4 := RB6.out.free 4; have HB5 := zz hb5; have HV5 := zz hv5; clear hb5 hv5)
 refine bodyPost_ret (v := .tuple #[.agg #[.string (mkT nm), .int .i64 (a : Nat), .slice up ps.length uk, .int .i64 (kd : Nat), .slice vb (aD body).len vk], .bool true]) (by simp [results, Tryz.results73, go_sem, r0, r1, r2, r3, r4]) rfl ?_
 have hk1 : Keeps (fun b => b = w.heap.size) w5 (w5.setCell ⟨w.heap.size, 4, none⟩ (.slice vb (aD body).len vk)) := lO
 have hk6 := KJ (w := w5.setCell ⟨w.heap.size, 4, none⟩ (.slice vb (aD body).len vk)) (k := w.heap.size + 1) (v0 := .string (mkT nm)) (v1 := .int .i64 (a : Nat)) (v2 := .slice up ps.length uk) (v3 := .int .i64 (kd : Nat)) (v4 := .slice vb (aD body).len vk)
 have hk : Keeps (fun b => b = w.heap.size \/ b = w.heap.size + 1) w5 _ := (hk1.mono (fun _ _ e => Or.inl e)).trans (hk6.mono (fun _ _ e => Or.inr e))
 have hz5 := HB5.out.size
 have hz0 := HZ3.out
 have hno : ∀ b, w.heap.size + 2 <= b -> ¬ (b = w.heap.size \/ b = w.heap.size + 1) := fun b h e => by omega
 refine ⟨_, rfl, ⟨nm, a, ps, kd, aD body, up, uk, vb, vk, rfl, rfl, nB (nB HP3.out (Keeps.of_below (S := fun k => (w2.setCell ⟨w.heap.size, 2, none⟩ (.slice up ps.length uk)).heap.size <= k) HB5.out (fun _ _ e => e)) (fun b _ h2 e => by have h9 : (w2.setCell ⟨w.heap.size, 2, none⟩ (.slice up ps.length uk)).heap.size <= b := e; omega) (Nat.le_refl _)) hk (fun b h1 _ e => hno b h1 e) (by omega), dI HV5.out hk (fun b h1 _ e => hno b (by omega) e) (by omega)⟩, HB3.out.trans ((HB5.out.mono HB3.out.size).trans (hk.below (by omega) (fun b _ e => by have h9 : b = w.heap.size \/ b = w.heap.size + 1 := e; omega)))⟩
theorem oA {ops : Array Oper} {rest : List Oper} {o : Oper} {a : Act} {Q : Exit -> Act -> World -> Prop} (hgd : o.guard = none) (s x : Operand)
  (ho : o.op = .call { callee := .builtin .append, args := #[s, x], argTypes := #[24, 24] }) (w : World) (B : Nat) (v : Value) (n : Nat) (xs us : List Value) (hus : us.length = 1 * 5) (h1us : ∀ u ∈ us, u.oneCell' = true) (hown : w.ownsRow B 51 5 v n xs) (hs : a.eval s = v)
  (g9 : Nat) (hx : a.eval x = .slice (some ⟨g9, 0, none⟩) 1 1) (hg9 : g9 = w.heap.size) (hl : n <= 1000000) (hB : B <= w.heap.size)
  (h : ∀ ao' cap' w', w'.ownsRow B 51 5 (.slice ao' (n + 1) cap') (n + 1) (xs ++ us) -> Keeps (fun b => v.ownBlock = some b) w w' -> (∀ k, (Value.slice ao' (n + 1) cap').ownBlock = some k -> v.ownBlock = some k \/ w.heap.size <= k) ->
   wpList Tryz.prog ops Q rest (a.put o.dst (.slice ao' (n + 1) cap')) w') : wpList Tryz.prog ops Q (o :: rest) a (w.alloc (.cells us.toArray 51)) := by
 subst hg9
 obtain ⟨i0, hi, hz0, hz1, hz2⟩ := info_parts sG
 refine wpList_append_own_at _ hgd s x 24 ho B 51 i0 (.agg #[.string ByteArray.empty, .int .i64 0, .slice none 0 0, .int .i64 0, .slice none 0 0]) 5 80 Tryz.underlying24 hi hz0 hz1 hz2 rfl (by decide) v n xs hs (World.ownsRow.alloc hown _) ⟨w.heap.size, 0, none⟩ 1 1 us hx hus
  (mD _ _ _) h1us (by unfold maxLen; omega) (by omega) (by simp; omega) ?_
 intro v' w' h1 h2 _ h4
 have hv' : ∃ ao' cap', v' = .slice ao' (n + 1) cap' := by
  rcases h1.2 with ⟨_, h0⟩ | ⟨g, cap', cur, rfl, _⟩
  ·omega
  ·exact ⟨_, _, rfl⟩
 obtain ⟨ao', cap', rfl⟩ := hv'
 refine h ao' cap' w' h1 (eH h2 (fun k e => e)) (fun k e => ?_)
 rcases h4 with h5 | h5
 ·exact Or.inl (h5 ▸ e)
 ·rw [h5] at e
  have := Option.some.inj e
  exact Or.inr (by simp at this; omega)
theorem zE {F : Nat -> Prop} {g o : Nat} {s : Fu} (h : CW w F g o s) : ∃ nm a ps kd body ap kp ab kb, s = ⟨nm, a, ps, kd, body⟩ /\ w.cell? ⟨g, o, none⟩ = some (.string (mkT nm)) /\ w.cell? ⟨g, o + 1, none⟩ = some (.int .i64 (a : Nat)) /\ w.cell? ⟨g, o + 2, none⟩ = some (.slice ap ps.length kp) /\ w.cell? ⟨g, o + 3, none⟩ = some (.int .i64 (kd : Nat)) /\ w.cell? ⟨g, o + 4, none⟩ = some (.slice ab body.len kb) /\ PaRow w F (.slice ap ps.length kp) ps /\ StsF w F body (.slice ab body.len kb) := by
 obtain ⟨nm, a, ps, kd, body⟩ := s
 obtain ⟨pv, bv, c0, c1, c2, c3, c4, h1, h2⟩ := h
 obtain ⟨ap, kp, rfl⟩ := sO h1
 obtain ⟨ab, kb, rfl⟩ := bM h2.1
 exact ⟨nm, a, ps, kd, body, ap, kp, ab, kb, rfl, c0, c1, c2, c3, c4, h1, h2⟩
theorem zF {F S : Nat -> Prop} {g o : Nat} {s : Fu} (h : CW w F g o s) (hg : F g) (hk : Keeps S w w') (hF : ∀ b, F b -> ¬ S b) : CW w' F g o s := by
 obtain ⟨pv, bv, c0, c1, c2, c3, c4, h1, h2⟩ := h
 have hn := hF g hg
 exact ⟨pv, bv, hk.cell_of c0 hn, hk.cell_of c1 hn, hk.cell_of c2 hn, hk.cell_of c3 hn, hk.cell_of c4 hn, h1.keeps hk hF, cR h2 hk hF⟩
theorem cZ {F S : Nat -> Prop} {v : Value} {l : List Fu} (h : dT w F v l) (hk : Keeps S w w') (hF : ∀ b, F b -> ¬ S b) : dT w' F v l := by
 rcases h with h | ⟨g, cap, h1, h2, h3, h4, h5, h6⟩
 ·exact Or.inl h
 ·exact Or.inr ⟨g, cap, h1, h2, h3, h4, h5, fun i p hi => zF (h6 i p hi) h4 hk hF⟩
theorem fB {F G : Nat -> Prop} (hF : ∀ b, b < w.heap.size -> F b -> G b) {v : Value} {l : List Fu} (h : dT w F v l) : dT w G v l := by
 rcases h with h | ⟨g, cap, h1, h2, h3, h4, h5, h6⟩
 ·exact Or.inl h
 ·obtain ⟨p, hp⟩ : ∃ p, l[0]? = some p := ⟨_, List.getElem?_eq_getElem h5⟩
  have h7 := h6 0 p hp
  refine Or.inr ⟨g, cap, h1, h2, h3, hF g (block_lt_of_cell h7.choose_spec.choose_spec.1) h4, h5, fun i p hi => ?_⟩
  obtain ⟨pv, bv, c0, c1, c2, c3, c4, k1, k2⟩ := h6 i p hi
  exact ⟨pv, bv, c0, c1, c2, c3, c4, iP hF k1, cG hF k2⟩
theorem sP {F : Nat -> Prop} {v : Value} {l : List Fu} (h : dT w F v l) : ∃ o c, v = .slice o l.length c := by
 rcases h with ⟨e, e0⟩ | ⟨g, cap, e, _⟩
 ·exact ⟨none, 0, by rw [e, e0]; rfl⟩
 ·exact ⟨_, _, e⟩
theorem C5 {B : Nat} {v : Value} {vs : List Value} {xs : List Fu} (hown : w.ownsRow B 51 5 v xs.length vs) (hv : RowF w (fun b => B <= b) vs xs) (h0 : xs.length = 0 -> v = .slice none 0 0) : dT w (fun b => B <= b) v xs := by
 by_cases hz : xs.length = 0
 ·exact Or.inl ⟨h0 hz, List.eq_nil_of_length_eq_zero hz⟩
 ·have hc := hown
  rcases hown.2 with ⟨_, e⟩ | ⟨g, cap, cur, rfl, hb, hg, h3, h4, _⟩
  ·exact absurd e hz
  ·refine Or.inr ⟨g, cap, rfl, h3, h4, hb, by omega, fun i p hi => ?_⟩
   have h8 := RowF.lies xs vs 0 (g := g) (fun j u hj => by
    rw [show 0 * 5 + j = j by omega, World.ownsRow.cellAt hc j (by have := (List.getElem?_eq_some_iff.1 hj).1; have := hc.1; omega)]
    exact hj) hv i p hi
   rw [Nat.zero_add] at h8
   exact h8
theorem wY {xs : List Fu} (hA : ∀ x ∈ xs, JV x) (hsz : xs.length <= 1000000) {F : Nat -> Prop} (w : World) (v : Value) (hx : dT w F v xs) (hF : ∀ b, F b -> b < w.heap.size) :
  Calls Tryz.prog 72 #[v, .func (.func 73) #[] #[]] w fun e w' => ∃ sv, e = .returned sv /\ dT w' (fun b => w.heap.size <= b) sv (xs.map gS) /\ Below w.heap.size w w' := by
 obtain ⟨ao, cap, rfl⟩ := sP hx
 have HA := zz hA
 have HN := zz hsz
 have HW : Hid (∀ W, Below w.heap.size w W -> dT W (fun b => b < w.heap.size) (.slice ao xs.length cap) xs) := zz fun W hb =>
  cZ (fB (fun b _ e => hF b e) hx) (Keeps.of_below (S := fun k => w.heap.size <= k) hb (fun _ _ e => e)) (fun b e e2 => by have h9 : w.heap.size <= b := e2; have h8 : b < w.heap.size := e; omega)
 clear hA hx hsz hF
 go_enter Tryz.func72, Tryz.ntmps72
 go_wp2_with fail
 go_loopw [5, 12] (fun v i wr => ∃ (k : Nat) (vals : List Value), k <= xs.length /\ i = .int .i64 k /\ wr.ownsRow w.heap.size 51 5 v k vals /\ RowF wr (fun b => w.heap.size <= b /\ v.ownBlock ≠ some b) vals ((xs.take k).map gS) /\ Below w.heap.size w wr /\ (k = 0 -> v = .slice none 0 0)) (fun _ i _ => xs.length - (intOf i).toNat)
 case atStart => exact ⟨0, [], Nat.zero_le _, rfl, World.ownsRow_nil _ _ _ _, rfl, Below.refl _ _, fun _ => rfl⟩
 case round =>
  obtain ⟨k, vals, hk, rfl, hown, hvals, hb, h0⟩ := hrel
  have hn := HN.out
  obtain ⟨ao1, cap1, hform⟩ : ∃ ao1 cap1, u5 = .slice ao1 k cap1 := by
   rcases hown.2 with ⟨e1, e2⟩ | ⟨g, c, cur, e1, _⟩
   ·exact ⟨none, 0, by rw [e1, e2]⟩
   ·exact ⟨_, _, e1⟩
  subst hform
  have HOW := zz hown
  have HVL := zz hvals
  have HBL := zz hb
  have H0 := zz h0
  clear hown hvals hb h0
  by_cases hlt : k < xs.length
  ·obtain ⟨x, hkx⟩ : ∃ x, xs[k]? = some x := ⟨_, List.getElem?_eq_getElem hlt⟩
   have hw0 := HW.out wr HBL.out
   obtain ⟨g, rfl, hin⟩ : ∃ g, ao = some ⟨g, 0, none⟩ /\ CW wr (fun b => b < w.heap.size) g (k * 5) x := by
    rcases hw0 with ⟨_, e0⟩ | ⟨g, cp, e, _, _, _, _, h6⟩
    ·rw [e0] at hkx; cases hkx
    ·injection e with e1 _ _; exact ⟨g, e1, h6 k x hkx⟩
   obtain ⟨nm, a, ps, kd, body, ap, kp, ab, kb, rfl, c0, c1, c2, c3, c4, hp1, hs1⟩ := zE hin
   have hki : (k : Int) < (xs.length : Int) := by omega
   have hkii : (0 : Int) <= (k : Int) /\ (k : Int) < (xs.length : Int) := by omega
   have hw : IntKind.i64.wrap ((k : Int) + 1) = (k : Int) + 1 := IntWalk.i64_in _ (by omega)
   have hmem := List.mem_of_getElem? hkx
   have HTK : Hid ((xs.take (k + 1)).map gS = (xs.take k).map gS ++ [gS ⟨nm, a, ps, kd, body⟩]) := zz (by rw [List.take_add_one, hkx, List.map_append]; rfl)
   obtain ⟨wq, hwq⟩ : ∃ W, W = wr.alloc (.cells #[.string (mkT nm), .int .i64 (a : Nat), .slice ap ps.length kp, .int .i64 (kd : Nat), .slice ab body.len kb] 51) := ⟨_, rfl⟩
   have HWQ := zz hwq
   have hbq : Below wr.heap.size wr wq := by rw [hwq]; exact cF wr _ _
   have HBQ := zz (HBL.out.trans (hbq.mono HBL.out.size))
   have HLO := zz (World.ownsRow.lt HOW.out)
   have HBQ1 := zz hbq
   have hkq : Keeps (fun k => wr.heap.size <= k) wr wq := Keeps.of_below (S := fun k => wr.heap.size <= k) HBQ1.out (fun _ _ e => e)
   have hnq : ∀ b, b < w.heap.size -> ¬ wr.heap.size <= b := fun b e e2 => by have := HBL.out.size; omega
   have HE := zz (HA.out _ hmem (fun b => b < w.heap.size) wq _ (fun b hb => Nat.lt_of_lt_of_le hb HBQ.out.size) ⟨nm, a, ps, kd, body, ap, kp, ab, kb, rfl, rfl, hp1.keeps hkq hnq, cR hs1 hkq hnq⟩)
   unfold pB at HE
   clear hkq hnq
   clear hkx hmem hin hw0 hwq hbq hp1 hs1
   go_wp2_with fail
   rw [<- HWQ.out]
   refine HE.out.mono ?_
   rintro e w2 ⟨u', rfl, hst, hb2⟩
   obtain ⟨nm', a', ps', kd', body', ap', kp', ab', kb', hdec, rfl, hv1', hv2'⟩ := hst
   have HB2 : Hid (Below w.heap.size w w2) := zz (HBQ.out.trans (hb2.mono HBQ.out.size))
   have HK2 : Hid (Keeps (fun b => wr.heap.size <= b) wr w2) := zz (Keeps.of_below (S := fun k => wr.heap.size <= k) (HBQ1.out.trans (hb2.mono HBQ1.out.size)) (fun _ _ e => e))
   have HSQ := zz HBQ1.out.size
   have HV2 := zz (And.intro hv1' hv2')
   have HD2 := zz hdec
   obtain ⟨w2a, hw2a⟩ : ∃ W, W = w2.alloc (.cells #[.string (mkT nm'), .int .i64 (a' : Nat), .slice ap' ps'.length kp', .int .i64 (kd' : Nat), .slice ab' body'.len kb'] 51) := ⟨_, rfl⟩
   have HW2 := zz hw2a
   have hba : Below w2.heap.size w2 w2a := by rw [hw2a]; exact cF w2 _ _
   have HBA := zz hba
   have HB2a := zz (HB2.out.trans (hba.mono HB2.out.size))
   have HSZ : Hid (w.heap.size <= w2a.heap.size) := zz HB2a.out.size
   have HKA : Hid (Keeps (fun b => wr.heap.size <= b) wr w2a) := zz (HK2.out.trans (Keeps.of_below (S := fun k => wr.heap.size <= k) hba (fun b _ e => Nat.le_trans HK2.out.size e)))
   have HOW2 : Hid (w2a.ownsRow w.heap.size 51 5 (.slice ao1 k cap1) k vals) := zz (HKA.out.row HOW.out (fun b e e2 => by have := (HLO.out b e).2; have h9 : wr.heap.size <= b := e2; omega))
   clear hb2 hv1' hv2' hdec hba hw2a
   unfold pB
   go_wp2_with (at_builtin; rw [<- HW2.out]; refine oA rfl _ _ rfl w2a w.heap.size _ k vals [.string (mkT nm'), .int .i64 (a' : Nat), .slice ap' ps'.length kp', .int .i64 (kd' : Nat), .slice ab' body'.len kb'] rfl (by intro u hu; simp at hu; rcases hu with rfl | rfl | rfl | rfl | rfl <;> rfl) HOW2.out rfl _ rfl (by rw [HW2.out]; simp) (by omega) HSZ.out ?_; intro ao' cap' w3 hO3 hK3 hN3)
   have HO3 := zz hO3
   have HK3 := zz hK3
   have HN3 := zz hN3
   clear hO3 hK3 hN3
   go_wp2_with fail
   go_roundw
   case rel =>
    have hz2 := HBA.out.size
    have hbl := HBL.out.size
    have hzq := HSQ.out
    have hz2w := HK2.out.size
    have h1 : RowF w2a (fun b => w.heap.size <= b /\ (Value.slice ao1 k cap1).ownBlock ≠ some b /\ b < wr.heap.size) vals ((xs.take k).map gS) := RowF.keeps HKA.out (fun b e e2 => by have h9 : wr.heap.size <= b := e2; omega) _ _ (RowF.mono (fun b hb e => ⟨e.1, e.2, hb⟩) _ _ HVL.out)
    have hm := HV2.out
    have hG : ∀ b, b < w2a.heap.size -> wq.heap.size <= b -> wq.heap.size <= b /\ b < w2a.heap.size := fun b h1 h2 => ⟨h2, h1⟩
    have hKB : ∀ b, wq.heap.size <= b /\ b < w2a.heap.size -> ¬ (Value.slice ao1 k cap1).ownBlock = some b := fun b e e2 => by have := (HLO.out b e2).2; have := e.1; omega
    have hFR : ∀ b, b < w3.heap.size -> wq.heap.size <= b /\ b < w2a.heap.size -> w.heap.size <= b /\ (Value.slice ao' (k + 1) cap').ownBlock ≠ some b := fun b _ e => ⟨by have := e.1; omega, fun e4 => by
     rcases HN3.out b e4 with h | h
     ·have := (HLO.out b h).2; have := e.1; omega
     ·have := e.2; omega⟩
    have hkA : Keeps (fun k => w2.heap.size <= k) w2 w2a := Keeps.of_below (S := fun k => w2.heap.size <= k) HBA.out (fun _ _ e => e)
    have hg3 := dI (k := wq.heap.size) hm.2 hkA (fun b _ h2 e => by have h9 : w2.heap.size <= b := e; omega) (Nat.le_refl _)
    have hg4 := cG hFR (cR (cG hG hg3) HK3.out hKB)
    have hp3 := nB (k := wq.heap.size) hm.1 hkA (fun b _ h2 e => by have h9 : w2.heap.size <= b := e; omega) (Nat.le_refl _)
    have hp4 := iP hFR ((iP hG hp3).keeps HK3.out hKB)
    refine ⟨k + 1, _, by omega, by go_num, HO3.out, ?_, ?_, fun e => absurd e (by omega)⟩
    ·rw [HTK.out, HD2.out]
     refine RowF.snoc ?_ _ _ ?_
     ·exact ⟨_, _, rfl, hp4, hg4⟩
     ·exact RowF.mono (fun b _ e => ⟨e.1, fun e4 => by
       rcases HN3.out b e4 with h | h
       ·exact e.2.1 h
       ·omega⟩) _ _ (RowF.keeps HK3.out (fun b e e2 => e.2.1 e2) _ _ h1)
    ·exact HB2a.out.trans (HK3.out.below HSZ.out (fun b _ e => by have := (HLO.out b e).1; omega))
   case measure => simp [intOf]; omega
  ·have hki : ¬ (k : Int) < (xs.length : Int) := by omega
   have hkk : k = xs.length := by omega
   subst hkk
   go_wp2_with fail
   go_ret
   have hv := HVL.out
   rw [List.take_of_length_le (Nat.le_refl _)] at hv
   refine ⟨_, rfl, C5 (vs := vals) (by rw [List.length_map]; exact HOW.out) (RowF.mono (fun b _ e => e.1) _ _ hv) (fun e => H0.out (by rw [List.length_map] at e; exact e)), HBL.out⟩
structure FoldOk (src : Src) : Prop where
 gl : src.globals.length <= 1000000
 fl : src.funcs.length <= 1000000
 fs : ∀ g ∈ src.funcs, g.params.length <= 1000000 /\ fQ g.body /\ iT g.body <= 1000000
theorem C6 {F : Nat -> Prop} {v : Value} {l : List Gl} (h : hH w F v l) : ∃ o c, v = .slice o l.length c := by
 rcases h with ⟨e, e0⟩ | ⟨g, cap, e, _⟩
 ·exact ⟨none, 0, by rw [e, e0]; rfl⟩
 ·exact ⟨_, _, e⟩
theorem oN {F S : Nat -> Prop} {v : Value} {l : List Gl} (h : hH w F v l) (hk : Keeps S w w') (hF : ∀ b, F b -> ¬ S b) : hH w' F v l := by
 rcases h with h | ⟨g, cap, h1, h2, h3, h4, h5, h6⟩
 ·exact Or.inl h
 ·exact Or.inr ⟨g, cap, h1, h2, h3, h4, h5, fun i p hi => ⟨hk.cell_of (h6 i p hi).1 (hF g h4), hk.cell_of (h6 i p hi).2 (hF g h4)⟩⟩
theorem qG {F G : Nat -> Prop} (hF : ∀ b, b < w.heap.size -> F b -> G b) {v : Value} {l : List Gl} (h : hH w F v l) : hH w G v l := by
 rcases h with h | ⟨g, cap, h1, h2, h3, h4, h5, h6⟩
 ·exact Or.inl h
 ·obtain ⟨p, hp⟩ : ∃ p, l[0]? = some p := ⟨_, List.getElem?_eq_getElem h5⟩
  exact Or.inr ⟨g, cap, h1, h2, h3, hF g (block_lt_of_cell (h6 0 p hp).1) h4, h5, h6⟩
theorem wZ {B k : Nat} {S : Nat -> Prop} {v : Value} {x : List Gl} (h : hH w (fun b => B <= b) v x) (hk : Keeps S w w') (hS : ∀ b, B <= b -> b < w.heap.size -> ¬ S b) (hB : k <= B) : hH w' (fun b => k <= b) v x :=
 qG (fun _ _ e => Nat.le_trans hB e.1) (oN (qG (G := fun b => B <= b /\ b < w.heap.size) (fun _ h1 h2 => ⟨h2, h1⟩) h) hk (fun b e => hS b e.1 e.2))
theorem FF {B k : Nat} {S : Nat -> Prop} {v : Value} {x : List Fu} (h : dT w (fun b => B <= b) v x) (hk : Keeps S w w') (hS : ∀ b, B <= b -> b < w.heap.size -> ¬ S b) (hB : k <= B) : dT w' (fun b => k <= b) v x :=
 fB (fun _ _ e => Nat.le_trans hB e.1) (cZ (fB (G := fun b => B <= b /\ b < w.heap.size) (fun _ h1 h2 => ⟨h2, h1⟩) h) hk (fun b e => hS b e.1 e.2))
theorem xA {src : Src} (hok : FoldOk src) {F : Nat -> Prop} {ga fa : Option Addr} {gc fc : Nat} (w : World) (hF : ∀ b, F b -> b < w.heap.size) (hg : hH w F (.slice ga src.globals.length gc) src.globals) (hf : dT w F (.slice fa src.funcs.length fc) src.funcs) :
  Calls Tryz.prog 30 #[.agg #[.slice ga src.globals.length gc, .slice fa src.funcs.length fc]] w fun e w' => ∃ ga' gc' fa' fc', e = .returned (.agg #[.slice ga' src.globals.length gc', .slice fa' src.funcs.length fc']) /\ hH w' (fun b => w.heap.size <= b) (.slice ga' src.globals.length gc') src.globals /\ dT w' (fun b => w.heap.size <= b) (.slice fa' src.funcs.length fc') (src.funcs.map gS) /\ Below w.heap.size w w' := by
 obtain ⟨w1, hw1⟩ : ∃ W, W = (w.alloc (.cells #[.slice ga src.globals.length gc, .slice fa src.funcs.length fc] 26)).alloc (.cells #[.slice none 0 0, .slice none 0 0] 26) := ⟨_, rfl⟩
 have HW1 := zz hw1
 have hB1 : Below w.heap.size w w1 := by rw [hw1]; exact eV w _ _ _ _
 have hz1 : w1.heap.size = w.heap.size + 2 := by rw [hw1]; simp
 have hs1 : Blk w1 w.heap.size [.slice ga src.globals.length gc, .slice fa src.funcs.length fc] := by
  rw [hw1]; exact (Blk.new w _ _).fresh (cF _ _ _)
 have hr1 : Blk w1 (w.heap.size + 1) [.slice none 0 0, .slice none 0 0] := by
  rw [hw1]; exact Blk.new' _ _ _ (by simp)
 have hn : ∀ b, F b -> ¬ w.heap.size <= b := fun b e e2 => by have := hF b e; omega
 have HV : Hid (∀ W, Below w.heap.size w W -> hH W F (.slice ga src.globals.length gc) src.globals /\ dT W F (.slice fa src.funcs.length fc) src.funcs) := zz fun W hb => by
  have hk : Keeps (fun k => w.heap.size <= k) w W := Keeps.of_below (S := fun k => w.heap.size <= k) hb (fun _ _ e => e)
  exact ⟨oN hg hk hn, cZ hf hk hn⟩
 have HF := zz hF
 have HFN : Hid (∀ g ∈ src.funcs, JV g) := zz fun g hg => FE (hok.fs g hg).1 (yZ g.body (hok.fs g hg).2.1 (hok.fs g hg).2.2)
 have HFL := zz hok.fl
 have HB1 := zz hB1
 have HZ1 := zz hz1
 have SB1 := zz hs1
 have RB1 := zz hr1
 have hbd : Below w1.heap.size w1 w1.drew := Below.drew (Below.refl _ w1)
 have HC := zz (zB hok.gl w1.drew (HV.out _ (hB1.trans (hbd.mono hB1.size))).1)
 have HBD := zz hbd
 have i0 := hs1.at_ 0 _ rfl
 have i1 := hs1.at_ 1 _ rfl
 clear hg hf hok hw1 hB1 hz1 hs1 hr1 hn hF hbd
 go_enter Tryz.func30, Tryz.ntmps30
 go_upto_region 1 with fail
 rw [<- HW1.out]
 refine wp_region_held_drew (S := (fun W' : World => W'.cell? ⟨w.heap.size, 0, none⟩ = some (.slice ga src.globals.length gc) /\ W'.cell? ⟨w.heap.size, 1, none⟩ = some (.slice fa src.funcs.length fc))) (by kernel_rfl) ⟨by simp only [World.cell?_drew]; assumption, by simp only [World.cell?_drew]; assumption⟩ (fun hHeld => ?_)
 refine tk 0 3 (.pointer (some ⟨w.heap.size, 0, none⟩)) rfl (.inl ⟨by rfl, ?_⟩) hHeld ?_
 ·intro W9 hSW; (try dsimp only at hSW); go_simp
 try simp only [Act.put, sA, sB, sC]
 refine tk 1 4 (.slice ga src.globals.length gc) rfl (.inl ⟨by rfl, ?_⟩) hHeld ?_
 ·intro W9 hSW; (try dsimp only at hSW); go_simp
 try simp only [Act.put, sA, sB, sC]
 refine tk 3 6 (.pointer (some ⟨w.heap.size, 1, none⟩)) rfl (.inl ⟨by rfl, ?_⟩) hHeld ?_
 ·intro W9 hSW; (try dsimp only at hSW); go_simp
 try simp only [Act.put, sA, sB, sC]
 refine tk 4 7 (.slice fa src.funcs.length fc) rfl (.inl ⟨by rfl, ?_⟩) hHeld ?_
 ·intro W9 hSW; (try dsimp only at hSW); go_simp
 try simp only [Act.put, sA, sB, sC]
 refine ra 2 (some 5) rfl fun K hK => ?_
 go_simp
 go_at_call 71
 refine HC.out.mono ?_
 rintro e w2 ⟨v1, rfl, hv1, hb2⟩
 obtain ⟨g1, c1, rfl⟩ := C6 hv1
 have HB2 : Hid (Below w1.heap.size w1 w2) := zz (HBD.out.trans (hb2.mono HBD.out.size))
 have SB2 := zz (SB1.out.fresh HB2.out)
 have k0 := SB2.out.at_ 0 _ rfl
 have k1 := SB2.out.at_ 1 _ rfl
 have HV1 : Hid (hH w2 (fun b => w1.heap.size <= b) (.slice g1 src.globals.length c1) src.globals) := zz hv1
 have hBw2 := HB1.out.trans (HB2.out.mono HB1.out.size)
 have HE := zz (wY HFN.out HFL.out w2 _ (HV.out _ hBw2).2 (fun b hb => Nat.lt_of_lt_of_le (HF.out b hb) hBw2.size))
 clear hv1 hb2 hBw2
 refine hK.out _ _ ⟨k0, k1⟩ (fun hHeld => ?_)
 clear hK K
 refine ra 5 (some 8) rfl fun K hK => ?_
 go_simp
 go_at_call 72
 refine HE.out.mono ?_
 rintro e w3 ⟨v2, rfl, hv2, hb3⟩
 obtain ⟨f1, d1, hf1⟩ := sP hv2
 rw [List.length_map] at hf1
 subst hf1
 have HB3 : Hid (Below w1.heap.size w1 w3) := zz (HB2.out.trans (hb3.mono HB2.out.size))
 have SB3 := zz (SB1.out.fresh HB3.out)
 have RB3 := zz (RB1.out.fresh HB3.out)
 have k3 := SB3.out.at_ 0 _ rfl
 have k4 := SB3.out.at_ 1 _ rfl
 have r0 := RB3.out.at_ 0 _ rfl
 have r1 := RB3.out.at_ 1 _ rfl
 have y0 := RB3.out.free 0
 have y1 := RB3.out.free 1
 have HV1b : Hid (hH w3 (fun b => w1.heap.size <= b) (.slice g1 src.globals.length c1) src.globals) := zz (wZ HV1.out (Keeps.of_below (S := fun k => w2.heap.size <= k) hb3 (fun _ _ e => e)) (fun b _ h2 e => by have h9 : w2.heap.size <= b := e; omega) (Nat.le_refl _))
 have HV2 : Hid (dT w3 (fun b => w1.heap.size <= b) (.slice f1 src.funcs.length d1) (src.funcs.map gS)) := zz (fB (fun b _ e => Nat.le_trans HB2.out.size e) hv2)
 clear hv2 hb3
 refine hK.out _ _ ⟨k3, k4⟩ (fun hHeld => ?_)
 clear hK K
 refine tk 6 9 (.agg #[.slice g1 src.globals.length c1, .slice f1 src.funcs.length d1]) rfl (.inl ⟨by rfl, ?_⟩) hHeld ?_
 ·intro W9 hSW; (try dsimp only at hSW); go_simp
 try simp only [Act.put, sA, sB, sC]
 have hks : Keeps (fun b => b = w.heap.size + 1) w3 ((w3.setCell ⟨w.heap.size + 1, 0, none⟩ (.slice g1 src.globals.length c1)).setCell ⟨w.heap.size + 1, 1, none⟩ (.slice f1 src.funcs.length d1)) := fF
 have s0 := hks.cell_of k3 (fun e => by have h9 : w.heap.size = w.heap.size + 1 := e; omega)
 have s1 := hks.cell_of k4 (fun e => by have h9 : w.heap.size = w.heap.size + 1 := e; omega)
 refine ra 7 none rfl fun K hK => ?_
 go_simp
 refine hK.out _ _ ⟨s0, s1⟩ (fun hHeld => ?_)
 clear hK K
 refine wpAnyH_done (by kernel_rfl) ?_ _
 have HKS := zz hks
 clear hks
 go_wp2_with fail
 refine bodyPost_ret (v := .agg #[.slice g1 src.globals.length c1, .slice f1 src.funcs.length d1]) (by simp [results, Tryz.results30, go_sem, r0, r1]) rfl ?_
 have hks := HKS.out
 have hz1 := HZ1.out
 have hz3 := HB3.out.size
 exact ⟨g1, c1, f1, d1, rfl, wZ HV1b.out hks (fun b h1 _ e => by have h9 : b = w.heap.size + 1 := e; omega) (by omega), FF HV2.out hks (fun b h1 _ e => by have h9 : b = w.heap.size + 1 := e; omega) (by omega), HB1.out.trans ((HB3.out.mono HB1.out.size).trans (hks.below (by omega) (fun b _ e => by have h9 : b = w.heap.size + 1 := e; omega)))⟩
end Go.Proofs.YtnpapppipccdbaaGreatDoor
namespace Go.Proofs.YtnpapppipccdbaaGreatDoor
open Go.RowKit Lx Tr
variable {w w' : World} {rb n d dd : Nat} {tv : Value} {E : Env}
theorem gB (f : Nat) (src : Src) (n : Nat) : Tr.program E (f + 1) src n =
  if E.toks.length <= n then .ok src n
  else if (pk E n).text = oW then (if 8 <= src.globals.length then fail E 4 n else (aC E 1 (n + 1)).bind fun t m => (aC E 5 m).bind fun _ m2 => Tr.program E f ⟨src.globals ++ [⟨t.text, t.at_⟩], src.funcs⟩ m2)
  else if (pk E n).text = j8 then (if 12 <= src.funcs.length then fail E 4 n else (Tr.function E f n).bind fun g m => (aC E 5 m).bind fun _ m2 => Tr.program E f ⟨src.globals, src.funcs ++ [g]⟩ m2)
  else fail E 3 n := by rw [Tr.program]
structure ProgJ (w wl : World) (rb : Nat) (tv : Value) (E : Env) (sb : Nat) (G : Res Src -> Prop) (wr : World) (m : Nat) (src : Src) : Prop where
 rd : RdAt wr rb tv E m 0
 env : TEnv rb E wr
 kp : Keeps (fun b => b = rb) w wr
 kl : Keeps (fun b => b = rb \/ b = sb) wl wr
 row : ∃ gv fv fvals, Blk wr sb [gv, fv] /\ wr.ownsRow wl.heap.size 54 2 gv src.globals.length (bO src.globals) /\ wr.ownsRow wl.heap.size 51 5 fv src.funcs.length fvals ∧
  RowF wr (fun b => wl.heap.size <= b /\ some b ≠ gv.ownBlock /\ some b ≠ fv.ownBlock) fvals src.funcs /\ (src.globals = [] -> gv = .slice none 0 0) /\ (src.funcs = [] -> fv = .slice none 0 0) /\ ∀ b, gv.ownBlock = some b -> fv.ownBlock ≠ some b
 lo : rb < w.heap.size /\ w.heap.size <= sb /\ sb < wl.heap.size /\ wl.heap.size <= wr.heap.size
 ev : ∀ r, Ev (fun f => Tr.program E f src m) r -> G r
theorem ProgJ.on {wl wr w2 : World} {sb m m2 : Nat} {G G2 : Res Src -> Prop} {src : Src} (h : ProgJ w wl rb tv E sb G wr m src) (hk : Keeps (fun b => b = rb) wr w2) (hr : RdAt w2 rb tv E m2 0) (hev : ∀ r, Ev (fun f => Tr.program E f src m2) r -> G2 r) : ProgJ w wl rb tv E sb G2 w2 m2 src := by
 obtain ⟨gv, fv, fvals, h1, h2, h3, h4, h5, h6, h7⟩ := h.row
 have hlo := h.lo
 refine ⟨hr, h.env.own hk, h.kp.trans hk, h.kl.trans (hk.mono (fun _ _ e => Or.inl e)), ⟨gv, fv, fvals, h1.keeps hk (fun e => by have : sb = rb := e; omega), hk.row h2 (fun b e e2 => by have := (aX h2 b e).1; have : b = rb := e2; omega), hk.row h3 (fun b e e2 => by have := (aX h3 b e).1; have : b = rb := e2; omega), RowF.keeps hk (fun b e e2 => by have := e.1; have : b = rb := e2; omega) _ _ h4, h5, h6, h7⟩, ⟨hlo.1, hlo.2.1, hlo.2.2.1, Nat.le_trans hlo.2.2.2 hk.size⟩, hev⟩
theorem ProgJ.nextG {wl wr w2 w5 : World} {sb m m1 cap5 : Nat} {ao5 : Option Addr} {G G2 : Res Src -> Prop} {src : Src} {gv fv : Value} {fvals : List Value} {o : Obj} (g : Gl) (h : ProgJ w wl rb tv E sb G wr m src) (hb : Blk wr sb [gv, fv]) (hg : wr.ownsRow wl.heap.size 54 2 gv src.globals.length (bO src.globals)) (hf : wr.ownsRow wl.heap.size 51 5 fv src.funcs.length fvals)
  (hR : RowF wr (fun b => wl.heap.size <= b /\ some b ≠ gv.ownBlock /\ some b ≠ fv.ownBlock) fvals src.funcs) (_h5 : src.globals = [] -> gv = .slice none 0 0) (h6 : src.funcs = [] -> fv = .slice none 0 0) (h7 : ∀ b, gv.ownBlock = some b -> fv.ownBlock ≠ some b)
  (hk : Keeps (fun b => b = rb) wr w2) (hr : RdAt w2 rb tv E m1 0) (hgr : (w2.alloc o).grownBy w5 gv.ownBlock) (HO : w5.ownsRow wl.heap.size 54 2 (.slice ao5 (src.globals.length + 1) cap5) (src.globals.length + 1) (bO src.globals ++ [.string (mkT g.name), .int .i64 (g.at_ : Nat)]))
  (hnew : (Value.slice ao5 (src.globals.length + 1) cap5).ownBlock = gv.ownBlock \/ (Value.slice ao5 (src.globals.length + 1) cap5).ownBlock = some (w2.heap.size + 1)) (hev : ∀ r, Ev (fun f => Tr.program E f ⟨src.globals ++ [g], src.funcs⟩ m1) r -> G2 r) : ProgJ w wl rb tv E sb G2 (w5.setCell ⟨sb, 0, none⟩ (.slice ao5 (src.globals.length + 1) cap5)) m1 ⟨src.globals ++ [g], src.funcs⟩ := by
 have hlo := h.lo
 have hw2 := hk.size
 have hk5 : Keeps (fun b => gv.ownBlock = some b) w2 w5 := ((Keeps.refl (fun b => gv.ownBlock = some b) w2).alloc o).trans' (Keeps.of_grownBy hgr (fun k _ e => e)) (fun _ _ e => e)
 have hks : Keeps (fun b => b = sb) w5 (w5.setCell ⟨sb, 0, none⟩ (.slice ao5 (src.globals.length + 1) cap5)) := lI
 have hgg := aX hg
 have hff := aX hf
 have hge : ∀ b, gv.ownBlock = some b -> wl.heap.size <= b /\ b < wr.heap.size := hgg
 have hoe : ∀ b, fv.ownBlock = some b -> wl.heap.size <= b /\ b < wr.heap.size := hff
 have hdis : ∀ b, fv.ownBlock = some b -> ¬ gv.ownBlock = some b := fun b e e2 => h7 b e2 e
 have hb5 : Blk w5 sb [gv, fv] := (hb.keeps hk (fun e => by have : sb = rb := e; omega)).keeps hk5 (fun e => by have := (hge sb e).1; omega)
 have hgn : ∀ b, (Value.slice ao5 (src.globals.length + 1) cap5).ownBlock = some b -> wl.heap.size <= b := fun b e => by
  rcases hnew with h3 | h3
  ·exact (hge b (h3 ▸ e)).1
  ·rw [h3] at e; have := Option.some.inj e; omega
 have hnd : ∀ b, (Value.slice ao5 (src.globals.length + 1) cap5).ownBlock = some b -> fv.ownBlock ≠ some b := fun b e e2 => by
  rcases hnew with h3 | h3
  ·exact hdis b e2 (h3 ▸ e)
  ·rw [h3] at e; have := Option.some.inj e; have := (hoe b e2).2; omega
 have hs5 := hk5.size
 have hss := hks.size
 have hother : (w5.setCell ⟨sb, 0, none⟩ (.slice ao5 (src.globals.length + 1) cap5)).ownsRow wl.heap.size 51 5 fv src.funcs.length fvals :=
  hks.row (hk5.row (hk.row hf (fun b e e2 => by have := (hoe b e).1; have : b = rb := e2; omega)) (fun b e => hdis b e)) (fun b e e2 => by have := (hoe b e).1; have : b = sb := e2; omega)
 have hrow2 : RowF w2 (fun b => wl.heap.size <= b /\ some b ≠ gv.ownBlock /\ some b ≠ fv.ownBlock /\ some b ≠ (Value.slice ao5 (src.globals.length + 1) cap5).ownBlock) fvals src.funcs := RowF.mono (fun b hb e => by
  refine ⟨e.1, e.2.1, e.2.2, fun h2 => ?_⟩
  rcases hnew with h3 | h3
  ·exact e.2.1 (by rw [<- h3]; exact h2)
  ·rw [h3] at h2; have := Option.some.inj h2; omega) _ _ (RowF.keeps hk (fun b e e2 => by have := e.1; have : b = rb := e2; omega) _ _ hR)
 have hrow5 : RowF (w5.setCell ⟨sb, 0, none⟩ (.slice ao5 (src.globals.length + 1) cap5)) (fun b => wl.heap.size <= b /\ some b ≠ (Value.slice ao5 (src.globals.length + 1) cap5).ownBlock /\ some b ≠ fv.ownBlock) fvals src.funcs := RowF.mono (fun b _ e => ⟨e.1, e.2.2.2, e.2.2.1⟩) _ _ (RowF.keeps hks (fun b e e2 => by have := e.1; have : b = sb := e2; omega) _ _ (RowF.keeps hk5 (fun b e e2 => e.2.1 e2.symm) _ _ hrow2))
 refine ⟨(hr.keeps hk5 (fun b e => by have := (hge b e).1; omega)).keeps hks (fun b e => by have : b = sb := e; omega), ((h.env.own hk).keeps hk5 (fun b e => by have := (hge b e).1; omega)).keeps hks (fun b e => by have : b = sb := e; omega), ((h.kp.trans hk).trans' hk5 (fun i hi e => by have := (hge i e).1; omega)).trans' hks (fun i hi e => by have : i = sb := e; omega), ((h.kl.trans (hk.mono (fun _ _ e => Or.inl e))).trans' hk5 (fun i hi e => by have := (hge i e).1; omega)).trans (hks.mono (fun _ _ e => Or.inr e)), ⟨_, fv, fvals, hb5.set 0 (.slice ao5 (src.globals.length + 1) cap5) (by simp), ?_, hother, hrow5, fun e => absurd e (by simp), h6, fun b e => hnd b e⟩, ⟨hlo.1, hlo.2.1, hlo.2.2.1, by omega⟩, hev⟩
 have h9 := hks.row HO (fun b e e2 => by have := hgn b e; have : b = sb := e2; omega)
 rw [show (⟨src.globals ++ [g], src.funcs⟩ : Src).globals.length = src.globals.length + 1 by simp, show bO (⟨src.globals ++ [g], src.funcs⟩ : Src).globals = _ from m9 src.globals g]
 exact h9
theorem ProgJ.nextF {wl wr w2 w5 : World} {sb m m1 cap5 : Nat} {ao5 : Option Addr} {G G2 : Res Src -> Prop} {src : Src} {gv fv : Value} {fvals : List Value} {vs : List Value} {o : Obj} (g : Fu) (h : ProgJ w wl rb tv E sb G wr m src) (hb : Blk wr sb [gv, fv]) (hg : wr.ownsRow wl.heap.size 54 2 gv src.globals.length (bO src.globals)) (hf : wr.ownsRow wl.heap.size 51 5 fv src.funcs.length fvals)
  (hR : RowF wr (fun b => wl.heap.size <= b /\ some b ≠ gv.ownBlock /\ some b ≠ fv.ownBlock) fvals src.funcs) (h5 : src.globals = [] -> gv = .slice none 0 0) (_h6 : src.funcs = [] -> fv = .slice none 0 0) (h7 : ∀ b, gv.ownBlock = some b -> fv.ownBlock ≠ some b)
  (hk : Keeps (fun b => b = rb) wr w2) (hr : RdAt w2 rb tv E m1 0) (hs : FuC w2 (fun b => wr.heap.size <= b) vs g) (hgr : (w2.alloc o).grownBy w5 fv.ownBlock) (HO : w5.ownsRow wl.heap.size 51 5 (.slice ao5 (src.funcs.length + 1) cap5) (src.funcs.length + 1) (fvals ++ vs))
  (hnew : (Value.slice ao5 (src.funcs.length + 1) cap5).ownBlock = fv.ownBlock \/ (Value.slice ao5 (src.funcs.length + 1) cap5).ownBlock = some (w2.heap.size + 1)) (hev : ∀ r, Ev (fun f => Tr.program E f ⟨src.globals, src.funcs ++ [g]⟩ m1) r -> G2 r) : ProgJ w wl rb tv E sb G2 (w5.setCell ⟨sb, 1, none⟩ (.slice ao5 (src.funcs.length + 1) cap5)) m1 ⟨src.globals, src.funcs ++ [g]⟩ := by
 have hlo := h.lo
 have hw2 := hk.size
 have hk5 : Keeps (fun b => fv.ownBlock = some b) w2 w5 := ((Keeps.refl (fun b => fv.ownBlock = some b) w2).alloc o).trans' (Keeps.of_grownBy hgr (fun k _ e => e)) (fun _ _ e => e)
 have hks : Keeps (fun b => b = sb) w5 (w5.setCell ⟨sb, 1, none⟩ (.slice ao5 (src.funcs.length + 1) cap5)) := lI
 have hgg := aX hg
 have hff := aX hf
 have hge : ∀ b, fv.ownBlock = some b -> wl.heap.size <= b /\ b < wr.heap.size := hff
 have hoe : ∀ b, gv.ownBlock = some b -> wl.heap.size <= b /\ b < wr.heap.size := hgg
 have hdis : ∀ b, gv.ownBlock = some b -> ¬ fv.ownBlock = some b := fun b e e2 => h7 b e e2
 have hb5 : Blk w5 sb [gv, fv] := (hb.keeps hk (fun e => by have : sb = rb := e; omega)).keeps hk5 (fun e => by have := (hge sb e).1; omega)
 have hgn : ∀ b, (Value.slice ao5 (src.funcs.length + 1) cap5).ownBlock = some b -> wl.heap.size <= b := fun b e => by
  rcases hnew with h3 | h3
  ·exact (hge b (h3 ▸ e)).1
  ·rw [h3] at e; have := Option.some.inj e; omega
 have hnd : ∀ b, (Value.slice ao5 (src.funcs.length + 1) cap5).ownBlock = some b -> gv.ownBlock ≠ some b := fun b e e2 => by
  rcases hnew with h3 | h3
  ·exact hdis b e2 (h3 ▸ e)
  ·rw [h3] at e; have := Option.some.inj e; have := (hoe b e2).2; omega
 have hs5 := hk5.size
 have hss := hks.size
 have hother : (w5.setCell ⟨sb, 1, none⟩ (.slice ao5 (src.funcs.length + 1) cap5)).ownsRow wl.heap.size 54 2 gv src.globals.length (bO src.globals) :=
  hks.row (hk5.row (hk.row hg (fun b e e2 => by have := (hoe b e).1; have : b = rb := e2; omega)) (fun b e => hdis b e)) (fun b e e2 => by have := (hoe b e).1; have : b = sb := e2; omega)
 have hrow2 : RowF w2 (fun b => wl.heap.size <= b /\ some b ≠ gv.ownBlock /\ some b ≠ fv.ownBlock /\ some b ≠ (Value.slice ao5 (src.funcs.length + 1) cap5).ownBlock) fvals src.funcs := RowF.mono (fun b hb e => by
  refine ⟨e.1, e.2.1, e.2.2, fun h2 => ?_⟩
  rcases hnew with h3 | h3
  ·exact e.2.2 (by rw [<- h3]; exact h2)
  ·rw [h3] at h2; have := Option.some.inj h2; omega) _ _ (RowF.keeps hk (fun b e e2 => by have := e.1; have : b = rb := e2; omega) _ _ hR)
 have hrow5 : RowF (w5.setCell ⟨sb, 1, none⟩ (.slice ao5 (src.funcs.length + 1) cap5)) (fun b => wl.heap.size <= b /\ some b ≠ gv.ownBlock /\ some b ≠ (Value.slice ao5 (src.funcs.length + 1) cap5).ownBlock) fvals src.funcs := RowF.mono (fun b _ e => ⟨e.1, e.2.1, e.2.2.2⟩) _ _ (RowF.keeps hks (fun b e e2 => by have := e.1; have : b = sb := e2; omega) _ _ (RowF.keeps hk5 (fun b e e2 => e.2.2.1 e2.symm) _ _ hrow2))
 have hs2 : FuC w2 (fun b => wl.heap.size <= b /\ some b ≠ gv.ownBlock /\ some b ≠ fv.ownBlock /\ some b ≠ (Value.slice ao5 (src.funcs.length + 1) cap5).ownBlock) vs g := FuC.mono (fun b hb e => by
  have h1 : wr.heap.size <= b := e
  refine ⟨by omega, fun h2 => by have := (hgg b h2.symm).2; omega, fun h2 => by have := (hff b h2.symm).2; omega, fun h2 => ?_⟩
  rcases hnew with h3 | h3
  ·have := (hff b (by rw [<- h3]; exact h2.symm)).2; omega
  ·rw [h3] at h2; have := Option.some.inj h2; omega) hs
 have hs5' : FuC (w5.setCell ⟨sb, 1, none⟩ (.slice ao5 (src.funcs.length + 1) cap5)) (fun b => wl.heap.size <= b /\ some b ≠ gv.ownBlock /\ some b ≠ (Value.slice ao5 (src.funcs.length + 1) cap5).ownBlock) vs g := FuC.mono (fun b _ e => ⟨e.1, e.2.1, e.2.2.2⟩) ((hs2.keeps hk5 (fun b e e2 => e.2.2.1 e2.symm)).keeps hks (fun b e e2 => by have := e.1; have : b = sb := e2; omega))
 refine ⟨(hr.keeps hk5 (fun b e => by have := (hge b e).1; omega)).keeps hks (fun b e => by have : b = sb := e; omega), ((h.env.own hk).keeps hk5 (fun b e => by have := (hge b e).1; omega)).keeps hks (fun b e => by have : b = sb := e; omega), ((h.kp.trans hk).trans' hk5 (fun i hi e => by have := (hge i e).1; omega)).trans' hks (fun i hi e => by have : i = sb := e; omega), ((h.kl.trans (hk.mono (fun _ _ e => Or.inl e))).trans' hk5 (fun i hi e => by have := (hge i e).1; omega)).trans (hks.mono (fun _ _ e => Or.inr e)), ⟨gv, _, fvals ++ vs, hb5.set 1 (.slice ao5 (src.funcs.length + 1) cap5) (by simp), hother, ?_, RowF.snoc hs5' _ _ hrow5, h5, fun e => absurd e (by simp), fun b e e2 => hnd b e2 e⟩, ⟨hlo.1, hlo.2.1, hlo.2.2.1, by omega⟩, hev⟩
 have h9 := hks.row HO (fun b e e2 => by have := hgn b e; have : b = sb := e2; omega)
 rw [show (⟨src.globals, src.funcs ++ [g]⟩ : Src).funcs.length = src.funcs.length + 1 by simp]
 exact h9
def JW (w : World) (F : Nat -> Prop) (src : Src) (gv fv : Value) : Prop := hH w F gv src.globals /\ dT w F fv src.funcs
def SrcO (w : World) (B : Nat) (src : Src) (gv fv : Value) : Prop := ∃ fvals, w.ownsRow B 54 2 gv src.globals.length (bO src.globals) /\ w.ownsRow B 51 5 fv src.funcs.length fvals ∧
 RowF w (fun b => B <= b /\ some b ≠ gv.ownBlock /\ some b ≠ fv.ownBlock) fvals src.funcs /\ (src.globals = [] -> gv = .slice none 0 0) /\ (src.funcs = [] -> fv = .slice none 0 0) /\ ∀ b, gv.ownBlock = some b -> fv.ownBlock ≠ some b
theorem SrcO.keeps {B : Nat} {S : Nat -> Prop} {src : Src} {gv fv : Value} (h : SrcO w B src gv fv) (hk : Keeps S w w') (hF : ∀ b, B <= b -> ¬ S b) : SrcO w' B src gv fv := by
 obtain ⟨fvals, h2, h3, h4, h5, h6, h7⟩ := h
 exact ⟨fvals, hk.row h2 (fun b e e2 => hF b (aX h2 b e).1 e2), hk.row h3 (fun b e e2 => hF b (aX h3 b e).1 e2), RowF.keeps hk (fun b e => hF b e.1) _ _ h4, h5, h6, h7⟩
theorem SrcO.mono {B C : Nat} (hB : C <= B) {src : Src} {gv fv : Value} (h : SrcO w B src gv fv) : SrcO w C src gv fv := by
 obtain ⟨fvals, h2, h3, h4, h5, h6, h7⟩ := h
 have up : ∀ {e : TypeId} {size : Nat} {v : Value} {k : Nat} {xs : List Value}, w.ownsRow B e size v k xs -> w.ownsRow C e size v k xs := fun h => by
  refine ⟨h.1, ?_⟩
  rcases h.2 with h | ⟨g, cap, cur, a1, a2, a3⟩
  ·exact Or.inl h
  ·exact Or.inr ⟨g, cap, cur, a1, Nat.le_trans hB a2, a3⟩
 exact ⟨fvals, up h2, up h3, RowF.mono (fun b _ e => ⟨Nat.le_trans hB e.1, e.2⟩) _ _ h4, h5, h6, h7⟩
theorem SrcO.form {B : Nat} {src : Src} {gv fv : Value} (h : SrcO w B src gv fv) : (∃ a l c, gv = .slice a l c) /\ ∃ a l c, fv = .slice a l c := by
 obtain ⟨fvals, h2, h3, _⟩ := h
 refine ⟨?_, ?_⟩
 ·rcases h2.2 with ⟨h, _⟩ | ⟨g, cap, cur, h1, _⟩
  ·exact ⟨_, _, _, h⟩
  ·exact ⟨_, _, _, h1⟩
 ·rcases h3.2 with ⟨h, _⟩ | ⟨g, cap, cur, h1, _⟩
  ·exact ⟨_, _, _, h⟩
  ·exact ⟨_, _, _, h1⟩
theorem ProgJ.src {wl wr : World} {sb m : Nat} {G : Res Src -> Prop} {src : Src} (h : ProgJ w wl rb tv E sb G wr m src) : ∃ gv fv, Blk wr sb [gv, fv] /\ SrcO wr wl.heap.size src gv fv := by
 obtain ⟨gv, fv, fvals, h1, h2⟩ := h.row
 exact ⟨gv, fv, h1, fvals, h2⟩
def K8 (w w' : World) (src : Src) (v : Value) : Prop := ∃ gv fv, v = .agg #[gv, fv] /\ SrcO w' w.heap.size src gv fv
theorem sQ : ∀ (f : Nat) (acc : List Pa) (n : Nat) (x : List Pa) (m : Nat), params E f acc n = .ok x m -> n <= m
 | 0, _, _, _, _, h => by rw [params] at h; cases h
 | f + 1, acc, n, x, m, h => by
  rw [jF] at h
  obtain ⟨t, n1, h1, h⟩ := aA h
  have a1 := aQ h1
  by_cases q : kindV (pk E n1).text = 0
  ·rw [if_pos q] at h; exact (aN h).elim
  rw [if_neg q] at h
  by_cases q2 : (pk E (n1 + 1)).text = bY
  ·rw [if_pos q2] at h
   have := sQ f _ _ _ _ h
   omega
  ·rw [if_neg q2] at h
   obtain ⟨_, n2, h2, h⟩ := aA h
   have := aS h2
   cases h; omega
theorem xB {f n m : Nat} {g : Fu} (h : Tr.function E f n = .ok g m) : n < m := by
 unfold Tr.function at h
 obtain ⟨_, n1, h1, h⟩ := aA h
 obtain ⟨_, n2, h2, h⟩ := aA h
 obtain ⟨_, n3, h3, h⟩ := aA h
 obtain ⟨_, n4, h4, h⟩ := aA h
 obtain ⟨_, n5, h5, h⟩ := aA h
 have a1 := aS h1
 have a2 := aQ h2
 have a3 := aS h3
 have a5 := (jM f).block _ _ _ _ h5
 have a4 : n3 <= n4 := by
  by_cases q : (pk E n3).text = tRp
  ·rw [if_pos q] at h4; cases h4; omega
  ·rw [if_neg q] at h4; exact sQ f _ _ _ _ h4
 cases h
 split at a5 <;> omega
theorem sR {n m : Nat} {g : Fu} (h : Ev (fun f => Tr.function E f n) (.ok g m)) : n < m := by
 obtain ⟨f, hf⟩ := h.get
 exact xB hf
theorem xC (w : World) (h : RdAt w rb tv E n 0) (hE : TEnv rb E w) : Calls Tryz.prog 67 #[.pointer (some ⟨rb, 0, none⟩)] w fun e w' => ∃ r, Ev (fun f => Tr.program E f ⟨[], []⟩ n) r /\ bH K8 w w' rb tv E 0 r e := by
 obtain ⟨wl, hwl⟩ : ∃ wl, wl = ((w.alloc (.cells #[.slice none 0 0, .slice none 0 0] 26)).alloc (.cells #[.slice none 0 0, .slice none 0 0] 26)) := ⟨_, rfl⟩
 have hbl : Below w.heap.size w wl := by rw [hwl]; exact ((Keeps.refl (fun _ => False) w).alloc _).alloc _ |>.below (Nat.le_refl _) (fun _ _ e => e.elim)
 have hrv : Blk wl w.heap.size [.slice none 0 0, .slice none 0 0] := by rw [hwl]; exact (Blk.new' w [.slice none 0 0, .slice none 0 0] _ rfl).keeps (S := fun _ => False) ((Keeps.refl _ _).alloc _) id
 have hsrc : Blk wl (w.heap.size + 1) [.slice none 0 0, .slice none 0 0] := by rw [hwl]; exact Blk.new' _ [.slice none 0 0, .slice none 0 0] _ (by simp)
 have hszl : wl.heap.size = w.heap.size + 2 := by rw [hwl]; simp
 have HI0 : Hid (ProgJ w wl rb tv E (w.heap.size + 1) (fun r => Ev (fun f => Tr.program E f ⟨[], []⟩ n) r) wl n ⟨[], []⟩) := zz ⟨h.fresh hbl, hE.fresh hbl, Keeps.of_new hbl, Keeps.refl _ _, ⟨_, _, [], hsrc, World.ownsRow_nil _ _ _ _, World.ownsRow_nil _ _ _ _, rfl, fun _ => rfl, fun _ => rfl, fun b e => by cases e⟩, ⟨h.lt, Nat.le_succ _, by omega, Nat.le_refl _⟩, fun _ h => h⟩
 have HRVL := zz hrv
 have HSZL := zz hszl
 have HLT := zz h.lt
 have e118 : (⟨#[118, 97, 114]⟩ : ByteArray).data.toList = oW := rfl
 have e102 : (⟨#[102, 117, 110, 99]⟩ : ByteArray).data.toList = j8 := rfl
 obtain ⟨iG, hiG, hzG0, hzG1, hzG2⟩ := lM oM
 obtain ⟨iF, hiF, hzF0, hzF1, hzF2⟩ := lM sG
 clear h hE hbl hrv hsrc hszl
 go_enter Tryz.func67, Tryz.ntmps67
 go_wp2_with fail
 rw [<- hwl]
 clear hwl
 go_loopw [] (fun wr => ∃ m src, ProgJ w wl rb tv E (w.heap.size + 1) (fun r => Ev (fun f => Tr.program E f ⟨[], []⟩ n) r) wr m src) (fun wr => E.toks.length - mU wr rb)
 case atStart => exact ⟨n, ⟨[], []⟩, HI0.out⟩
 case round =>
  obtain ⟨m, src, hj⟩ := hrel
  have HJ := zz hj
  have HEN := zz (B5 wr hj.rd)
  clear hj
  by_cases hen : E.toks.length <= m
  ·rw [decide_eq_true hen] at HEN
   have HN := zz hen
   clear hen
   go_wp2_with fail
   refine HEN.out.mono ?_
   rintro e w1 ⟨rfl, q, hq⟩
   have hb1 : Below wr.heap.size wr w1 := by rw [hq]; exact dH (Below.refl _ _) q
   have hj1 := HJ.out.on (G2 := (fun r => Ev (fun f => Tr.program E f ⟨[], []⟩ n) r)) (Keeps.of_new hb1) (HJ.out.rd.fresh hb1) HJ.out.ev
   obtain ⟨gv, fv, hb, hs⟩ := hj1.src
   obtain ⟨⟨ga, gl, gc, rfl⟩, fa, fl, fc, rfl⟩ := hs.form
   have hrv := HRVL.out.keeps hj1.kl (fun e => by have := HLT.out; omega)
   have c0 := hb.at_ 0 _ rfl
   have c1 := hb.at_ 1 _ rfl
   have r0 := hrv.at_ 0 _ rfl
   have r1 := hrv.at_ 1 _ rfl
   have y0 := hrv.free 0
   have y1 := hrv.free 1
   have HS1 := zz hs
   have HJ1 := zz hj1
   clear hq hb1 hj1 hb hs hrv
   go_wp2_with fail
   have hks : Keeps (fun b => b = w.heap.size) w1 ((w1.setCell ⟨w.heap.size, 0, none⟩ (.slice ga gl gc)).setCell ⟨w.heap.size, 1, none⟩ (.slice fa fl fc)) := l8
   have hlt0 := HLT.out
   have hlo := HJ1.out.lo
   refine bodyPost_ret (v := .agg #[.slice ga gl gc, .slice fa fl fc]) (by simp [results, Tryz.results67, go_sem, r0, r1]) rfl ⟨.ok src m, HJ.out.ev _ (Ev.now (fun e => by cases e) fun f => by rw [gB, if_pos HN.out]), _, rfl, ⟨_, _, rfl, SrcO.mono (by omega) (HS1.out.keeps hks (fun b e e2 => by omega))⟩, HJ1.out.rd.keeps hks (fun b e => by omega), HJ1.out.kp.trans' hks (fun i hi e => by omega)⟩
  ·rw [decide_eq_false hen] at HEN
   have HN := zz hen
   clear hen
   go_wp2_with fail
   refine HEN.out.mono ?_
   rintro e w1 ⟨rfl, q, hq⟩
   have hb1 : Below wr.heap.size wr w1 := by rw [hq]; exact dH (Below.refl _ _) q
   have hj1 := HJ.out.on (G2 := (fun r => Ev (fun f => Tr.program E f ⟨[], []⟩ n) r)) (Keeps.of_new hb1) (HJ.out.rd.fresh hb1) HJ.out.ev
   have HJ1 := zz hj1
   have HIS := eZ ⟨#[118, 97, 114]⟩ w1 hj1.rd
   rw [e118] at HIS
   have HI := zz HIS
   clear hq hb1 hj1 HIS
   go_wp2_with fail
   by_cases hv : (pk E m).text = oW
   ·rw [decide_eq_true hv] at HI
    have HV := zz hv
    clear hv
    refine HI.out.mono ?_
    rintro e w2 ⟨rfl, hb2⟩
    have hj2 := HJ1.out.on (G2 := (fun r => Ev (fun f => Tr.program E f ⟨[], []⟩ n) r)) (Keeps.of_new hb2) (HJ1.out.rd.fresh hb2) HJ.out.ev
    have HJ2 := zz hj2
    clear hb2 hj2
    obtain ⟨gv, fv, fvals, hblk, hgo, hfo, hrf, h5, h6, h7⟩ := HJ2.out.row
    have hform : ∃ ao cap, gv = .slice ao src.globals.length cap := by
     rcases hgo.2 with ⟨e1, e2⟩ | ⟨g, cap, cur, e1, _⟩
     ·exact ⟨none, 0, by rw [e1, e2]⟩
     ·exact ⟨_, _, e1⟩
    obtain ⟨ao0, cap0, rfl⟩ := hform
    have c0 := hblk.at_ 0 _ rfl
    have HBLK := zz hblk
    have HGO := zz hgo
    have HFO := zz hfo
    have HRF := zz hrf
    have H5 := zz h5
    have H6 := zz h6
    have H7 := zz h7
    have HLO := zz HJ2.out.lo
    clear hblk hgo hfo hrf h5 h6 h7
    by_cases h8 : 8 <= src.globals.length
    ·have HRM : Hid (Calls Tryz.prog 111 #[.pointer (some ⟨rb, 0, none⟩), .int .i64 (src.globals.length : Nat), .int .i64 8] w2 fun e w' => Threw w2 w' rb 4 (pk E m).at_ e) := zz ((fE src.globals.length 8 w2 HJ2.out.rd).mono fun e w' h => by rw [if_pos h8] at h; exact h)
     have H8 := zz h8
     clear h8
     go_wp2_with fail
     refine HRM.out.mono ?_
     rintro e w3 hth
     have hth2 := hth.own HLT.out HJ2.out.kp
     obtain ⟨b, rfl⟩ := aB hth
     refine ⟨rfl, .bad 4 (pk E m).at_, HJ.out.ev _ (Ev.now (fun e => by cases e) fun f => ?_), hth2⟩
     rw [gB, if_neg HN.out, if_pos HV.out, if_pos H8.out]; rfl
    ·have HRM : Hid (Calls Tryz.prog 111 #[.pointer (some ⟨rb, 0, none⟩), .int .i64 (src.globals.length : Nat), .int .i64 8] w2 fun e w' => e = .returned (.tuple #[]) /\ w2 = w') := zz ((fE src.globals.length 8 w2 HJ2.out.rd).mono fun e w' h => by rw [if_neg h8] at h; exact h)
     have HSEQ : Hid (∀ r, Ev (fun f => (eU E m).bind fun g m1 => (aC E 5 m1).bind fun _ m2 => Tr.program E f ⟨src.globals ++ [g], src.funcs⟩ m2) r -> Ev (fun f => Tr.program E f ⟨[], []⟩ n) r) := zz fun r hr => HJ.out.ev _ (Ev.step (h := fun f => (eU E m).bind fun g m1 => (aC E 5 m1).bind fun _ m2 => Tr.program E f ⟨src.globals ++ [g], src.funcs⟩ m2) (fun f => by
      rw [gB, if_neg HN.out, if_pos HV.out, if_neg h8]
      unfold eU
      simp only [l9]
      rfl) hr)
     have hl8 : src.globals.length <= 12 := by omega
     have HML : Hid (src.globals.length + 1 <= maxLen) := zz (by unfold maxLen; omega)
     have HBY : Hid ((src.globals.length + 1) * 24 <= 140737488355328) := zz (by omega)
     clear h8 hl8
     go_wp2_with fail
     refine HRM.out.mono ?_
     rintro e w3 ⟨rfl, rfl⟩
     go_wp2_with fail
     change Code.wp _ _ _ _ _
     have c0d : w2.drew.cell? ⟨w.heap.size + 1, 0, none⟩ = some (.slice ao0 src.globals.length cap0) := c0
     have HRD := zz (HJ2.out.rd.fresh (Below.drew (Below.refl _ _)))
     have HCC := zz (yU w2.drew HRD.out HV.out)
     refine wp_region_held_drew (S := fun _ => True) (by kernel_rfl) trivial (fun hHeld => ?_)
     refine tk 0 17 (.pointer (some ⟨w.heap.size + 1, 0, none⟩)) rfl (.inl ⟨by rfl, ?_⟩) hHeld ?_
     ·intro W9 hSW; (try dsimp only at hSW); go_simp
     try simp only [Act.put, sA, sB, sC]
     refine tk 2 19 (.pointer (some ⟨rb, 0, none⟩)) rfl (.inl ⟨by rfl, ?_⟩) hHeld ?_
     ·intro W9 hSW; (try dsimp only at hSW); go_simp
     try simp only [Act.put, sA, sB, sC]
     refine wpAnyH_ready (rs := [1, 3]) (by kernel_rfl) (by simp) ?_
     refine AllReadyH.cons (o := { dst := some 18, op := _, type := _, pos := _, after := _, guard := _ }) rfl (fun K hK => ?_) (AllReadyH.cons (o := { dst := some 20, op := _, type := _, pos := _, after := _, guard := _ }) rfl (fun K hK => ?_) AllReadyH.nil)
     ·go_simp
      refine hK.out _ _ trivial (fun hHeld => ?_)
      clear hK K
      refine ra 3 (some 20) rfl fun K hK => ?_
      go_simp
      go_at_call 112
      refine HCC.out.mono ?_
      rintro e w4 hsay
      rcases hq : eU E m with _ | ⟨k, a⟩ | ⟨g, m1⟩
      ·rw [hq] at hsay; exact hsay.elim
      ·rw [hq] at hsay
       have hsay' : Threw _ w4 rb k a e := hsay
       obtain ⟨b, rfl⟩ := aB hsay'
       exact ⟨rfl, .bad k a, HSEQ.out _ (Ev.pure (fun e => by cases e) fun _ => by rw [hq]; rfl), hsay'.own HLT.out HJ2.out.kp.drew⟩
      rw [hq] at hsay
      have HEV : Hid (∀ r, Ev (fun f => (aC E 5 m1).bind fun _ m2 => Tr.program E f ⟨src.globals ++ [g], src.funcs⟩ m2) r -> Ev (fun f => Tr.program E f ⟨[], []⟩ n) r) := zz fun r hr => HSEQ.out _ (by rw [hq]; exact hr)
      have HMM : Hid (m < m1) := zz (by
       unfold eU at hq
       obtain ⟨_, k, h1, h2⟩ := aA hq
       have := aQ h1
       cases h2; omega)
      obtain ⟨v4, rfl, rfl, hr4, hk4⟩ := hsay
      have hkw : Keeps (fun b => b = rb) w2 w4 := ((Keeps.refl (fun b => b = rb) w2).drew).trans hk4
      have hb4 := HBLK.out.keeps hkw (fun e => by have := HLO.out; have : w.heap.size + 1 = rb := e; omega)
      have y4 := hb4.at_ 0 _ rfl
      have y5 := hb4.free 0
      have q4 : w.heap.size + 1 < w4.heap.size := hb4.lt
      have hown4 : w4.ownsRow wl.heap.size 54 2 (.slice ao0 src.globals.length cap0) src.globals.length (bO src.globals) := hkw.row HGO.out (fun b e e2 => by have := (aX HGO.out b e).1; have := HLO.out; have : b = rb := e2; omega)
      have hszw : wl.heap.size <= w4.heap.size := Nat.le_trans HLO.out.2.2.2 hkw.size
      have HH1 : Hid (∀ x ∈ [Value.string (mkT g.name), Value.int .i64 (g.at_ : Nat)], x.oneCell' = true) := zz (fun (x : Value) hx => by simp at hx; rcases hx with rfl | rfl <;> rfl)
      have HCN := zz (eI w4 [.string (mkT g.name), .int .i64 (g.at_ : Nat)] 54)
      have HOW := zz hown4
      have HR4 := zz hr4
      have HK4 := zz hkw
      have HSZ := zz hszw
      clear hr4 hk4 hkw hown4 hszw hb4
      refine hK.out _ _ trivial (fun hHeld => ?_)
      clear hK K
      refine ra 4 (some 21) rfl fun K hK => ?_
      go_simp
      refine hK.out _ _ trivial (fun hHeld => ?_)
      clear hK K
      refine ra 5 (some 22) rfl fun K hK => ?_
      refine cC rfl (.tmp 18) (.tmp 21) 23 54 rfl iG (.agg #[.string ByteArray.empty, .int .i64 0]) 2 24 Tryz.underlying23 hiG hzG0 hzG1 hzG2 rfl (by decide) wl.heap.size (.slice ao0 src.globals.length cap0) src.globals.length _ (World.ownsRow.alloc HOW.out _) HML.out HBY.out (by have := HSZ.out; simp; omega) ⟨w4.heap.size, 0, none⟩ _ rfl HCN.out HH1.out (by simp [Act.eval]) (by simp [Act.eval]) ?_
      intro ao' cap' w5 hown5 hgrow5 hnew
      have HNW : Hid ((Value.slice ao' (src.globals.length + 1) cap').ownBlock = (Value.slice ao0 src.globals.length cap0).ownBlock \/ (Value.slice ao' (src.globals.length + 1) cap').ownBlock = some (w4.heap.size + 1)) := zz (by simpa using hnew)
      clear hnew
      have hk5 : Keeps (fun b => (Value.slice ao0 src.globals.length cap0).ownBlock = some b) w4 w5 := ((Keeps.refl (fun b => (Value.slice ao0 src.globals.length cap0).ownBlock = some b) w4).alloc _).trans' (Keeps.of_grownBy hgrow5 (fun k _ e => e)) (fun _ _ e => e)
      have hnb : ¬ (Value.slice ao0 src.globals.length cap0).ownBlock = some (w.heap.size + 1) := fun e => by have := (aX HOW.out _ e).1; have := HSZL.out; omega
      have y6 : w5.cell? ⟨w.heap.size + 1, 0, none⟩ = some (.slice ao0 src.globals.length cap0) := hk5.cell_of y4 hnb
      have y7 : w5.frozen? ⟨w.heap.size + 1, 0, none⟩ = false := by rw [hk5.frozen (p := ⟨w.heap.size + 1, 0, none⟩) q4 hnb]; exact y5
      have HO5 := zz hown5
      have HG5 := zz hgrow5
      clear hown5 hgrow5 hk5 hnb
      refine hK.out _ _ trivial (fun hHeld => ?_)
      clear hK K
      try simp only [Act.put, sA, sB, sC]
      refine tk 6 23 (.pointer (some ⟨w.heap.size + 1, 0, none⟩)) rfl (.inl ⟨by rfl, ?_⟩) hHeld ?_
      ·intro W9 hSW; (try dsimp only at hSW); go_simp
      try simp only [Act.put, sA, sB, sC]
      refine ra 7 none rfl fun K hK => ?_
      go_simp
      refine hK.out _ _ trivial (fun hHeld => ?_)
      clear hK K
      refine wpAnyH_done (by kernel_rfl) ?_ _
      have hj5 := HJ2.out.nextG (G2 := fun _ => True) (g := g) HBLK.out HGO.out HFO.out HRF.out H5.out H6.out H7.out HK4.out HR4.out HG5.out HO5.out HNW.out (fun _ _ => trivial)
      have HJ5 := zz hj5
      have HTK := zz (aT 5 (by decide) _ hj5.rd)
      clear hj5 y4 y5 y6 y7 c0 c0d q4
      go_wp2_with fail
      cases ht : aC E 5 m1 with
      | out => exact absurd ht (bP E _ _)
      | bad k a =>
       rw [ht] at HTK
       refine HTK.out.mono ?_
       rintro e w7 hth
       have hth2 := Threw.own hth HLT.out HJ5.out.kp
       obtain ⟨b, rfl⟩ := aB hth
       exact ⟨rfl, .bad k a, HEV.out _ (Ev.pure (fun e => by cases e) fun _ => by rw [ht]; rfl), hth2⟩
      | ok t m2 =>
       rw [ht] at HTK
       refine HTK.out.mono ?_
       rintro e w7 ⟨v7, rfl, _, hr7, hk7⟩
       have hm2 := aQ ht
       have hj7 := HJ5.out.on (G2 := (fun r => Ev (fun f => Tr.program E f ⟨[], []⟩ n) r)) hk7 hr7 (fun r hr => HEV.out r (by rw [ht]; exact hr))
       have HJ7 := zz hj7
       have HM2 := zz hm2
       clear hj7 hr7 hk7 ht hm2
       go_wp2_with fail
       refine ⟨⟨m2, _, HJ7.out⟩, ?_⟩
       have h1 := HJ7.out.rd
       have h2 := HJ.out.rd
       rw [h1.pos, h2.pos]
       have := h1.hn
       have := HMM.out
       have := HM2.out
       omega
     ·go_simp
      go_at_call 112
      refine HCC.out.mono ?_
      rintro e w4 hsay
      rcases hq : eU E m with _ | ⟨k, a⟩ | ⟨g, m1⟩
      ·rw [hq] at hsay; exact hsay.elim
      ·rw [hq] at hsay
       have hsay' : Threw _ w4 rb k a e := hsay
       obtain ⟨b, rfl⟩ := aB hsay'
       exact ⟨rfl, .bad k a, HSEQ.out _ (Ev.pure (fun e => by cases e) fun _ => by rw [hq]; rfl), hsay'.own HLT.out HJ2.out.kp.drew⟩
      rw [hq] at hsay
      have HEV : Hid (∀ r, Ev (fun f => (aC E 5 m1).bind fun _ m2 => Tr.program E f ⟨src.globals ++ [g], src.funcs⟩ m2) r -> Ev (fun f => Tr.program E f ⟨[], []⟩ n) r) := zz fun r hr => HSEQ.out _ (by rw [hq]; exact hr)
      have HMM : Hid (m < m1) := zz (by
       unfold eU at hq
       obtain ⟨_, k, h1, h2⟩ := aA hq
       have := aQ h1
       cases h2; omega)
      obtain ⟨v4, rfl, rfl, hr4, hk4⟩ := hsay
      have hkw : Keeps (fun b => b = rb) w2 w4 := ((Keeps.refl (fun b => b = rb) w2).drew).trans hk4
      have hb4 := HBLK.out.keeps hkw (fun e => by have := HLO.out; have : w.heap.size + 1 = rb := e; omega)
      have y4 := hb4.at_ 0 _ rfl
      have y5 := hb4.free 0
      have q4 : w.heap.size + 1 < w4.heap.size := hb4.lt
      have hown4 : w4.ownsRow wl.heap.size 54 2 (.slice ao0 src.globals.length cap0) src.globals.length (bO src.globals) := hkw.row HGO.out (fun b e e2 => by have := (aX HGO.out b e).1; have := HLO.out; have : b = rb := e2; omega)
      have hszw : wl.heap.size <= w4.heap.size := Nat.le_trans HLO.out.2.2.2 hkw.size
      have HH1 : Hid (∀ x ∈ [Value.string (mkT g.name), Value.int .i64 (g.at_ : Nat)], x.oneCell' = true) := zz (fun (x : Value) hx => by simp at hx; rcases hx with rfl | rfl <;> rfl)
      have HCN := zz (eI w4 [.string (mkT g.name), .int .i64 (g.at_ : Nat)] 54)
      have HOW := zz hown4
      have HR4 := zz hr4
      have HK4 := zz hkw
      have HSZ := zz hszw
      clear hr4 hk4 hkw hown4 hszw hb4
      refine hK.out _ _ trivial (fun hHeld => ?_)
      clear hK K
      refine wpAnyH_ready (rs := [1, 4]) (by kernel_rfl) (by simp) ?_
      refine AllReadyH.cons (o := { dst := some 18, op := _, type := _, pos := _, after := _, guard := _ }) rfl (fun K hK => ?_) (AllReadyH.cons (o := { dst := some 21, op := _, type := _, pos := _, after := _, guard := _ }) rfl (fun K hK => ?_) AllReadyH.nil)
      ·go_simp
       refine hK.out _ _ trivial (fun hHeld => ?_)
       clear hK K
       refine ra 4 (some 21) rfl fun K hK => ?_
       go_simp
       refine hK.out _ _ trivial (fun hHeld => ?_)
       clear hK K
       refine ra 5 (some 22) rfl fun K hK => ?_
       refine cC rfl (.tmp 18) (.tmp 21) 23 54 rfl iG (.agg #[.string ByteArray.empty, .int .i64 0]) 2 24 Tryz.underlying23 hiG hzG0 hzG1 hzG2 rfl (by decide) wl.heap.size (.slice ao0 src.globals.length cap0) src.globals.length _ (World.ownsRow.alloc HOW.out _) HML.out HBY.out (by have := HSZ.out; simp; omega) ⟨w4.heap.size, 0, none⟩ _ rfl HCN.out HH1.out (by simp [Act.eval]) (by simp [Act.eval]) ?_
       intro ao' cap' w5 hown5 hgrow5 hnew
       have HNW : Hid ((Value.slice ao' (src.globals.length + 1) cap').ownBlock = (Value.slice ao0 src.globals.length cap0).ownBlock \/ (Value.slice ao' (src.globals.length + 1) cap').ownBlock = some (w4.heap.size + 1)) := zz (by simpa using hnew)
       clear hnew
       have hk5 : Keeps (fun b => (Value.slice ao0 src.globals.length cap0).ownBlock = some b) w4 w5 := ((Keeps.refl (fun b => (Value.slice ao0 src.globals.length cap0).ownBlock = some b) w4).alloc _).trans' (Keeps.of_grownBy hgrow5 (fun k _ e => e)) (fun _ _ e => e)
       have hnb : ¬ (Value.slice ao0 src.globals.length cap0).ownBlock = some (w.heap.size + 1) := fun e => by have := (aX HOW.out _ e).1; have := HSZL.out; omega
       have y6 : w5.cell? ⟨w.heap.size + 1, 0, none⟩ = some (.slice ao0 src.globals.length cap0) := hk5.cell_of y4 hnb
       have y7 : w5.frozen? ⟨w.heap.size + 1, 0, none⟩ = false := by rw [hk5.frozen (p := ⟨w.heap.size + 1, 0, none⟩) q4 hnb]; exact y5
       have HO5 := zz hown5
       have HG5 := zz hgrow5
       clear hown5 hgrow5 hk5 hnb
       refine hK.out _ _ trivial (fun hHeld => ?_)
       clear hK K
       try simp only [Act.put, sA, sB, sC]
       refine tk 6 23 (.pointer (some ⟨w.heap.size + 1, 0, none⟩)) rfl (.inl ⟨by rfl, ?_⟩) hHeld ?_
       ·intro W9 hSW; (try dsimp only at hSW); go_simp
       try simp only [Act.put, sA, sB, sC]
       refine ra 7 none rfl fun K hK => ?_
       go_simp
       refine hK.out _ _ trivial (fun hHeld => ?_)
       clear hK K
       refine wpAnyH_done (by kernel_rfl) ?_ _
       have hj5 := HJ2.out.nextG (G2 := fun _ => True) (g := g) HBLK.out HGO.out HFO.out HRF.out H5.out H6.out H7.out HK4.out HR4.out HG5.out HO5.out HNW.out (fun _ _ => trivial)
       have HJ5 := zz hj5
       have HTK := zz (aT 5 (by decide) _ hj5.rd)
       clear hj5 y4 y5 y6 y7 c0 c0d q4
       go_wp2_with fail
       cases ht : aC E 5 m1 with
       | out => exact absurd ht (bP E _ _)
       | bad k a =>
        rw [ht] at HTK
        refine HTK.out.mono ?_
        rintro e w7 hth
        have hth2 := Threw.own hth HLT.out HJ5.out.kp
        obtain ⟨b, rfl⟩ := aB hth
        exact ⟨rfl, .bad k a, HEV.out _ (Ev.pure (fun e => by cases e) fun _ => by rw [ht]; rfl), hth2⟩
       | ok t m2 =>
        rw [ht] at HTK
        refine HTK.out.mono ?_
        rintro e w7 ⟨v7, rfl, _, hr7, hk7⟩
        have hm2 := aQ ht
        have hj7 := HJ5.out.on (G2 := (fun r => Ev (fun f => Tr.program E f ⟨[], []⟩ n) r)) hk7 hr7 (fun r hr => HEV.out r (by rw [ht]; exact hr))
        have HJ7 := zz hj7
        have HM2 := zz hm2
        clear hj7 hr7 hk7 ht hm2
        go_wp2_with fail
        refine ⟨⟨m2, _, HJ7.out⟩, ?_⟩
        have h1 := HJ7.out.rd
        have h2 := HJ.out.rd
        rw [h1.pos, h2.pos]
        have := h1.hn
        have := HMM.out
        have := HM2.out
        omega
      ·go_simp
       refine hK.out _ _ trivial (fun hHeld => ?_)
       clear hK K
       refine ra 1 (some 18) rfl fun K hK => ?_
       go_simp
       refine hK.out _ _ trivial (fun hHeld => ?_)
       clear hK K
       refine ra 5 (some 22) rfl fun K hK => ?_
       refine cC rfl (.tmp 18) (.tmp 21) 23 54 rfl iG (.agg #[.string ByteArray.empty, .int .i64 0]) 2 24 Tryz.underlying23 hiG hzG0 hzG1 hzG2 rfl (by decide) wl.heap.size (.slice ao0 src.globals.length cap0) src.globals.length _ (World.ownsRow.alloc HOW.out _) HML.out HBY.out (by have := HSZ.out; simp; omega) ⟨w4.heap.size, 0, none⟩ _ rfl HCN.out HH1.out (by simp [Act.eval]) (by simp [Act.eval]) ?_
       intro ao' cap' w5 hown5 hgrow5 hnew
       have HNW : Hid ((Value.slice ao' (src.globals.length + 1) cap').ownBlock = (Value.slice ao0 src.globals.length cap0).ownBlock \/ (Value.slice ao' (src.globals.length + 1) cap').ownBlock = some (w4.heap.size + 1)) := zz (by simpa using hnew)
       clear hnew
       have hk5 : Keeps (fun b => (Value.slice ao0 src.globals.length cap0).ownBlock = some b) w4 w5 := ((Keeps.refl (fun b => (Value.slice ao0 src.globals.length cap0).ownBlock = some b) w4).alloc _).trans' (Keeps.of_grownBy hgrow5 (fun k _ e => e)) (fun _ _ e => e)
       have hnb : ¬ (Value.slice ao0 src.globals.length cap0).ownBlock = some (w.heap.size + 1) := fun e => by have := (aX HOW.out _ e).1; have := HSZL.out; omega
       have y6 : w5.cell? ⟨w.heap.size + 1, 0, none⟩ = some (.slice ao0 src.globals.length cap0) := hk5.cell_of y4 hnb
       have y7 : w5.frozen? ⟨w.heap.size + 1, 0, none⟩ = false := by rw [hk5.frozen (p := ⟨w.heap.size + 1, 0, none⟩) q4 hnb]; exact y5
       have HO5 := zz hown5
       have HG5 := zz hgrow5
       clear hown5 hgrow5 hk5 hnb
       refine hK.out _ _ trivial (fun hHeld => ?_)
       clear hK K
       try simp only [Act.put, sA, sB, sC]
       refine tk 6 23 (.pointer (some ⟨w.heap.size + 1, 0, none⟩)) rfl (.inl ⟨by rfl, ?_⟩) hHeld ?_
       ·intro W9 hSW; (try dsimp only at hSW); go_simp
       try simp only [Act.put, sA, sB, sC]
       refine ra 7 none rfl fun K hK => ?_
       go_simp
       refine hK.out _ _ trivial (fun hHeld => ?_)
       clear hK K
       refine wpAnyH_done (by kernel_rfl) ?_ _
       have hj5 := HJ2.out.nextG (G2 := fun _ => True) (g := g) HBLK.out HGO.out HFO.out HRF.out H5.out H6.out H7.out HK4.out HR4.out HG5.out HO5.out HNW.out (fun _ _ => trivial)
       have HJ5 := zz hj5
       have HTK := zz (aT 5 (by decide) _ hj5.rd)
       clear hj5 y4 y5 y6 y7 c0 c0d q4
       go_wp2_with fail
       cases ht : aC E 5 m1 with
       | out => exact absurd ht (bP E _ _)
       | bad k a =>
        rw [ht] at HTK
        refine HTK.out.mono ?_
        rintro e w7 hth
        have hth2 := Threw.own hth HLT.out HJ5.out.kp
        obtain ⟨b, rfl⟩ := aB hth
        exact ⟨rfl, .bad k a, HEV.out _ (Ev.pure (fun e => by cases e) fun _ => by rw [ht]; rfl), hth2⟩
       | ok t m2 =>
        rw [ht] at HTK
        refine HTK.out.mono ?_
        rintro e w7 ⟨v7, rfl, _, hr7, hk7⟩
        have hm2 := aQ ht
        have hj7 := HJ5.out.on (G2 := (fun r => Ev (fun f => Tr.program E f ⟨[], []⟩ n) r)) hk7 hr7 (fun r hr => HEV.out r (by rw [ht]; exact hr))
        have HJ7 := zz hj7
        have HM2 := zz hm2
        clear hj7 hr7 hk7 ht hm2
        go_wp2_with fail
        refine ⟨⟨m2, _, HJ7.out⟩, ?_⟩
        have h1 := HJ7.out.rd
        have h2 := HJ.out.rd
        rw [h1.pos, h2.pos]
        have := h1.hn
        have := HMM.out
        have := HM2.out
        omega
   ·rw [decide_eq_false hv] at HI
    have HV := zz hv
    clear hv
    refine HI.out.mono ?_
    rintro e w3 ⟨rfl, hb3⟩
    have hj3 := HJ1.out.on (G2 := (fun r => Ev (fun f => Tr.program E f ⟨[], []⟩ n) r)) (Keeps.of_new hb3) (HJ1.out.rd.fresh hb3) HJ.out.ev
    have HJ3 := zz hj3
    have HIS := eZ ⟨#[102, 117, 110, 99]⟩ w3 hj3.rd
    rw [e102] at HIS
    have HI2 := zz HIS
    clear hb3 hj3 HIS HI
    go_wp2_with fail
    by_cases hf : (pk E m).text = j8
    ·rw [decide_eq_true hf] at HI2
     have HF := zz hf
     clear hf
     refine HI2.out.mono ?_
     rintro e w2 ⟨rfl, hb2⟩
     have hj2 := HJ3.out.on (G2 := (fun r => Ev (fun f => Tr.program E f ⟨[], []⟩ n) r)) (Keeps.of_new hb2) (HJ3.out.rd.fresh hb2) HJ.out.ev
     have HJ2 := zz hj2
     clear hb2 hj2
     obtain ⟨gv, fv, fvals, hblk, hgo, hfo, hrf, h5, h6, h7⟩ := HJ2.out.row
     have hform : ∃ ao cap, fv = .slice ao src.funcs.length cap := by
      rcases hfo.2 with ⟨e1, e2⟩ | ⟨g, cap, cur, e1, _⟩
      ·exact ⟨none, 0, by rw [e1, e2]⟩
      ·exact ⟨_, _, e1⟩
     obtain ⟨ao0, cap0, rfl⟩ := hform
     have c0 := hblk.at_ 1 _ rfl
     have HBLK := zz hblk
     have HGO := zz hgo
     have HFO := zz hfo
     have HRF := zz hrf
     have H5 := zz h5
     have H6 := zz h6
     have H7 := zz h7
     have HLO := zz HJ2.out.lo
     clear hblk hgo hfo hrf h5 h6 h7
     by_cases h8 : 12 <= src.funcs.length
     ·have HRM : Hid (Calls Tryz.prog 111 #[.pointer (some ⟨rb, 0, none⟩), .int .i64 (src.funcs.length : Nat), .int .i64 12] w2 fun e w' => Threw w2 w' rb 4 (pk E m).at_ e) := zz ((fE src.funcs.length 12 w2 HJ2.out.rd).mono fun e w' h => by rw [if_pos h8] at h; exact h)
      have H8 := zz h8
      clear h8
      go_wp2_with fail
      refine HRM.out.mono ?_
      rintro e w3 hth
      have hth2 := hth.own HLT.out HJ2.out.kp
      obtain ⟨b, rfl⟩ := aB hth
      refine ⟨rfl, .bad 4 (pk E m).at_, HJ.out.ev _ (Ev.now (fun e => by cases e) fun f => ?_), hth2⟩
      rw [gB, if_neg HN.out, if_neg HV.out, if_pos HF.out, if_pos H8.out]; rfl
     ·have HRM : Hid (Calls Tryz.prog 111 #[.pointer (some ⟨rb, 0, none⟩), .int .i64 (src.funcs.length : Nat), .int .i64 12] w2 fun e w' => e = .returned (.tuple #[]) /\ w2 = w') := zz ((fE src.funcs.length 12 w2 HJ2.out.rd).mono fun e w' h => by rw [if_neg h8] at h; exact h)
      have HSEQ : Hid (∀ r, Ev (fun f => (Tr.function E f m).bind fun g m1 => (aC E 5 m1).bind fun _ m2 => Tr.program E f ⟨src.globals, src.funcs ++ [g]⟩ m2) r -> Ev (fun f => Tr.program E f ⟨[], []⟩ n) r) := zz fun r hr => HJ.out.ev _ (Ev.step (h := fun f => (Tr.function E f m).bind fun g m1 => (aC E 5 m1).bind fun _ m2 => Tr.program E f ⟨src.globals, src.funcs ++ [g]⟩ m2) (fun f => by
       rw [gB, if_neg HN.out, if_neg HV.out, if_pos HF.out, if_neg h8]) hr)
      have hl8 : src.funcs.length <= 12 := by omega
      have HML : Hid (src.funcs.length + 1 <= maxLen) := zz (by unfold maxLen; omega)
      have HBY : Hid ((src.funcs.length + 1) * 80 <= 140737488355328) := zz (by omega)
      clear h8 hl8
      go_wp2_with fail
      refine HRM.out.mono ?_
      rintro e w3 ⟨rfl, rfl⟩
      go_wp2_with fail
      change Code.wp _ _ _ _ _
      have c0d : w2.drew.cell? ⟨w.heap.size + 1, 1, none⟩ = some (.slice ao0 src.funcs.length cap0) := c0
      have HRD := zz (HJ2.out.rd.fresh (Below.drew (Below.refl _ _)))
      have HCC := zz (uN w2.drew HRD.out (HJ2.out.env.fresh (Below.drew (Below.refl _ _))))
      refine wp_region_held_drew (S := fun _ => True) (by kernel_rfl) trivial (fun hHeld => ?_)
      refine tk 0 32 (.pointer (some ⟨w.heap.size + 1, 1, none⟩)) rfl (.inl ⟨by rfl, ?_⟩) hHeld ?_
      ·intro W9 hSW; (try dsimp only at hSW); go_simp
      try simp only [Act.put, sA, sB, sC]
      refine tk 2 34 (.pointer (some ⟨rb, 0, none⟩)) rfl (.inl ⟨by rfl, ?_⟩) hHeld ?_
      ·intro W9 hSW; (try dsimp only at hSW); go_simp
      try simp only [Act.put, sA, sB, sC]
      refine wpAnyH_ready (rs := [1, 3]) (by kernel_rfl) (by simp) ?_
      refine AllReadyH.cons (o := { dst := some 33, op := _, type := _, pos := _, after := _, guard := _ }) rfl (fun K hK => ?_) (AllReadyH.cons (o := { dst := some 35, op := _, type := _, pos := _, after := _, guard := _ }) rfl (fun K hK => ?_) AllReadyH.nil)
      ·go_simp
       refine hK.out _ _ trivial (fun hHeld => ?_)
       clear hK K
       refine ra 3 (some 35) rfl fun K hK => ?_
       go_simp
       go_at_call 113
       refine HCC.out.mono ?_
       rintro e w4 ⟨r, hev, hsay⟩
       rcases r with _ | ⟨k, a⟩ | ⟨g, m1⟩
       ·exact hsay.elim
       ·have hsay' : Threw _ w4 rb k a e := hsay
        obtain ⟨b, rfl⟩ := aB hsay'
        exact ⟨rfl, .bad k a, HSEQ.out _ (Ev.bad hev), hsay'.own HLT.out HJ2.out.kp.drew⟩
       have HEV : Hid (∀ r, Ev (fun f => (aC E 5 m1).bind fun _ m2 => Tr.program E f ⟨src.globals, src.funcs ++ [g]⟩ m2) r -> Ev (fun f => Tr.program E f ⟨[], []⟩ n) r) := zz fun r hr => HSEQ.out _ (Ev.then hev hr)
       have HMM : Hid (m < m1) := zz (sR hev)
       obtain ⟨v4, rfl, ⟨vs, rfl, hfc⟩, hr4, hk4⟩ := hsay
       have hfc' := hfc
       obtain ⟨pv, bv, e2, hpf, hbf⟩ := hfc'
       obtain ⟨pa, pc, rfl⟩ := hpf.form
       obtain ⟨la, ll, lc, rfl⟩ := hbf.1.form
       have HFC := zz hfc
       clear hfc hpf hbf hev
       unfold fu1 at e2
       have hkw : Keeps (fun b => b = rb) w2 w4 := ((Keeps.refl (fun b => b = rb) w2).drew).trans hk4
       have hb4 := HBLK.out.keeps hkw (fun e => by have := HLO.out; have : w.heap.size + 1 = rb := e; omega)
       have y4 := hb4.at_ 1 _ rfl
       have y5 := hb4.free 1
       have q4 : w.heap.size + 1 < w4.heap.size := hb4.lt
       have hown4 : w4.ownsRow wl.heap.size 51 5 (.slice ao0 src.funcs.length cap0) src.funcs.length fvals := hkw.row HFO.out (fun b e e2 => by have := (aX HFO.out b e).1; have := HLO.out; have : b = rb := e2; omega)
       have hszw : wl.heap.size <= w4.heap.size := Nat.le_trans HLO.out.2.2.2 hkw.size
       have HH1 : Hid (∀ x ∈ vs, x.oneCell' = true) := zz (fun (x : Value) hx => by rw [e2] at hx; simp at hx; rcases hx with rfl | rfl | rfl | rfl | rfl <;> rfl)
       have HCN := zz (eI w4 vs 51)
       have HOW := zz hown4
       have HR4 := zz hr4
       have HK4 := zz hkw
       have HSZ := zz hszw
       clear hr4 hk4 hkw hown4 hszw hb4
       subst e2
       refine hK.out _ _ trivial (fun hHeld => ?_)
       clear hK K
       refine ra 4 (some 36) rfl fun K hK => ?_
       go_simp
       refine hK.out _ _ trivial (fun hHeld => ?_)
       clear hK K
       refine ra 5 (some 37) rfl fun K hK => ?_
       refine cC rfl (.tmp 33) (.tmp 36) 24 51 rfl iF (.agg #[.string ByteArray.empty, .int .i64 0, .slice none 0 0, .int .i64 0, .slice none 0 0]) 5 80 Tryz.underlying24 hiF hzF0 hzF1 hzF2 rfl (by decide) wl.heap.size (.slice ao0 src.funcs.length cap0) src.funcs.length _ (World.ownsRow.alloc HOW.out _) HML.out HBY.out (by have := HSZ.out; simp; omega) ⟨w4.heap.size, 0, none⟩ _ rfl HCN.out HH1.out (by simp [Act.eval]) (by simp [Act.eval]) ?_
       intro ao' cap' w5 hown5 hgrow5 hnew
       have HNW : Hid ((Value.slice ao' (src.funcs.length + 1) cap').ownBlock = (Value.slice ao0 src.funcs.length cap0).ownBlock \/ (Value.slice ao' (src.funcs.length + 1) cap').ownBlock = some (w4.heap.size + 1)) := zz (by simpa using hnew)
       clear hnew
       have hk5 : Keeps (fun b => (Value.slice ao0 src.funcs.length cap0).ownBlock = some b) w4 w5 := ((Keeps.refl (fun b => (Value.slice ao0 src.funcs.length cap0).ownBlock = some b) w4).alloc _).trans' (Keeps.of_grownBy hgrow5 (fun k _ e => e)) (fun _ _ e => e)
       have hnb : ¬ (Value.slice ao0 src.funcs.length cap0).ownBlock = some (w.heap.size + 1) := fun e => by have := (aX HOW.out _ e).1; have := HSZL.out; omega
       have y6 : w5.cell? ⟨w.heap.size + 1, 1, none⟩ = some (.slice ao0 src.funcs.length cap0) := hk5.cell_of y4 hnb
       have y7 : w5.frozen? ⟨w.heap.size + 1, 1, none⟩ = false := by rw [hk5.frozen (p := ⟨w.heap.size + 1, 1, none⟩) q4 hnb]; exact y5
       have HO5 := zz hown5
       have HG5 := zz hgrow5
       clear hown5 hgrow5 hk5 hnb
       refine hK.out _ _ trivial (fun hHeld => ?_)
       clear hK K
       try simp only [Act.put, sA, sB, sC]
       refine tk 6 38 (.pointer (some ⟨w.heap.size + 1, 1, none⟩)) rfl (.inl ⟨by rfl, ?_⟩) hHeld ?_
       ·intro W9 hSW; (try dsimp only at hSW); go_simp
       try simp only [Act.put, sA, sB, sC]
       refine ra 7 none rfl fun K hK => ?_
       go_simp
       refine hK.out _ _ trivial (fun hHeld => ?_)
       clear hK K
       refine wpAnyH_done (by kernel_rfl) ?_ _
       have hj5 := HJ2.out.nextF (G2 := fun _ => True) (g := g) HBLK.out HGO.out HFO.out HRF.out H5.out H6.out H7.out HK4.out HR4.out HFC.out HG5.out HO5.out HNW.out (fun _ _ => trivial)
       have HJ5 := zz hj5
       have HTK := zz (aT 5 (by decide) _ hj5.rd)
       clear hj5 y4 y5 y6 y7 c0 c0d q4
       go_wp2_with fail
       cases ht : aC E 5 m1 with
       | out => exact absurd ht (bP E _ _)
       | bad k a =>
        rw [ht] at HTK
        refine HTK.out.mono ?_
        rintro e w7 hth
        have hth2 := Threw.own hth HLT.out HJ5.out.kp
        obtain ⟨b, rfl⟩ := aB hth
        exact ⟨rfl, .bad k a, HEV.out _ (Ev.pure (fun e => by cases e) fun _ => by rw [ht]; rfl), hth2⟩
       | ok t m2 =>
        rw [ht] at HTK
        refine HTK.out.mono ?_
        rintro e w7 ⟨v7, rfl, _, hr7, hk7⟩
        have hm2 := aQ ht
        have hj7 := HJ5.out.on (G2 := (fun r => Ev (fun f => Tr.program E f ⟨[], []⟩ n) r)) hk7 hr7 (fun r hr => HEV.out r (by rw [ht]; exact hr))
        have HJ7 := zz hj7
        have HM2 := zz hm2
        clear hj7 hr7 hk7 ht hm2
        go_wp2_with fail
        refine ⟨⟨m2, _, HJ7.out⟩, ?_⟩
        have h1 := HJ7.out.rd
        have h2 := HJ.out.rd
        rw [h1.pos, h2.pos]
        have := h1.hn
        have := HMM.out
        have := HM2.out
        omega
      ·go_simp
       go_at_call 113
       refine HCC.out.mono ?_
       rintro e w4 ⟨r, hev, hsay⟩
       rcases r with _ | ⟨k, a⟩ | ⟨g, m1⟩
       ·exact hsay.elim
       ·have hsay' : Threw _ w4 rb k a e := hsay
        obtain ⟨b, rfl⟩ := aB hsay'
        exact ⟨rfl, .bad k a, HSEQ.out _ (Ev.bad hev), hsay'.own HLT.out HJ2.out.kp.drew⟩
       have HEV : Hid (∀ r, Ev (fun f => (aC E 5 m1).bind fun _ m2 => Tr.program E f ⟨src.globals, src.funcs ++ [g]⟩ m2) r -> Ev (fun f => Tr.program E f ⟨[], []⟩ n) r) := zz fun r hr => HSEQ.out _ (Ev.then hev hr)
       have HMM : Hid (m < m1) := zz (sR hev)
       obtain ⟨v4, rfl, ⟨vs, rfl, hfc⟩, hr4, hk4⟩ := hsay
       have hfc' := hfc
       obtain ⟨pv, bv, e2, hpf, hbf⟩ := hfc'
       obtain ⟨pa, pc, rfl⟩ := hpf.form
       obtain ⟨la, ll, lc, rfl⟩ := hbf.1.form
       have HFC := zz hfc
       clear hfc hpf hbf hev
       unfold fu1 at e2
       have hkw : Keeps (fun b => b = rb) w2 w4 := ((Keeps.refl (fun b => b = rb) w2).drew).trans hk4
       have hb4 := HBLK.out.keeps hkw (fun e => by have := HLO.out; have : w.heap.size + 1 = rb := e; omega)
       have y4 := hb4.at_ 1 _ rfl
       have y5 := hb4.free 1
       have q4 : w.heap.size + 1 < w4.heap.size := hb4.lt
       have hown4 : w4.ownsRow wl.heap.size 51 5 (.slice ao0 src.funcs.length cap0) src.funcs.length fvals := hkw.row HFO.out (fun b e e2 => by have := (aX HFO.out b e).1; have := HLO.out; have : b = rb := e2; omega)
       have hszw : wl.heap.size <= w4.heap.size := Nat.le_trans HLO.out.2.2.2 hkw.size
       have HH1 : Hid (∀ x ∈ vs, x.oneCell' = true) := zz (fun (x : Value) hx => by rw [e2] at hx; simp at hx; rcases hx with rfl | rfl | rfl | rfl | rfl <;> rfl)
       have HCN := zz (eI w4 vs 51)
       have HOW := zz hown4
       have HR4 := zz hr4
       have HK4 := zz hkw
       have HSZ := zz hszw
       clear hr4 hk4 hkw hown4 hszw hb4
       subst e2
       refine hK.out _ _ trivial (fun hHeld => ?_)
       clear hK K
       refine wpAnyH_ready (rs := [1, 4]) (by kernel_rfl) (by simp) ?_
       refine AllReadyH.cons (o := { dst := some 33, op := _, type := _, pos := _, after := _, guard := _ }) rfl (fun K hK => ?_) (AllReadyH.cons (o := { dst := some 36, op := _, type := _, pos := _, after := _, guard := _ }) rfl (fun K hK => ?_) AllReadyH.nil)
       ·go_simp
        refine hK.out _ _ trivial (fun hHeld => ?_)
        clear hK K
        refine ra 4 (some 36) rfl fun K hK => ?_
        go_simp
        refine hK.out _ _ trivial (fun hHeld => ?_)
        clear hK K
        refine ra 5 (some 37) rfl fun K hK => ?_
        refine cC rfl (.tmp 33) (.tmp 36) 24 51 rfl iF (.agg #[.string ByteArray.empty, .int .i64 0, .slice none 0 0, .int .i64 0, .slice none 0 0]) 5 80 Tryz.underlying24 hiF hzF0 hzF1 hzF2 rfl (by decide) wl.heap.size (.slice ao0 src.funcs.length cap0) src.funcs.length _ (World.ownsRow.alloc HOW.out _) HML.out HBY.out (by have := HSZ.out; simp; omega) ⟨w4.heap.size, 0, none⟩ _ rfl HCN.out HH1.out (by simp [Act.eval]) (by simp [Act.eval]) ?_
        intro ao' cap' w5 hown5 hgrow5 hnew
        have HNW : Hid ((Value.slice ao' (src.funcs.length + 1) cap').ownBlock = (Value.slice ao0 src.funcs.length cap0).ownBlock \/ (Value.slice ao' (src.funcs.length + 1) cap').ownBlock = some (w4.heap.size + 1)) := zz (by simpa using hnew)
        clear hnew
        have hk5 : Keeps (fun b => (Value.slice ao0 src.funcs.length cap0).ownBlock = some b) w4 w5 := ((Keeps.refl (fun b => (Value.slice ao0 src.funcs.length cap0).ownBlock = some b) w4).alloc _).trans' (Keeps.of_grownBy hgrow5 (fun k _ e => e)) (fun _ _ e => e)
        have hnb : ¬ (Value.slice ao0 src.funcs.length cap0).ownBlock = some (w.heap.size + 1) := fun e => by have := (aX HOW.out _ e).1; have := HSZL.out; omega
        have y6 : w5.cell? ⟨w.heap.size + 1, 1, none⟩ = some (.slice ao0 src.funcs.length cap0) := hk5.cell_of y4 hnb
        have y7 : w5.frozen? ⟨w.heap.size + 1, 1, none⟩ = false := by rw [hk5.frozen (p := ⟨w.heap.size + 1, 1, none⟩) q4 hnb]; exact y5
        have HO5 := zz hown5
        have HG5 := zz hgrow5
        clear hown5 hgrow5 hk5 hnb
        refine hK.out _ _ trivial (fun hHeld => ?_)
        clear hK K
        try simp only [Act.put, sA, sB, sC]
        refine tk 6 38 (.pointer (some ⟨w.heap.size + 1, 1, none⟩)) rfl (.inl ⟨by rfl, ?_⟩) hHeld ?_
        ·intro W9 hSW; (try dsimp only at hSW); go_simp
        try simp only [Act.put, sA, sB, sC]
        refine ra 7 none rfl fun K hK => ?_
        go_simp
        refine hK.out _ _ trivial (fun hHeld => ?_)
        clear hK K
        refine wpAnyH_done (by kernel_rfl) ?_ _
        have hj5 := HJ2.out.nextF (G2 := fun _ => True) (g := g) HBLK.out HGO.out HFO.out HRF.out H5.out H6.out H7.out HK4.out HR4.out HFC.out HG5.out HO5.out HNW.out (fun _ _ => trivial)
        have HJ5 := zz hj5
        have HTK := zz (aT 5 (by decide) _ hj5.rd)
        clear hj5 y4 y5 y6 y7 c0 c0d q4
        go_wp2_with fail
        cases ht : aC E 5 m1 with
        | out => exact absurd ht (bP E _ _)
        | bad k a =>
         rw [ht] at HTK
         refine HTK.out.mono ?_
         rintro e w7 hth
         have hth2 := Threw.own hth HLT.out HJ5.out.kp
         obtain ⟨b, rfl⟩ := aB hth
         exact ⟨rfl, .bad k a, HEV.out _ (Ev.pure (fun e => by cases e) fun _ => by rw [ht]; rfl), hth2⟩
        | ok t m2 =>
         rw [ht] at HTK
         refine HTK.out.mono ?_
         rintro e w7 ⟨v7, rfl, _, hr7, hk7⟩
         have hm2 := aQ ht
         have hj7 := HJ5.out.on (G2 := (fun r => Ev (fun f => Tr.program E f ⟨[], []⟩ n) r)) hk7 hr7 (fun r hr => HEV.out r (by rw [ht]; exact hr))
         have HJ7 := zz hj7
         have HM2 := zz hm2
         clear hj7 hr7 hk7 ht hm2
         go_wp2_with fail
         refine ⟨⟨m2, _, HJ7.out⟩, ?_⟩
         have h1 := HJ7.out.rd
         have h2 := HJ.out.rd
         rw [h1.pos, h2.pos]
         have := h1.hn
         have := HMM.out
         have := HM2.out
         omega
       ·go_simp
        refine hK.out _ _ trivial (fun hHeld => ?_)
        clear hK K
        refine ra 1 (some 33) rfl fun K hK => ?_
        go_simp
        refine hK.out _ _ trivial (fun hHeld => ?_)
        clear hK K
        refine ra 5 (some 37) rfl fun K hK => ?_
        refine cC rfl (.tmp 33) (.tmp 36) 24 51 rfl iF (.agg #[.string ByteArray.empty, .int .i64 0, .slice none 0 0, .int .i64 0, .slice none 0 0]) 5 80 Tryz.underlying24 hiF hzF0 hzF1 hzF2 rfl (by decide) wl.heap.size (.slice ao0 src.funcs.length cap0) src.funcs.length _ (World.ownsRow.alloc HOW.out _) HML.out HBY.out (by have := HSZ.out; simp; omega) ⟨w4.heap.size, 0, none⟩ _ rfl HCN.out HH1.out (by simp [Act.eval]) (by simp [Act.eval]) ?_
        intro ao' cap' w5 hown5 hgrow5 hnew
        have HNW : Hid ((Value.slice ao' (src.funcs.length + 1) cap').ownBlock = (Value.slice ao0 src.funcs.length cap0).ownBlock \/ (Value.slice ao' (src.funcs.length + 1) cap').ownBlock = some (w4.heap.size + 1)) := zz (by simpa using hnew)
        clear hnew
        have hk5 : Keeps (fun b => (Value.slice ao0 src.funcs.length cap0).ownBlock = some b) w4 w5 := ((Keeps.refl (fun b => (Value.slice ao0 src.funcs.length cap0).ownBlock = some b) w4).alloc _).trans' (Keeps.of_grownBy hgrow5 (fun k _ e => e)) (fun _ _ e => e)
        have hnb : ¬ (Value.slice ao0 src.funcs.length cap0).ownBlock = some (w.heap.size + 1) := fun e => by have := (aX HOW.out _ e).1; have := HSZL.out; omega
        have y6 : w5.cell? ⟨w.heap.size + 1, 1, none⟩ = some (.slice ao0 src.funcs.length cap0) := hk5.cell_of y4 hnb
        have y7 : w5.frozen? ⟨w.heap.size + 1, 1, none⟩ = false := by rw [hk5.frozen (p := ⟨w.heap.size + 1, 1, none⟩) q4 hnb]; exact y5
        have HO5 := zz hown5
        have HG5 := zz hgrow5
        clear hown5 hgrow5 hk5 hnb
        refine hK.out _ _ trivial (fun hHeld => ?_)
        clear hK K
        try simp only [Act.put, sA, sB, sC]
        refine tk 6 38 (.pointer (some ⟨w.heap.size + 1, 1, none⟩)) rfl (.inl ⟨by rfl, ?_⟩) hHeld ?_
        ·intro W9 hSW; (try dsimp only at hSW); go_simp
        try simp only [Act.put, sA, sB, sC]
        refine ra 7 none rfl fun K hK => ?_
        go_simp
        refine hK.out _ _ trivial (fun hHeld => ?_)
        clear hK K
        refine wpAnyH_done (by kernel_rfl) ?_ _
        have hj5 := HJ2.out.nextF (G2 := fun _ => True) (g := g) HBLK.out HGO.out HFO.out HRF.out H5.out H6.out H7.out HK4.out HR4.out HFC.out HG5.out HO5.out HNW.out (fun _ _ => trivial)
        have HJ5 := zz hj5
        have HTK := zz (aT 5 (by decide) _ hj5.rd)
        clear hj5 y4 y5 y6 y7 c0 c0d q4
        go_wp2_with fail
        cases ht : aC E 5 m1 with
        | out => exact absurd ht (bP E _ _)
        | bad k a =>
         rw [ht] at HTK
         refine HTK.out.mono ?_
         rintro e w7 hth
         have hth2 := Threw.own hth HLT.out HJ5.out.kp
         obtain ⟨b, rfl⟩ := aB hth
         exact ⟨rfl, .bad k a, HEV.out _ (Ev.pure (fun e => by cases e) fun _ => by rw [ht]; rfl), hth2⟩
        | ok t m2 =>
         rw [ht] at HTK
         refine HTK.out.mono ?_
         rintro e w7 ⟨v7, rfl, _, hr7, hk7⟩
         have hm2 := aQ ht
         have hj7 := HJ5.out.on (G2 := (fun r => Ev (fun f => Tr.program E f ⟨[], []⟩ n) r)) hk7 hr7 (fun r hr => HEV.out r (by rw [ht]; exact hr))
         have HJ7 := zz hj7
         have HM2 := zz hm2
         clear hj7 hr7 hk7 ht hm2
         go_wp2_with fail
         refine ⟨⟨m2, _, HJ7.out⟩, ?_⟩
         have h1 := HJ7.out.rd
         have h2 := HJ.out.rd
         rw [h1.pos, h2.pos]
         have := h1.hn
         have := HMM.out
         have := HM2.out
         omega
    ·rw [decide_eq_false hf] at HI2
     have HF := zz hf
     clear hf
     refine HI2.out.mono ?_
     rintro e w2 ⟨rfl, hb2⟩
     have hj2 := HJ3.out.on (G2 := (fun r => Ev (fun f => Tr.program E f ⟨[], []⟩ n) r)) (Keeps.of_new hb2) (HJ3.out.rd.fresh hb2) HJ.out.ev
     have HJ2 := zz hj2
     have HFA := zz (cV 3 w2 hj2.rd)
     clear hb2 hj2
     go_wp2_with fail
     refine HFA.out.mono ?_
     rintro e w4 hth
     have hth2 := hth.own HLT.out HJ2.out.kp
     obtain ⟨b, rfl⟩ := aB hth
     refine ⟨rfl, .bad 3 (pk E m).at_, HJ.out.ev _ (Ev.now (fun e => by cases e) fun f => ?_), hth2⟩
     rw [gB, if_neg HN.out, if_neg HV.out, if_neg HF.out]; rfl
theorem xD (p : Addr) (w : World) : (Instr.typeAssert (.iface 145 (.pointer (some p))) 20 145 true).run Tryz.prog w = .ok (.tuple #[.pointer (some p), .bool true]) w := by kernel_rfl
theorem xE (p : Addr) (w : World) : (binOp BinOp.neq 20 (.iface 145 (.pointer (some p))) .nilIface).run Tryz.prog w = .ok (.bool true) w := by kernel_rfl
theorem xF (w : World) : (binOp BinOp.neq 20 .nilIface .nilIface).run Tryz.prog w = .ok (.bool false) w := by kernel_rfl
theorem C7 (b : Nat) (w : World) : Calls Tryz.prog 66 #[.iface 145 (.pointer (some ⟨b, 0, none⟩))] w fun e w' => e = .returned (.iface 145 (.pointer (some ⟨b, 0, none⟩))) /\ w = w' := by
 have hta := xD ⟨b, 0, none⟩
 go_enter Tryz.func66, Tryz.ntmps66
 go_wp2_with fail
 go_ret
 exact ⟨rfl, rfl⟩
theorem C8 (p q : Addr) (w : World) :
  CallsD Tryz.prog 65 #[.pointer (some p), .pointer (some q)] .returning w fun e u' w' => e = .returned (.tuple #[]) /\ u' = .returning /\ w' = w := by
 refine callsD_of_wpS Tryz.func65 rfl fun c₀ cs hu => ?_
 apply wpS_seq
 apply wpS_region
 simp [wpOpsS, go_sem, recoverD, hu, Tryz.ntmps65, Exit.thenS]
 refine wpS_of_wp ?_
 change Code.wp _ _ _ { tmps := #[.pointer (some p), .pointer (some q), .nilIface, .nilIface, undef, undef, undef, undef, undef], defers := [] } _
 have hnn := xF
 go_wp2_with fail
 clear hnn
 cases c₀
 simp_all [bodyPostS, results, Tryz.results65]
theorem zG (p q b : Nat) (g0 g1 q0 : Value) (older : List PanicEntry) (w : World) (c0 : w.cell? ⟨p, 0, none⟩ = some g0) (c1 : w.cell? ⟨p, 1, none⟩ = some g1) (d0 : w.cell? ⟨q, 0, none⟩ = some q0) (z0 : w.frozen? ⟨p, 0, none⟩ = false) (z1 : w.frozen? ⟨p, 1, none⟩ = false) (y0 : w.frozen? ⟨q, 0, none⟩ = false) (hpq : p ≠ q) :
  CallsD Tryz.prog 65 #[.pointer (some ⟨p, 0, none⟩), .pointer (some ⟨q, 0, none⟩)] (.panicking ({ v := .iface 145 (.pointer (some ⟨b, 0, none⟩)), recovered := false } :: older)) w fun e u' w' =>
   e = .returned (.tuple #[]) /\ u' = .panicking ({ v := .iface 145 (.pointer (some ⟨b, 0, none⟩)), recovered := true } :: older) /\ w' = ((w.setCell ⟨p, 0, none⟩ (.slice none 0 0)).setCell ⟨p, 1, none⟩ (.slice none 0 0)).setCell ⟨q, 0, none⟩ (.iface 145 (.pointer (some ⟨b, 0, none⟩))) := by
 refine callsD_of_wpS Tryz.func65 rfl fun c₀ cs hu => ?_
 apply wpS_seq
 apply wpS_region
 simp [wpOpsS, go_sem, recoverD, hu, Tryz.ntmps65, Exit.thenS]
 refine wpS_of_wp ?_
 change Code.wp _ _ _ { tmps := #[.pointer (some ⟨p, 0, none⟩), .pointer (some ⟨q, 0, none⟩), .iface 145 (.pointer (some ⟨b, 0, none⟩)), .iface 145 (.pointer (some ⟨b, 0, none⟩)), undef, undef, undef, undef, undef], defers := [] } _
 have hnn := xE ⟨b, 0, none⟩
 have HCA := zz (C7 b w)
 go_wp2_with (go_at_call 66; refine HCA.out.mono ?_; rintro e w1 ⟨rfl, rfl⟩)
 simp [bodyPostS, results, Tryz.results65]
end Go.Proofs.YtnpapppipccdbaaGreatDoor
namespace Go.Proofs.YtnpapppipccdbaaGreatDoor
namespace Lx
end Lx
end Go.Proofs.YtnpapppipccdbaaGreatDoor
namespace Go.Proofs.YtnpapppipccdbaaGreatDoor
open Go.RowKit Lx Tr
variable {w w' : World} {rb n d dd : Nat} {tv : Value} {E : Env}
theorem xG (d : B) (h : ∀ b ∈ d, cE b = true) (hne : d ≠ []) (hb : mM d = false) : Lib.atoiAll d = .ok ((dP d : Nat) : Int) := by
 cases d with
 | nil => exact absurd rfl hne
 | cons c r =>
  have hc := h c (List.mem_cons_self ..)
  have hd : 48 <= c.toNat /\ c.toNat <= 57 := by simp [cE] at hc; exact hc
  have hn : dP (c :: r) <= 9223372036854775807 := by
   unfold mM at hb
   have := of_decide_eq_false hb
   omega
  have e : Lib.parseMag (c :: r) = .ok (dP (c :: r)) := by
   rw [<- Lib.parseUintB_64]
   have h2 := lN (c :: r) h 0 (by omega)
   unfold Lib.parseUintB
   rw [if_neg (by simp)]
   refine h2.trans ?_
   show (if dP (c :: r) <= 18446744073709551615 then _ else _) = _
   rw [if_pos (by omega)]
   rfl
  have h45 : ¬ c.toNat = 45 := by omega
  have h43 : ¬ (c.toNat = 43 \/ c.toNat = 45) := by omega
  unfold Lib.atoiAll
  simp only [if_neg h43]
  rw [e]
  simp only [h45, not_false_eq_true, true_and, false_and, if_false]
  rw [if_neg (by omega)]
theorem KK {l : B} {may : Bool} {n : Nat} (hl : l ≠ []) (h : dW l may = .cut (.tok 3 n)) : n = i8 l /\ mM (l.take n) = false /\ 1 <= n := by
 obtain ⟨h1, _⟩ := kJ hl h
 cases l with
 | nil => exact absurd rfl hl
 | cons b r =>
  rw [dY] at h
  split at h
  ·cases h
  split at h
  ·cases h
  split at h
  ·split at h <;> cases h
  ·have h' : pH (b :: r) = .tok 3 n := by injection h
   have h2 : (if b = 59 then Cut.tok 5 1 else if cE b then fX (b :: r) else if 0 < bQ (b :: r) then fJ (b :: r) else fY (b :: r)) = .tok 3 n := h'
   by_cases q1 : b = 59
   ·rw [if_pos q1] at h2; cases h2
   rw [if_neg q1] at h2
   by_cases q2 : cE b = true
   ·rw [if_pos q2] at h2
    unfold fX at h2
    split at h2
    ·cases h2
    split at h2
    ·cases h2
    ·rename_i hb
     cases h2
     exact ⟨rfl, by simpa using hb, h1⟩
   rw [if_neg q2] at h2
   by_cases q3 : 0 < bQ (b :: r)
   ·rw [if_pos q3] at h2
    unfold fJ at h2
    split at h2
    ·cases h2
    split at h2 <;> cases h2
   ·rw [if_neg q3] at h2
    unfold fY at h2
    split at h2 <;> cases h2
theorem ID : ∀ (l : B) (a : Nat) (may : Bool) (ts : List Tok), lx l a may = (ts, none) -> ts.length <= l.length + 1 /\ ∀ t ∈ ts, t.kind = 3 -> Lib.atoiAll t.text = .ok (dP t.text : Nat) /\ t.text.length <= l.length := by
 refine lA (fun l _ _ ts => ts.length <= l.length + 1 /\ ∀ t ∈ ts, t.kind = 3 -> Lib.atoiAll t.text = .ok (dP t.text : Nat) /\ t.text.length <= l.length) ?_ ?_ ?_
 ·intro a may
  unfold tP
  split
  ·refine ⟨Nat.le_refl _, fun t ht hk => ?_⟩
   simp at ht
   subst ht
   cases hk
  ·exact ⟨Nat.zero_le _, fun t ht => by cases ht⟩
 ·intro l a may n ts hl hs h1 h2 _ ih
  rw [List.length_drop] at ih
  exact ⟨by omega, fun t ht hk => ⟨(ih.2 t ht hk).1, by have := (ih.2 t ht hk).2; omega⟩⟩
 ·intro l a may k n ts hl hs h1 h2 _ ih
  rw [List.length_drop] at ih
  refine ⟨by simp only [List.length_cons]; omega, fun t ht hk => ?_⟩
  rcases List.mem_cons.1 ht with rfl | ht
  ·have hk' : k = 3 := hk
   subst hk'
   obtain ⟨e1, e2, e3⟩ := KK hl hs
   refine ⟨xG _ ?_ ?_ e2, by simp; omega⟩
   ·rw [e1, rT]; exact EF _
   ·intro e
    have e' : l.take n = [] := e
    have : (l.take n).length = 0 := by rw [e']; rfl
    rw [List.length_take] at this
    omega
  ·exact ⟨(ih.2 t ht hk).1, by have := (ih.2 t ht hk).2; omega⟩
structure TreeEnv (w : World) : Prop where
 lex : LexEnv w.heap.size w
 signs : kE w
 kinds : nV w
 b1 : 7 < w.heap.size
 b2 : 2 < w.heap.size
def sS : Value := .agg #[.slice none 0 0, .slice none 0 0]
def fG (w w' : World) (s : ByteArray) (e : Ending) : Prop :=
 if 4000 < s.size then e = .returned (.tuple #[sS, .iface 27 (.int .i64 4)])
 else match lx s.data.toList 0 false with
  | (_, some (r, a)) => ∃ x, e = .returned (.tuple #[sS, x]) /\ kL w' w.heap.size x r a
  | (ts, none) => ∃ r, Ev (fun f => Tr.program ⟨ts, s.size⟩ f ⟨[], []⟩ 0) r /\ match r with
   | .ok src _ => ∃ gv fv, e = .returned (.tuple #[.agg #[gv, fv], .nilIface]) /\ SrcO w' w.heap.size src gv fv
   | .bad k a => ∃ x, e = .returned (.tuple #[sS, x]) /\ kL w' w.heap.size x k a
   | .out => False
theorem FG (w : World) : (binOp BinOp.neq 35 .nilIface .nilIface).run Tryz.prog w = .ok (.bool false) w := by kernel_rfl
theorem JX (p : Addr) (w : World) : (binOp BinOp.neq 35 (.iface 145 (.pointer (some p))) .nilIface).run Tryz.prog w = .ok (.bool true) w := by kernel_rfl
theorem JY (k : Int) (w : World) : (binOp BinOp.neq 35 (.iface 27 (.int .i64 k)) .nilIface).run Tryz.prog w = .ok (.bool true) w := by kernel_rfl
theorem sT {tt : TypeId} {R : Value -> World -> World -> Prop} (hx : ∀ xv a b, R xv a b -> ∀ W, (binOp BinOp.neq 35 (.iface tt xv) .nilIface).run Tryz.prog W = .ok (.bool true) W) (s : ByteArray) (w : World)
  (hL : Calls Tryz.prog 62 #[.string s] ((w.alloc (.cells #[.slice none 0 0, .slice none 0 0] 26)).alloc (.cells #[.nilIface] 35)) fun e w' => ∃ xv, e = .returned (.tuple #[.slice none 0 0, .iface tt xv]) /\ R xv ((w.alloc (.cells #[.slice none 0 0, .slice none 0 0] 26)).alloc (.cells #[.nilIface] 35)) w' /\ Below (w.heap.size + 2) ((w.alloc (.cells #[.slice none 0 0, .slice none 0 0] 26)).alloc (.cells #[.nilIface] 35)) w') :
  Calls Tryz.prog 24 #[.string s] w fun e w' => ∃ xv, e = .returned (.tuple #[sS, .iface tt xv]) /\ ∃ w1, R xv ((w.alloc (.cells #[.slice none 0 0, .slice none 0 0] 26)).alloc (.cells #[.nilIface] 35)) w1 /\ Keeps (fun b => b = w.heap.size \/ b = w.heap.size + 1) w1 w' /\ Below w.heap.size w w' := by
 have HL := zz hL
 clear hL
 go_enter_defers Tryz.func24, Tryz.ntmps24
 go_wp2_with fail
 refine HL.out.mono ?_
 rintro e w1 ⟨xv, rfl, hR, hb⟩
 have hxx := hx xv _ _ hR
 clear hx
 have c0 : w1.cell? ⟨w.heap.size, 0, none⟩ = some (.slice none 0 0) := by
  rw [hb.cell (p := ⟨w.heap.size, 0, none⟩) (show w.heap.size < w.heap.size + 2 by omega)]; exact aV (bJ _ _ _ 0 _ rfl rfl)
 have c1 : w1.cell? ⟨w.heap.size, 1, none⟩ = some (.slice none 0 0) := by
  rw [hb.cell (p := ⟨w.heap.size, 1, none⟩) (show w.heap.size < w.heap.size + 2 by omega)]; exact aV (bJ _ _ _ 1 _ rfl rfl)
 have d0 : w1.cell? ⟨w.heap.size + 1, 0, none⟩ = some .nilIface := by
  rw [hb.cell (p := ⟨w.heap.size + 1, 0, none⟩) (show w.heap.size + 1 < w.heap.size + 2 by omega)]; exact bJ _ _ _ 0 _ rfl (by simp)
 have z0 : w1.frozen? ⟨w.heap.size, 0, none⟩ = false := by
  rw [hb.frozen (p := ⟨w.heap.size, 0, none⟩) (show w.heap.size < w.heap.size + 2 by omega)]; exact kP (by simp) (World.frozen?_alloc_new _ _ _ _)
 have z1 : w1.frozen? ⟨w.heap.size, 1, none⟩ = false := by
  rw [hb.frozen (p := ⟨w.heap.size, 1, none⟩) (show w.heap.size < w.heap.size + 2 by omega)]; exact kP (by simp) (World.frozen?_alloc_new _ _ _ _)
 have y0 : w1.frozen? ⟨w.heap.size + 1, 0, none⟩ = false := by
  rw [hb.frozen (p := ⟨w.heap.size + 1, 0, none⟩) (show w.heap.size + 1 < w.heap.size + 2 by omega)]; exact World.frozen?_alloc_at _ _ _ _ (by simp)
 have HR := zz hR
 have HB := zz hb
 clear hR hb
 go_wp2_with fail
 have hk2 : Keeps (fun b => b = w.heap.size \/ b = w.heap.size + 1) w1 (w1.setCell ⟨w.heap.size + 1, 0, none⟩ (.iface tt xv)) := (Keeps.refl (fun b => b = w.heap.size \/ b = w.heap.size + 1) w1).setCell (p := ⟨w.heap.size + 1, 0, none⟩) (Or.inl (Or.inr rfl)) _
 have e0 : (w1.setCell ⟨w.heap.size + 1, 0, none⟩ (.iface tt xv)).cell? ⟨w.heap.size + 1, 0, none⟩ = some (.iface tt xv) := World.cell?_setCell_same _ _ _ d0
 have e1 : (w1.setCell ⟨w.heap.size + 1, 0, none⟩ (.iface tt xv)).cell? ⟨w.heap.size, 0, none⟩ = some (.slice none 0 0) := by rw [World.cell?_setCell_far _ _ _ _ (show w.heap.size + 1 ≠ w.heap.size by omega)]; exact c0
 have e2 : (w1.setCell ⟨w.heap.size + 1, 0, none⟩ (.iface tt xv)).cell? ⟨w.heap.size, 1, none⟩ = some (.slice none 0 0) := by rw [World.cell?_setCell_far _ _ _ _ (show w.heap.size + 1 ≠ w.heap.size by omega)]; exact c1
 have z02 : (w1.setCell ⟨w.heap.size + 1, 0, none⟩ (.iface tt xv)).frozen? ⟨w.heap.size, 0, none⟩ = false := by rw [World.frozen?_setCell]; exact z0
 have z12 : (w1.setCell ⟨w.heap.size + 1, 0, none⟩ (.iface tt xv)).frozen? ⟨w.heap.size, 1, none⟩ = false := by rw [World.frozen?_setCell]; exact z1
 have y02 : (w1.setCell ⟨w.heap.size + 1, 0, none⟩ (.iface tt xv)).frozen? ⟨w.heap.size + 1, 0, none⟩ = false := by rw [World.frozen?_setCell]; exact y0
 have HK2 := zz hk2
 clear c0 c1 d0 hk2 z0 z1 y0
 generalize w1.setCell ⟨w.heap.size + 1, 0, none⟩ (.iface tt xv) = w2 at *
 have hn1 : (⟨w.heap.size, 0, none⟩ : Addr).block ≠ (⟨w.heap.size + 1, 0, none⟩ : Addr).block := fun e => by have : w.heap.size = w.heap.size + 1 := e; omega
 refine wp_region_noPanic ?_
 refine wp_region_held_drew (S := fun W' => W'.cell? ⟨w.heap.size + 1, 0, none⟩ = some (.iface tt xv)) (by kernel_rfl) (by simp only [World.cell?_drew]; assumption) (fun hHeld => ?_)
 refine tk 0 13 (.agg #[.slice none 0 0, .slice none 0 0]) rfl (.inl ⟨by rfl, ?_⟩) hHeld ?_
 ·intro W9 hSW; (try dsimp only at hSW); go_simp
 try simp only [Act.put, sA, sB, sC]
 refine tk 1 14 (.iface tt xv) rfl (.inl ⟨by rfl, ?_⟩) hHeld ?_
 ·intro W9 hSW; (try dsimp only at hSW); go_simp
 try simp only [Act.put, sA, sB, sC]
 refine ra 2 none rfl fun K hK => ?_
 go_simp
 refine hK.out _ _ ?_ (fun hHeld => ?_)
 ·simp only [World.cell?_drew]
  exact (l8 (w := w2) (sb := w.heap.size) (i := 0) (j := 1) (a := .slice none 0 0) (b := .slice none 0 0)).cell_of e0 (fun e => hn1 e.symm)
 clear hK K
 refine ra 3 none rfl fun K hK => ?_
 go_simp
 have hks : Keeps (fun b => b = w.heap.size \/ b = w.heap.size + 1) w2 (((w2.setCell ⟨w.heap.size, 0, none⟩ (.slice none 0 0)).setCell ⟨w.heap.size, 1, none⟩ (.slice none 0 0)).setCell ⟨w.heap.size + 1, 0, none⟩ (.iface tt xv)).drew :=
  (((Keeps.refl (fun b => b = w.heap.size \/ b = w.heap.size + 1) w2).setCell (S := fun b => b = w.heap.size \/ b = w.heap.size + 1) (p := ⟨w.heap.size, 0, none⟩) (Or.inl (Or.inl rfl)) _).setCell (S := fun b => b = w.heap.size \/ b = w.heap.size + 1) (p := ⟨w.heap.size, 1, none⟩) (Or.inl (Or.inl rfl)) _).setCell (S := fun b => b = w.heap.size \/ b = w.heap.size + 1) (p := ⟨w.heap.size + 1, 0, none⟩) (Or.inl (Or.inr rfl)) _ |>.drew
 have e3 : (((w2.setCell ⟨w.heap.size, 0, none⟩ (.slice none 0 0)).setCell ⟨w.heap.size, 1, none⟩ (.slice none 0 0)).setCell ⟨w.heap.size + 1, 0, none⟩ (.iface tt xv)).cell? ⟨w.heap.size + 1, 0, none⟩ = some (.iface tt xv) := World.cell?_setCell_same _ _ _ ((l8 (w := w2) (sb := w.heap.size) (i := 0) (j := 1) (a := .slice none 0 0) (b := .slice none 0 0)).cell_of e0 (fun e => hn1 e.symm))
 have HKS := zz hks
 refine hK.out _ _ (by simp only [World.cell?_drew]; exact e3) (fun hHeld => ?_)
 clear hK K
 refine wpAnyH_done (by kernel_rfl) ?_ _
 refine NoPanic.normal ?_
 have hsz := HK2.out.size
 have hbz := HB.out.size
 go_wp2_with fail
 have hb0 : Below w.heap.size w w1 := (((Keeps.refl (fun _ => False) w).alloc _).alloc _ |>.below (Nat.le_refl _) (fun _ _ e => e.elim)).trans (HB.out.mono (by omega))
 have hk02 := HK2.out.trans HKS.out
 refine ⟨.tuple #[.agg #[.slice none 0 0, .slice none 0 0], .iface tt xv], by simp [results, Tryz.results24, go_sem, e0, e1, e2], xv, rfl, w1, HR.out, hk02, hb0.trans (hk02.below hb0.size (fun k _ e => by omega))⟩
theorem FH {ts : List Tok} (s : ByteArray) (w : World) (hs : s.size <= 4000) (hts : lx s.data.toList 0 false = (ts, none)) (hE : TreeEnv w) :
  Calls Tryz.prog 24 #[.string s] w fun e w' => (∃ r, Ev (fun f => Tr.program ⟨ts, s.size⟩ f ⟨[], []⟩ 0) r /\ match r with
   | .ok src _ => ∃ gv fv, e = .returned (.tuple #[.agg #[gv, fv], .nilIface]) /\ SrcO w' w.heap.size src gv fv
   | .bad k a => ∃ x, e = .returned (.tuple #[sS, x]) /\ kL w' w.heap.size x k a
   | .out => False) /\ Below w.heap.size w w' := by
 obtain ⟨W0, hW0⟩ : ∃ W0, W0 = (w.alloc (.cells #[.slice none 0 0, .slice none 0 0] 26)).alloc (.cells #[.nilIface] 35) := ⟨_, rfl⟩
 have hsz0 : W0.heap.size = w.heap.size + 2 := by rw [hW0]; simp
 have hb0 : Below w.heap.size w W0 := by rw [hW0]; exact ((Keeps.refl (fun _ => False) w).alloc _).alloc _ |>.below (Nat.le_refl _) (fun _ _ e => e.elim)
 have hB0 : Blk W0 w.heap.size [.slice none 0 0, .slice none 0 0] := by rw [hW0]; exact (Blk.new' w [.slice none 0 0, .slice none 0 0] _ rfl).keeps (S := fun _ => False) ((Keeps.refl _ _).alloc _) id
 have hE0 : Blk W0 (w.heap.size + 1) [.nilIface] := by rw [hW0]; exact Blk.new' _ [.nilIface] _ (by simp)
 have hl := hE.lex.below hb0 (Nat.le_refl _)
 have hLx : LexEnv W0.heap.size W0 := ⟨hl.tabs, hl.errR, hl.sgs, by have := hl.b1; omega, by have := hl.b2; omega, by have := hl.b3; omega, by have := hl.b4; omega⟩
 have hL : Calls Tryz.prog 62 #[.string s] W0 fun e w' => (∃ v, e = .returned (.tuple #[v, .nilIface]) /\ w'.ownsRow (W0.heap.size + 1) 110 3 v ts.length (dG ts)) /\ Below W0.heap.size W0 w' := (AG s W0 hLx).mono fun e w' ⟨h, hb⟩ => by
  unfold jP at h
  rw [if_neg (by omega), hts] at h
  exact ⟨h, hb⟩
 obtain ⟨hlen, hnums⟩ := ID _ _ _ _ hts
 have hsl : s.data.toList.length = s.size := by simp
 rw [hsl] at hlen hnums
 have HL := zz hL
 have HE := zz hE
 have HNUM : Hid (∀ t ∈ ts, t.kind = 3 -> Lib.atoiAll t.text = .ok (dP t.text : Nat) /\ t.text.length <= 4000) := zz fun t ht hk => ⟨(hnums t ht hk).1, by have := (hnums t ht hk).2; omega⟩
 have HLEN : Hid (ts.length <= 10000) := zz (by omega)
 have HB0 := zz hb0
 have HBLK := zz hB0
 have HEB := zz hE0
 have HSZ := zz hsz0
 have hmf : ∀ (fn : Fn) (first cap : Array Value) (w : World), (Instr.makeFunc fn first cap).run Tryz.prog w = .ok (.func fn first cap) w := fun _ _ _ _ => rfl
 have hen := FG
 have hss : s.size <= 4000 := hs
 clear hE hb0 hB0 hE0 hl hLx hL hlen hnums hsl hts hsz0 hs
 go_enter_defers Tryz.func24, Tryz.ntmps24
 go_wp2_with fail
 rw [<- hW0]
 clear hW0
 refine HL.out.mono ?_
 rintro e w1 ⟨⟨v, rfl, hown⟩, hb1⟩
 have hrow := EH hown
 have hform : ∃ a c, v = .slice a ts.length c := by
  rcases hrow with ⟨e1, e2⟩ | ⟨g, cap, e1, _⟩
  ·exact ⟨none, 0, by rw [e1, e2]; rfl⟩
  ·exact ⟨_, _, e1⟩
 obtain ⟨va, vc, rfl⟩ := hform
 have hge : ∀ g m c, Value.slice va ts.length vc = .slice (some ⟨g, 0, none⟩) m c -> W0.heap.size < g /\ g < w1.heap.size := fun g m c e => by
  cases e
  have := aX hown g rfl
  omega
 have hblk := HBLK.out.fresh hb1
 have heb := HEB.out.fresh hb1
 have d0 := heb.at_ 0 _ rfl
 have y0 := heb.free 0
 have hk1 : Keeps (fun b => b = w.heap.size + 1) w1 (w1.setCell ⟨w.heap.size + 1, 0, none⟩ .nilIface) := lI
 have HROW := zz hrow
 have HGE := zz hge
 have HBK := zz hblk
 have HEK := zz heb
 have HB1 : Hid (Below w.heap.size w w1) := zz (HB0.out.trans (hb1.mono (by have := HSZ.out; omega)))
 have HW1 : Hid (w.heap.size + 2 <= w1.heap.size) := zz (by have := HSZ.out; have := hb1.size; omega)
 clear hown hrow hge hblk heb hb1 hk1 HL
 go_wp2_with fail
 have hkw : Keeps (fun b => b = w.heap.size + 1) w1 ((w1.setCell ⟨w.heap.size + 1, 0, none⟩ .nilIface).alloc (.cells #[.slice va ts.length vc, .int .i64 0, .int .i64 (s.size : Nat), .int .i64 0] 112)) := (lI (w := w1)).alloc _
 have hszs : (w1.setCell ⟨w.heap.size + 1, 0, none⟩ .nilIface).heap.size = w1.heap.size := by simp [World.setCell]
 have hw1 := HW1.out
 have hbw : Below w.heap.size w ((w1.setCell ⟨w.heap.size + 1, 0, none⟩ .nilIface).alloc (.cells #[.slice va ts.length vc, .int .i64 0, .int .i64 (s.size : Nat), .int .i64 0] 112)) := HB1.out.trans (hkw.below (by omega) (fun k _ e => by omega))
 have hR : RdAt ((w1.setCell ⟨w.heap.size + 1, 0, none⟩ .nilIface).alloc (.cells #[.slice va ts.length vc, .int .i64 0, .int .i64 (s.size : Nat), .int .i64 0] 112)) w1.heap.size (.slice va ts.length vc) ⟨ts, s.size⟩ 0 0 :=
  ⟨bJ _ _ _ 0 _ rfl hszs.symm, bJ _ _ _ 1 _ rfl hszs.symm, bJ _ _ _ 2 _ rfl hszs.symm, bJ _ _ _ 3 _ rfl hszs.symm, World.frozen?_alloc_at _ _ _ _ hszs.symm, World.frozen?_alloc_at _ _ _ _ hszs.symm, HROW.out.keeps hkw (fun g m cap e e2 => by have := (HGE.out g m cap e).1; have := HSZ.out; have : g = w.heap.size + 1 := e2; omega), fun g m cap e => (HGE.out g m cap e).2, Nat.zero_le _, HLEN.out, Nat.zero_le _⟩
 have hb1 := HE.out.b1
 have hb2 := HE.out.b2
 have hT : TEnv w1.heap.size ⟨ts, s.size⟩ ((w1.setCell ⟨w.heap.size + 1, 0, none⟩ .nilIface).alloc (.cells #[.slice va ts.length vc, .int .i64 0, .int .i64 (s.size : Nat), .int .i64 0] 112)) :=
  ⟨fun k hk => by rw [hbw.cell (p := ⟨7, k, none⟩) hb1]; exact HE.out.signs k hk, fun k hk => by rw [hbw.cell (p := ⟨2, k, none⟩) hb2]; exact HE.out.kinds k hk, by omega, by omega, HNUM.out⟩
 have HPR := zz (xC _ hR hT)
 have HKW := zz hkw
 have HBW := zz hbw
 have HSS := zz hszs
 clear hkw hszs hw1 hbw hR hb1 hb2 hT d0 y0
 refine HPR.out.mono ?_
 rintro e w3 ⟨r, hev, hsay⟩
 have HEV := zz hev
 clear hev
 have hw1 := HW1.out
 have hsz2 : w1.heap.size + 1 = ((w1.setCell ⟨w.heap.size + 1, 0, none⟩ .nilIface).alloc (.cells #[.slice va ts.length vc, .int .i64 0, .int .i64 (s.size : Nat), .int .i64 0] 112)).heap.size := by simp [World.setCell]
 have hbk2 := HBK.out.keeps HKW.out (fun e => by have : w.heap.size = w.heap.size + 1 := e; omega)
 have hek2 : Blk ((w1.setCell ⟨w.heap.size + 1, 0, none⟩ .nilIface).alloc (.cells #[.slice va ts.length vc, .int .i64 0, .int .i64 (s.size : Nat), .int .i64 0] 112)) (w.heap.size + 1) [.nilIface] := (HEK.out.set 0 .nilIface (by simp)).keeps (S := fun _ => False) ((Keeps.refl _ _).alloc _) id
 cases r with
 | out => exact hsay.elim
 | bad k a =>
  obtain ⟨b, rfl, hbb, hc0, hc1, hblw⟩ := hsay
  have hbk3 : Blk w3 w.heap.size [.slice none 0 0, .slice none 0 0] := ⟨fun j v hv => by rw [hblw.cell (p := ⟨w.heap.size, j, none⟩) (show w.heap.size < w1.heap.size by omega)]; exact hbk2.at_ j v hv, fun j => by rw [hblw.frozen (p := ⟨w.heap.size, j, none⟩) (show w.heap.size < w1.heap.size by omega)]; exact hbk2.free j, Nat.lt_of_lt_of_le hbk2.lt hblw.size⟩
  have hek3 : Blk w3 (w.heap.size + 1) [.nilIface] := ⟨fun j v hv => by rw [hblw.cell (p := ⟨w.heap.size + 1, j, none⟩) (show w.heap.size + 1 < w1.heap.size by omega)]; exact hek2.at_ j v hv, fun j => by rw [hblw.frozen (p := ⟨w.heap.size + 1, j, none⟩) (show w.heap.size + 1 < w1.heap.size by omega)]; exact hek2.free j, Nat.lt_of_lt_of_le hek2.lt hblw.size⟩
  have hbw3 := HBW.out.trans (hblw.mono (show w.heap.size <= w1.heap.size by omega))
  have hks : Keeps (fun b => b = w.heap.size \/ b = w.heap.size + 1) w3 (((w3.setCell ⟨w.heap.size, 0, none⟩ (.slice none 0 0)).setCell ⟨w.heap.size, 1, none⟩ (.slice none 0 0)).setCell ⟨w.heap.size + 1, 0, none⟩ (.iface 145 (.pointer (some ⟨b, 0, none⟩)))) :=
   (((Keeps.refl (fun b => b = w.heap.size \/ b = w.heap.size + 1) w3).setCell (S := fun b => b = w.heap.size \/ b = w.heap.size + 1) (p := ⟨w.heap.size, 0, none⟩) (Or.inl (Or.inl rfl)) _).setCell (S := fun b => b = w.heap.size \/ b = w.heap.size + 1) (p := ⟨w.heap.size, 1, none⟩) (Or.inl (Or.inl rfl)) _).setCell (S := fun b => b = w.heap.size \/ b = w.heap.size + 1) (p := ⟨w.heap.size + 1, 0, none⟩) (Or.inl (Or.inr rfl)) _
  have c0 := hbk3.at_ 0 _ rfl
  have c1 := hbk3.at_ 1 _ rfl
  have d0 := hek3.at_ 0 _ rfl
  refine leaves_cons (f := 65) (args := #[.pointer (some ⟨w.heap.size, 0, none⟩), .pointer (some ⟨w.heap.size + 1, 0, none⟩)]) (by simp) (by simp [go_sem]) ?_
  refine (zG w.heap.size (w.heap.size + 1) b _ _ _ [] w3 c0 c1 d0 (hbk3.free 0) (hbk3.free 1) (hek3.free 0) (by omega)).mono ?_
  rintro e u' w'' ⟨rfl, rfl, rfl⟩
  have hlt3 := hek3.lt
  refine ⟨.tuple #[.agg #[.slice none 0 0, .slice none 0 0], .iface 145 (.pointer (some ⟨b, 0, none⟩))], by simp [results, Tryz.results24, go_sem, c0, c1, d0], ⟨.bad k a, HEV.out, _, rfl, b, rfl, by omega, hks.cell_of hc0 (fun e => by have : b = w.heap.size \/ b = w.heap.size + 1 := e; omega), hks.cell_of hc1 (fun e => by have : b = w.heap.size \/ b = w.heap.size + 1 := e; omega)⟩, hbw3.trans (hks.below (B := w.heap.size) (by omega) (fun k _ e => by omega))⟩
 | ok src m =>
  obtain ⟨v3, rfl, ⟨gv, fv, rfl, hsf⟩, hr3, hk3⟩ := hsay
  obtain ⟨⟨ga, gl, gc, rfl⟩, fa, fl, fc, rfl⟩ := hsf.form
  have hbk3 := hbk2.keeps hk3 (fun e => by have : w.heap.size = w1.heap.size := e; omega)
  have hek3 := hek2.keeps hk3 (fun e => by have : w.heap.size + 1 = w1.heap.size := e; omega)
  have c0 := hbk3.at_ 0 _ rfl
  have c1 := hbk3.at_ 1 _ rfl
  have z0 := hbk3.free 0
  have z1 := hbk3.free 1
  have d0 := hek3.at_ 0 _ rfl
  have y0 := hek3.free 0
  have HSF := zz hsf
  have HK3 := zz hk3
  clear hbk2 hek2 hbk3 hek3 hsf hr3 hk3
  go_wp2_with fail
  have hks : Keeps (fun b => b = w.heap.size \/ b = w.heap.size + 1) w3 (((w3.setCell ⟨w.heap.size, 0, none⟩ (.slice ga gl gc)).setCell ⟨w.heap.size, 1, none⟩ (.slice fa fl fc)).setCell ⟨w.heap.size + 1, 0, none⟩ .nilIface) :=
   (((Keeps.refl (fun b => b = w.heap.size \/ b = w.heap.size + 1) w3).setCell (S := fun b => b = w.heap.size \/ b = w.heap.size + 1) (p := ⟨w.heap.size, 0, none⟩) (Or.inl (Or.inl rfl)) _).setCell (S := fun b => b = w.heap.size \/ b = w.heap.size + 1) (p := ⟨w.heap.size, 1, none⟩) (Or.inl (Or.inl rfl)) _).setCell (S := fun b => b = w.heap.size \/ b = w.heap.size + 1) (p := ⟨w.heap.size + 1, 0, none⟩) (Or.inl (Or.inr rfl)) _
  refine leaves_cons (f := 65) (args := #[.pointer (some ⟨w.heap.size, 0, none⟩), .pointer (some ⟨w.heap.size + 1, 0, none⟩)]) (by simp) (by simp [go_sem]) ?_
  refine (C8 ⟨w.heap.size, 0, none⟩ ⟨w.heap.size + 1, 0, none⟩ _).mono ?_
  rintro e u' w'' ⟨rfl, rfl, rfl⟩
  have hsz3 := HK3.out.size
  have hbf := (HBW.out.trans (HK3.out.below (by omega) (fun k _ e => by have : k = w1.heap.size := e; omega))).trans (hks.below (B := w.heap.size) (by omega) (fun k _ e => by omega))
  refine ⟨.tuple #[.agg #[.slice ga gl gc, .slice fa fl fc], .nilIface], by simp [results, Tryz.results24, go_sem, c0, c1, d0], ⟨.ok src m, HEV.out, _, _, rfl, ?_⟩, hbf⟩
  exact SrcO.mono (by omega) (HSF.out.keeps hks (fun b e e2 => by omega))
theorem lQ (s : ByteArray) (w : World) (hE : TreeEnv w) : Calls Tryz.prog 24 #[.string s] w fun e w' => fG w w' s e /\ Below w.heap.size w w' := by
 have hb0 : Below w.heap.size w ((w.alloc (.cells #[.slice none 0 0, .slice none 0 0] 26)).alloc (.cells #[.nilIface] 35)) := ((Keeps.refl (fun _ => False) w).alloc _).alloc _ |>.below (Nat.le_refl _) (fun _ _ e => e.elim)
 have hsz0 : ((w.alloc (.cells #[.slice none 0 0, .slice none 0 0] 26)).alloc (.cells #[.nilIface] 35)).heap.size = w.heap.size + 2 := by simp
 have hl := hE.lex.below hb0 (Nat.le_refl _)
 have hLx : LexEnv ((w.alloc (.cells #[.slice none 0 0, .slice none 0 0] 26)).alloc (.cells #[.nilIface] 35)).heap.size ((w.alloc (.cells #[.slice none 0 0, .slice none 0 0] 26)).alloc (.cells #[.nilIface] 35)) := ⟨hl.tabs, hl.errR, hl.sgs, by have := hl.b1; omega, by have := hl.b2; omega, by have := hl.b3; omega, by have := hl.b4; omega⟩
 have hL := AG s _ hLx
 by_cases hs : 4000 < s.size
 ·refine (sT (tt := 27) (R := fun xv _ _ => xv = .int .i64 4) (fun xv _ _ h W => by rw [h]; exact JY 4 W) s w (hL.mono fun e w' ⟨h, hb⟩ => ?_)).mono ?_
  ·unfold jP at h
   rw [if_pos hs] at h
   exact ⟨_, h, rfl, by rw [hsz0] at hb; exact hb⟩
  ·rintro e w' ⟨xv, rfl, w1, rfl, _, hb⟩
   refine ⟨?_, hb⟩
   unfold fG
   rw [if_pos hs]
 ·cases hq : lx s.data.toList 0 false with
  | mk ts o =>
   cases o with
   | none =>
    refine (FH s w (by omega) hq hE).mono ?_
    rintro e w' ⟨h, hb⟩
    refine ⟨?_, hb⟩
    unfold fG
    rw [if_neg hs, hq]
    exact h
   | some ra =>
    obtain ⟨r, a⟩ := ra
    refine (sT (tt := 145) (R := fun xv W w' => ∃ b, xv = .pointer (some ⟨b, 0, none⟩) /\ W.heap.size < b /\ w'.cell? ⟨b, 0, none⟩ = some (.int .i64 r) /\ w'.cell? ⟨b, 1, none⟩ = some (.int .i64 a)) (fun xv _ _ ⟨b, h, _⟩ W => by rw [h]; exact JX _ W) s w (hL.mono fun e w' ⟨h, hb⟩ => ?_)).mono ?_
    ·unfold jP at h
     rw [if_neg hs, hq] at h
     obtain ⟨x, h1, b, rfl, h2, h3, h4⟩ := h
     exact ⟨_, h1, ⟨b, rfl, h2, h3, h4⟩, by rw [hsz0] at hb; exact hb⟩
    ·rintro e w' ⟨xv, rfl, w1, ⟨b, rfl, h2, h3, h4⟩, hk, hb⟩
     refine ⟨?_, hb⟩
     unfold fG
     rw [if_neg hs, hq]
     rw [hsz0] at h2
     exact ⟨_, rfl, b, rfl, by omega, hk.cell_of h3 (fun e => by have : b = w.heap.size \/ b = w.heap.size + 1 := e; omega), hk.cell_of h4 (fun e => by have : b = w.heap.size \/ b = w.heap.size + 1 := e; omega)⟩
end Go.Proofs.YtnpapppipccdbaaGreatDoor
