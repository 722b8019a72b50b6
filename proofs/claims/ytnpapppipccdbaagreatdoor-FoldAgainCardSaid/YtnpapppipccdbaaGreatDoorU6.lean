/-
  Texts of one proof, in build order: FoldX3 FoldX4 TreeSM TreeSN TreeSO LexM3 LexM4 TreeSP TreeSQ TreeP1 TreeP2 TreeP3 TreeP4 TreeP5
-/
import Derived.Test.YtnpapppipccdbaaGreatDoorU5
import Derived.Recover
import Derived.Lib.ParseIntBCases
import Derived.Deep.RegionHeld3
import Derived.Lib.Builder
import Derived.Deep.RegionHeld
import Derived.Lib.AppendStr
import Derived.Lib.UnsafeStr
import Derived.Lib.ItoaNum
import Derived.Lib.LaidTab
set_option maxRecDepth 100000
set_option maxHeartbeats 12800000
namespace Go.Proofs.YtnpapppipccdbaaGreatDoor
open Go.RowKit Lx Tr
variable {w w' : World}
theorem kL (g i : Nat) : (⟨g, 0, none⟩ : Addr).add i = ⟨g, 0 + i, none⟩ := by unfold Addr.add; split <;> simp_all
theorem mU (w : World) (xs : List Value) (t : TypeId) : ∀ j u, xs[j]? = some u -> (w.alloc (.cells xs.toArray t)).cell? ((⟨w.heap.size, 0, none⟩ : Addr).add j) = some u := fun j u h => by
 rw [kL, World.cell?_alloc_at _ _ _ _ rfl]; simpa using h
def mV (acc : Sts) : List St -> Sts
 | [] => acc
 | s :: l => mV (match cO s with | some y => acc.snoc y | none => acc) l
theorem oK : ∀ (l : List St) (acc : Sts) (s : St), mV acc (l ++ [s]) = match cO s with | some y => (mV acc l).snoc y | none => mV acc l
 | [], _, _ => rfl
 | _ :: l, _, s => oK l _ s
def FR : Sts -> Sts -> Sts
 | .nil, y => y
 | .cons x xs, y => .cons x (FR xs y)
theorem sP : ∀ (acc : Sts) (y : St) (z : Sts), FR (acc.snoc y) z = FR acc (.cons y z)
 | .nil, _, _ => rfl
 | .cons x xs, y, z => congrArg (Sts.cons x) (sP xs y z)
theorem wQ : ∀ acc : Sts, FR acc .nil = acc
 | .nil => rfl
 | .cons x xs => congrArg (Sts.cons x) (wQ xs)
def Tr.Sts.toL : Sts -> List St
 | .nil => []
 | .cons x xs => x :: xs.toL
theorem wR : ∀ (xs acc : Sts), mV acc xs.toL = FR acc (aE xs)
 | .nil, acc => by rw [aE, wQ]; rfl
 | .cons s ss, acc => by
  show mV _ ss.toL = _
  rw [wR ss, aE]
  cases cO s with
  | none => rfl
  | some y => exact sP acc y (aE ss)
theorem DI (xs : Sts) : mV .nil xs.toL = aE xs := wR xs .nil
def Tr.Cas.toL : Cas -> List Ca
 | .nil => []
 | .cons x xs => x :: xs.toL
theorem wS : ∀ xs : Cas, xs.toL.length = xs.len
 | .nil => rfl
 | .cons _ xs => congrArg (· + 1) (wS xs)
theorem wT : ∀ xs : Sts, xs.toL.length = xs.len
 | .nil => rfl
 | .cons _ xs => congrArg (· + 1) (wT xs)
def oL (acc : Cas) : List Ca -> Cas
 | [] => acc
 | s :: l => oL (acc.snoc (eU s)) l
theorem sQ : ∀ (l : List Ca) (acc : Cas) (s : Ca), oL acc (l ++ [s]) = (oL acc l).snoc (eU s)
 | [], _, _ => rfl
 | _ :: l, _, s => sQ l _ s
def FS : Cas -> Cas -> Cas
 | .nil, y => y
 | .cons x xs, y => .cons x (FS xs y)
theorem sR : ∀ (acc : Cas) (y : Ca) (z : Cas), FS (acc.snoc y) z = FS acc (.cons y z)
 | .nil, _, _ => rfl
 | .cons x xs, y, z => congrArg (Cas.cons x) (sR xs y z)
theorem wU : ∀ acc : Cas, FS acc .nil = acc
 | .nil => rfl
 | .cons x xs => congrArg (Cas.cons x) (wU xs)
theorem wV : ∀ (xs acc : Cas), oL acc xs.toL = FS acc (aT xs)
 | .nil, acc => by rw [aT, wU]; rfl
 | .cons s ss, acc => by
  show oL _ ss.toL = _
  rw [wV ss, aT]
  exact sR acc (eU s) (aT ss)
theorem DJ (xs : Cas) : oL .nil xs.toL = aT xs := wV xs .nil
theorem wW : ∀ (l : List St) (acc : Sts), (mV acc l).len <= acc.len + l.length
 | [], acc => Nat.le_refl _
 | s :: l, acc => by
  show (mV _ l).len <= _
  refine Nat.le_trans (wW l _) ?_
  cases cO s with
  | none => show acc.len + l.length <= acc.len + (l.length + 1); omega
  | some y => show (acc.snoc y).len + l.length <= acc.len + (l.length + 1); rw [Sts.len_snoc]; omega
theorem wX : ∀ (l : List Ca) (acc : Cas), (oL acc l).len <= acc.len + l.length
 | [], acc => Nat.le_refl _
 | s :: l, acc => by
  show (oL _ l).len <= _
  refine Nat.le_trans (wX l _) ?_
  rw [Cas.len_snoc]; show acc.len + 1 + l.length <= acc.len + (l.length + 1); omega
def qQ (s : St) : Prop := ∀ (F : Nat -> Prop) (w : World) (u : Value), (∀ b, F b -> b < w.heap.size) -> StA w F u s -> Calls Tryz.prog 123 #[u] w fun e w' => ∃ u' b y, e = .returned (.tuple #[u', .bool b]) /\ StA w' (fun b => w.heap.size <= b) u' y /\ cO s = (if b then some y else none) /\ Below w.heap.size w w'
def qR (s : Ca) : Prop := ∀ (F : Nat -> Prop) (w : World) (u : Value), (∀ b, F b -> b < w.heap.size) -> CaA w F u s -> Calls Tryz.prog 175 #[u] w fun e w' => ∃ u', e = .returned (.tuple #[u', .bool true]) /\ CaA w' (fun b => w.heap.size <= b) u' (eU s) /\ Below w.heap.size w w'
theorem DK {c a : Nat} {nm : Lx.B} {dst val : Ex} {thn els : Sts} {cs : Cas} (hX1 : eJ dst) (hX2 : eJ val) (hS1 : kK thn) (hS2 : kK els) (hC : yZ cs) : qQ (.mk c a nm dst val thn els cs) := by
 intro F w u hF h
 obtain ⟨c', a', nm', dst', val', thn', els', cs', o1, o2, a5, k5, a6, k6, a7, k7, hs, rfl, hv⟩ := h
 cases hs
 rw [wP]
 exact zB hX1 hX2 hS1 hS2 hC w hF hv
theorem DL {c a : Nat} {nm : Lx.B} {dst val : Ex} {body : Sts} (hX1 : eJ dst) (hX2 : eJ val) (hS1 : kK body) : qR (.mk c a nm dst val body) := by
 intro F w u hF h
 obtain ⟨c', a', nm', dst', val', body', o1, o2, a5, k5, hs, rfl, h1, h2, h3⟩ := h
 cases hs
 exact zC hX1 hX2 hS1 w hF h1 h2 h3
theorem zD {F : Nat -> Prop} {g o : Nat} {s : St} (h : StIn w F g o s) : ∃ c a nm dst val thn els cs o1 o2 a5 k5 a6 k6 a7 k7, s = .mk c a nm dst val thn els cs /\ w.cell? ⟨g, o, none⟩ = some (.int .i64 (c : Nat)) /\ w.cell? ⟨g, o + 1, none⟩ = some (.int .i64 (a : Nat)) /\ w.cell? ⟨g, o + 2, none⟩ = some (.string (mkT nm)) /\ w.cell? ⟨g, o + 3, none⟩ = some (.pointer o1) /\ w.cell? ⟨g, o + 4, none⟩ = some (.pointer o2) /\ w.cell? ⟨g, o + 5, none⟩ = some (.slice a5 thn.len k5) /\ w.cell? ⟨g, o + 6, none⟩ = some (.slice a6 els.len k6) /\ w.cell? ⟨g, o + 7, none⟩ = some (.slice a7 cs.len k7) ∧
  StV w F (.pointer o1) (.pointer o2) (.slice a5 thn.len k5) (.slice a6 els.len k6) (.slice a7 cs.len k7) dst val thn els cs := by
 obtain ⟨c, a, nm, dst, val, thn, els, cs⟩ := s
 obtain ⟨tv, vv, nv, ev, cv, c0, c1, c2, c3, c4, c5, c6, c7, h1, h2, h3, h4, h5, h6, h7, h8⟩ := h
 obtain ⟨o1, rfl⟩ := aL h1
 obtain ⟨o2, rfl⟩ := aL h2
 obtain ⟨a5, k5, rfl⟩ := bT h3
 obtain ⟨a6, k6, rfl⟩ := bT h5
 obtain ⟨a7, k7, rfl⟩ := bT h7
 exact ⟨c, a, nm, dst, val, thn, els, cs, o1, o2, a5, k5, a6, k6, a7, k7, rfl, c0, c1, c2, c3, c4, c5, c6, c7, h1, h2, h3, h4, h5, h6, h7, h8⟩
theorem zE {F : Nat -> Prop} {g o : Nat} {s : Ca} (h : CaIn w F g o s) : ∃ c a nm dst val body o1 o2 a5 k5, s = .mk c a nm dst val body /\ w.cell? ⟨g, o, none⟩ = some (.int .i64 (c : Nat)) /\ w.cell? ⟨g, o + 1, none⟩ = some (.int .i64 (a : Nat)) /\ w.cell? ⟨g, o + 2, none⟩ = some (.string (mkT nm)) /\ w.cell? ⟨g, o + 3, none⟩ = some (.pointer o1) /\ w.cell? ⟨g, o + 4, none⟩ = some (.pointer o2) /\ w.cell? ⟨g, o + 5, none⟩ = some (.slice a5 body.len k5) /\ ExIn w F (.pointer o1) dst /\ ExIn w F (.pointer o2) val /\ StsF w F body (.slice a5 body.len k5) := by
 obtain ⟨c, a, nm, dst, val, body⟩ := s
 obtain ⟨tv, vv, nv, c0, c1, c2, c3, c4, c5, h1, h2, h3, h4⟩ := h
 obtain ⟨o1, rfl⟩ := aL h1
 obtain ⟨o2, rfl⟩ := aL h2
 obtain ⟨a5, k5, rfl⟩ := bT h3
 exact ⟨c, a, nm, dst, val, body, o1, o2, a5, k5, rfl, c0, c1, c2, c3, c4, c5, h1, h2, h3, h4⟩
theorem J0 {F : Nat -> Prop} {g : Nat} : ∀ (xs : Sts) (i : Nat), StsIn w F g i xs -> ∀ (j : Nat) (x : St), xs.toL[j]? = some x -> StIn w F g ((i + j) * 8) x
 | .nil, _, _, j, x, h => by simp [Tr.Sts.toL] at h
 | .cons y ys, i, ⟨h1, _⟩, 0, x, h => by
  have e : y = x := by simpa [Tr.Sts.toL] using h
  subst e; exact h1
 | .cons y ys, i, ⟨_, h2⟩, j + 1, x, h => by
  have := J0 ys (i + 1) h2 j x (by simpa [Tr.Sts.toL] using h)
  rw [show i + (j + 1) = i + 1 + j by omega]; exact this
theorem J1 {F : Nat -> Prop} {g : Nat} : ∀ (xs : Cas) (i : Nat), CasIn w F g i xs -> ∀ (j : Nat) (x : Ca), xs.toL[j]? = some x -> CaIn w F g ((i + j) * 6) x
 | .nil, _, _, j, x, h => by simp [Tr.Cas.toL] at h
 | .cons y ys, i, ⟨h1, _⟩, 0, x, h => by
  have e : y = x := by simpa [Tr.Cas.toL] using h
  subst e; exact h1
 | .cons y ys, i, ⟨_, h2⟩, j + 1, x, h => by
  have := J1 ys (i + 1) h2 j x (by simpa [Tr.Cas.toL] using h)
  rw [show i + (j + 1) = i + 1 + j by omega]; exact this
theorem FT {B : Nat} {v : Value} {vs : List Value} {xs : Sts} (hown : w.ownsRow B 71 8 v xs.len vs) (hv : RowS w (fun b => B <= b) vs xs) (h0 : xs.len = 0 -> v = .slice none 0 0) : StsF w (fun b => B <= b) xs v := by
 by_cases hz : xs.len = 0
 ·refine ⟨Or.inl ⟨h0 hz, hz⟩, fun g n cap e => ?_⟩
  rw [h0 hz] at e; cases e
 ·have hc := hown
  rcases hown.2 with ⟨_, e⟩ | ⟨g, cap, cur, rfl, hb, hg, h3, h4, _⟩
  ·exact absurd e hz
  ·refine ⟨Or.inr ⟨g, cap, rfl, h3, h4, by omega, hb⟩, fun g' n' cap' e => ?_⟩
   cases e
   refine RowS.lies xs vs 0 (fun j u hj => ?_) hv
   rw [show 0 * 8 + j = j by omega, World.ownsRow.cellAt hc j (by have := (List.getElem?_eq_some_iff.1 hj).1; have := hc.1; omega)]
   exact hj
theorem FU {B : Nat} {v : Value} {vs : List Value} {xs : Cas} (hown : w.ownsRow B 134 6 v xs.len vs) (hv : RowC w (fun b => B <= b) vs xs) (h0 : xs.len = 0 -> v = .slice none 0 0) : CasF w (fun b => B <= b) xs v := by
 by_cases hz : xs.len = 0
 ·refine ⟨Or.inl ⟨h0 hz, hz⟩, fun g n cap e => ?_⟩
  rw [h0 hz] at e; cases e
 ·have hc := hown
  rcases hown.2 with ⟨_, e⟩ | ⟨g, cap, cur, rfl, hb, hg, h3, h4, _⟩
  ·exact absurd e hz
  ·refine ⟨Or.inr ⟨g, cap, rfl, h3, h4, by omega, hb⟩, fun g' n' cap' e => ?_⟩
   cases e
   refine RowC.lies xs vs 0 (fun j u hj => ?_) hv
   rw [show 0 * 6 + j = j by omega, World.ownsRow.cellAt hc j (by have := (List.getElem?_eq_some_iff.1 hj).1; have := hc.1; omega)]
   exact hj
theorem oM {ops : Array Oper} {rest : List Oper} {o : Oper} {a : Act} {Q : Exit -> Act -> World -> Prop} (hgd : o.guard = none) (s x : Operand)
  (ho : o.op = .call { callee := .builtin .append, args := #[s, x], argTypes := #[49, 49] }) (w : World) (B : Nat) (v : Value) (n : Nat) (xs us : List Value) (hus : us.length = 1 * 8) (h1us : ∀ u ∈ us, u.oneCell' = true) (hown : w.ownsRow B 71 8 v n xs) (hs : a.eval s = v)
  (g9 : Nat) (hx : a.eval x = .slice (some ⟨g9, 0, none⟩) 1 1) (hg9 : g9 = w.heap.size) (hl : n <= 1000000) (hB : B <= w.heap.size)
  (h : ∀ ao' cap' w', w'.ownsRow B 71 8 (.slice ao' (n + 1) cap') (n + 1) (xs ++ us) -> Keeps (fun b => v.ownBlock = some b) w w' -> (∀ k, (Value.slice ao' (n + 1) cap').ownBlock = some k -> v.ownBlock = some k \/ w.heap.size <= k) ->
   wpList Tryz.prog ops Q rest (a.put o.dst (.slice ao' (n + 1) cap')) w') : wpList Tryz.prog ops Q (o :: rest) a (w.alloc (.cells us.toArray 71)) := by
 subst hg9
 obtain ⟨i0, hi, hz0, hz1, hz2⟩ := info_parts oJ
 refine wpList_append_own_at _ hgd s x 49 ho B 71 i0 (.agg #[.int .i64 0, .int .i64 0, .string ByteArray.empty, .pointer none, .pointer none, .slice none 0 0, .slice none 0 0, .slice none 0 0]) 8 120 Tryz.underlying49 hi hz0 hz1 hz2 rfl (by decide) v n xs hs (World.ownsRow.alloc hown _) ⟨w.heap.size, 0, none⟩ 1 1 us hx hus
  (mU _ _ _) h1us (by unfold maxLen; omega) (by omega) (by simp; omega) ?_
 intro v' w' h1 h2 _ h4
 have hv' : ∃ ao' cap', v' = .slice ao' (n + 1) cap' := by
  rcases h1.2 with ⟨_, h0⟩ | ⟨g, cap', cur, rfl, _⟩
  ·omega
  ·exact ⟨_, _, rfl⟩
 obtain ⟨ao', cap', rfl⟩ := hv'
 refine h ao' cap' w' h1 (eQ h2 (fun k e => e)) (fun k e => ?_)
 rcases h4 with h5 | h5
 ·exact Or.inl (h5 ▸ e)
 ·rw [h5] at e
  have := Option.some.inj e
  exact Or.inr (by simp at this; omega)
theorem wY {xs : Sts} (hA : ∀ x ∈ xs.toL, qQ x) (hsz : xs.len <= 1000000) {F : Nat -> Prop} (w : World) (v : Value) (hx : StsF w F xs v) (hF : ∀ b, F b -> b < w.heap.size) :
  Calls Tryz.prog 122 #[v, .func (.func 123) #[] #[]] w fun e w' => ∃ sv, e = .returned sv /\ StsF w' (fun b => w.heap.size <= b) (aE xs) sv /\ Below w.heap.size w w' := by
 obtain ⟨ao, cap, rfl⟩ := bT hx.1
 have HA := zz hA
 have HN := zz hsz
 have HLL := zz (wT xs)
 have HW : Hid (∀ W, Below w.heap.size w W -> StsF W (fun b => b < w.heap.size) xs (.slice ao xs.len cap)) := zz fun W hb =>
  dP (cJ (fun b _ e => hF b e) hx) (Keeps.of_below (S := fun k => w.heap.size <= k) hb (fun _ _ e => e)) (fun b e e2 => by have h9 : w.heap.size <= b := e2; have h8 : b < w.heap.size := e; omega)
 clear hA hx hsz hF
 go_enter Tryz.func122, Tryz.ntmps122
 go_wp2_with fail
 go_loopw [5, 12] (fun v i wr => ∃ (k : Nat) (vals : List Value), k <= xs.len /\ i = .int .i64 k /\ wr.ownsRow w.heap.size 71 8 v (mV .nil (xs.toL.take k)).len vals /\ RowS wr (fun b => w.heap.size <= b /\ v.ownBlock ≠ some b) vals (mV .nil (xs.toL.take k)) /\ Below w.heap.size w wr /\ ((mV .nil (xs.toL.take k)).len = 0 -> v = .slice none 0 0)) (fun _ i _ => xs.len - (intOf i).toNat)
 case atStart => exact ⟨0, [], Nat.zero_le _, rfl, World.ownsRow_nil _ _ _ _, rfl, Below.refl _ _, fun _ => rfl⟩
 case round =>
  obtain ⟨k, vals, hk, rfl, hown, hvals, hb, h0⟩ := hrel
  have hn := HN.out
  have haccl := wW (xs.toL.take k) .nil
  have hnil : (Sts.nil).len = 0 := rfl
  rw [hnil, List.length_take] at haccl
  obtain ⟨acc, hacc⟩ : ∃ acc, acc = mV .nil (xs.toL.take k) := ⟨_, rfl⟩
  rw [<- hacc] at hown hvals h0 haccl
  have HACC := zz hacc
  have HAL : Hid (acc.len <= 1000000) := zz (by omega)
  obtain ⟨ao1, cap1, hform⟩ : ∃ ao1 cap1, u5 = .slice ao1 acc.len cap1 := by
   rcases hown.2 with ⟨e1, e2⟩ | ⟨g, c, cur, e1, _⟩
   ·exact ⟨none, 0, by rw [e1, e2]⟩
   ·exact ⟨_, _, e1⟩
  subst hform
  have HOW := zz hown
  have HVL := zz hvals
  have HBL := zz hb
  have H0 := zz h0
  clear hown hvals hb h0 hacc haccl hnil
  by_cases hlt : k < xs.len
  ·obtain ⟨x, hkx⟩ : ∃ x, xs.toL[k]? = some x := ⟨_, List.getElem?_eq_getElem (by rw [HLL.out]; exact hlt)⟩
   have hw0 := HW.out wr HBL.out
   obtain ⟨g, rfl⟩ : ∃ g, ao = some ⟨g, 0, none⟩ := by
    rcases hw0.1 with ⟨_, e0⟩ | ⟨g, cp, e, _⟩
    ·omega
    ·injection e with e1 _ _; exact ⟨g, e1⟩
   have hin := J0 xs 0 (hw0.2 g _ _ rfl) k x hkx
   rw [Nat.zero_add] at hin
   obtain ⟨c, a, nm, dst, val, thn, els, cs, o1, o2, a5, k5, a6, k6, a7, k7, rfl, c0, c1, c2, c3, c4, c5, c6, c7, hv⟩ := zD hin
   have hki : (k : Int) < (xs.len : Int) := by omega
   have hkii : (0 : Int) <= (k : Int) /\ (k : Int) < (xs.len : Int) := by omega
   have hw : IntKind.i64.wrap ((k : Int) + 1) = (k : Int) + 1 := IntWalk.i64_in _ (by omega)
   have hmem := List.mem_of_getElem? hkx
   have HTK : Hid (xs.toL.take (k + 1) = xs.toL.take k ++ [(Tr.St.mk c a nm dst val thn els cs)]) := zz (by rw [List.take_add_one, hkx]; rfl)
   obtain ⟨wq, hwq⟩ : ∃ W, W = wr.alloc (.cells #[.int .i64 (c : Nat), .int .i64 (a : Nat), .string (mkT nm), .pointer o1, .pointer o2, .slice a5 thn.len k5, .slice a6 els.len k6, .slice a7 cs.len k7] 71) := ⟨_, rfl⟩
   have HWQ := zz hwq
   have hbq : Below wr.heap.size wr wq := by rw [hwq]; exact cU wr _ _
   have HBQ := zz (HBL.out.trans (hbq.mono HBL.out.size))
   have HLO := zz (World.ownsRow.lt HOW.out)
   have HBQ1 := zz hbq
   have hvq := hv.keeps (Keeps.of_below (S := fun k => wr.heap.size <= k) HBQ1.out (fun _ _ e => e)) (fun b e e2 => by have h9 : wr.heap.size <= b := e2; have h8 : b < w.heap.size := e; have := HBL.out.size; omega)
   have HE := zz (HA.out _ hmem (fun b => b < w.heap.size) wq _ (fun b hb => Nat.lt_of_lt_of_le hb HBQ.out.size) ⟨c, a, nm, dst, val, thn, els, cs, o1, o2, a5, k5, a6, k6, a7, k7, rfl, rfl, hvq⟩)
   unfold iW at HE
   clear hvq
   clear hkx hmem hin hw0 hwq hbq hv
   go_wp2_with fail
   rw [<- HWQ.out]
   refine HE.out.mono ?_
   rintro e w2 ⟨u', b, y, rfl, hst, hdec, hb2⟩
   obtain ⟨c', a', nm', dst', val', thn', els', cs', o1', o2', a5', k5', a6', k6', a7', k7', rfl, rfl, hv'⟩ := hst
   have HB2 : Hid (Below w.heap.size w w2) := zz (HBQ.out.trans (hb2.mono HBQ.out.size))
   have HK2 : Hid (Keeps (fun b => wr.heap.size <= b) wr w2) := zz (Keeps.of_below (S := fun k => wr.heap.size <= k) (HBQ1.out.trans (hb2.mono HBQ1.out.size)) (fun _ _ e => e))
   have HSQ := zz HBQ1.out.size
   have HV2 := zz hv'
   have HD2 := zz hdec
   obtain ⟨w2a, hw2a⟩ : ∃ W, W = w2.alloc (.cells #[.int .i64 (c' : Nat), .int .i64 (a' : Nat), .string (mkT nm'), .pointer o1', .pointer o2', .slice a5' thn'.len k5', .slice a6' els'.len k6', .slice a7' cs'.len k7'] 71) := ⟨_, rfl⟩
   have HW2 := zz hw2a
   have hba : Below w2.heap.size w2 w2a := by rw [hw2a]; exact cU w2 _ _
   have HBA := zz hba
   have HB2a := zz (HB2.out.trans (hba.mono HB2.out.size))
   have HSZ : Hid (w.heap.size <= w2a.heap.size) := zz HB2a.out.size
   have HKA : Hid (Keeps (fun b => wr.heap.size <= b) wr w2a) := zz (HK2.out.trans (Keeps.of_below (S := fun k => wr.heap.size <= k) hba (fun b _ e => Nat.le_trans HK2.out.size e)))
   have HOW2 : Hid (w2a.ownsRow w.heap.size 71 8 (.slice ao1 acc.len cap1) acc.len vals) := zz (HKA.out.row HOW.out (fun b e e2 => by have := (HLO.out b e).2; have h9 : wr.heap.size <= b := e2; omega))
   clear hb2 hv' hdec hba hw2a
   unfold iW
   cases b with
   | true =>
    go_wp2_with (at_builtin; rw [<- HW2.out]; refine oM rfl _ _ rfl w2a w.heap.size _ acc.len vals [.int .i64 (c' : Nat), .int .i64 (a' : Nat), .string (mkT nm'), .pointer o1', .pointer o2', .slice a5' thn'.len k5', .slice a6' els'.len k6', .slice a7' cs'.len k7'] rfl (by intro u hu; simp at hu; rcases hu with rfl | rfl | rfl | rfl | rfl | rfl | rfl | rfl <;> rfl) HOW2.out rfl _ rfl (by rw [HW2.out]; simp) HAL.out HSZ.out ?_; intro ao' cap' w3 hO3 hK3 hN3)
    have HO3 := zz hO3
    have HK3 := zz hK3
    have HN3 := zz hN3
    clear hO3 hK3 hN3
    go_wp2_with fail
    go_roundw
    case rel =>
     have hz2 := HBA.out.size
     have hbl := HBL.out.size
     have hzq := HSQ.out
     have hz2w := HK2.out.size
     have h1 : RowS w2a (fun b => w.heap.size <= b /\ (Value.slice ao1 acc.len cap1).ownBlock ≠ some b /\ b < wr.heap.size) vals acc := RowS.keeps HKA.out (fun b e e2 => by have h9 : wr.heap.size <= b := e2; omega) _ _ (RowS.mono (fun b hb e => ⟨e.1, e.2, hb⟩) _ _ HVL.out)
     have hac : mV .nil (xs.toL.take (k + 1)) = acc.snoc (.mk c' a' nm' dst' val' thn' els' cs') := by rw [HTK.out, oK, <- HACC.out, show cO (Tr.St.mk c a nm dst val thn els cs) = some (.mk c' a' nm' dst' val' thn' els' cs') from HD2.out]
     refine ⟨k + 1, _, by omega, by go_num, by rw [hac, Sts.len_snoc]; exact HO3.out, ?_, ?_, fun e => absurd e (by rw [hac, Sts.len_snoc]; omega)⟩
     ·rw [hac]
      refine RowS.snoc ?_ _ _ ?_
      ·exact ⟨_, _, _, _, _, rfl, StV.mono (fun b _ e => ⟨by have := e.1; omega, fun e4 => by
     rcases HN3.out b e4 with h | h
     ·have := (HLO.out b h).2; have := e.1; omega
     ·have := e.2; omega⟩) (StV.keeps (StV.mono (G := fun b => wq.heap.size <= b /\ b < w2a.heap.size) (fun b hb e => ⟨e, hb⟩) (HV2.out.grow HBA.out)) HK3.out (fun b e e2 => by have := (HLO.out b e2).2; have := e.1; omega))⟩
      ·exact RowS.mono (fun b _ e => ⟨e.1, fun e4 => by
        rcases HN3.out b e4 with h | h
        ·exact e.2.1 h
        ·omega⟩) _ _ (RowS.keeps HK3.out (fun b e e2 => e.2.1 e2) _ _ h1)
     ·exact HB2a.out.trans (HK3.out.below HSZ.out (fun b _ e => by have := (HLO.out b e).1; omega))
    case measure => simp [intOf]; omega
   | false =>
    go_wp2_with fail
    go_roundw
    case rel =>
     have hz2 := HBA.out.size
     have hbl := HBL.out.size
     have hzq := HSQ.out
     have hz2w := HK2.out.size
     have h1 : RowS w2a (fun b => w.heap.size <= b /\ (Value.slice ao1 acc.len cap1).ownBlock ≠ some b /\ b < wr.heap.size) vals acc := RowS.keeps HKA.out (fun b e e2 => by have h9 : wr.heap.size <= b := e2; omega) _ _ (RowS.mono (fun b hb e => ⟨e.1, e.2, hb⟩) _ _ HVL.out)
     have hac : mV .nil (xs.toL.take (k + 1)) = acc := by rw [HTK.out, oK, <- HACC.out, show cO (Tr.St.mk c a nm dst val thn els cs) = none from HD2.out]
     have hown2 := HOW2.out
     have h2 : RowS w2a (fun b => w.heap.size <= b /\ (Value.slice ao1 acc.len cap1).ownBlock ≠ some b) vals acc := RowS.mono (fun b _ e => ⟨e.1, e.2.1⟩) _ _ h1
     have h3 := HB2a.out
     rw [HW2.out] at hown2 h2 h3
     exact ⟨k + 1, vals, by omega, by go_num, by rw [hac]; exact hown2, by rw [hac]; exact h2, h3, by rw [hac]; exact H0.out⟩
    case measure => simp [intOf]; omega
  ·have hki : ¬ (k : Int) < (xs.len : Int) := by omega
   have hkk : k = xs.len := by omega
   subst hkk
   go_wp2_with fail
   go_ret
   have hfl : acc = aE xs := by
    rw [HACC.out, List.take_of_length_le (by rw [HLL.out]; exact Nat.le_refl _)]
    exact DI xs
   refine ⟨_, rfl, ?_, HBL.out⟩
   rw [<- hfl]
   exact FT HOW.out (RowS.mono (fun b _ e => e.1) _ _ HVL.out) H0.out
theorem oN {ops : Array Oper} {rest : List Oper} {o : Oper} {a : Act} {Q : Exit -> Act -> World -> Prop} (hgd : o.guard = none) (s x : Operand)
  (ho : o.op = .call { callee := .builtin .append, args := #[s, x], argTypes := #[69, 69] }) (w : World) (B : Nat) (v : Value) (n : Nat) (xs us : List Value) (hus : us.length = 1 * 6) (h1us : ∀ u ∈ us, u.oneCell' = true) (hown : w.ownsRow B 134 6 v n xs) (hs : a.eval s = v)
  (g9 : Nat) (hx : a.eval x = .slice (some ⟨g9, 0, none⟩) 1 1) (hg9 : g9 = w.heap.size) (hl : n <= 1000000) (hB : B <= w.heap.size)
  (h : ∀ ao' cap' w', w'.ownsRow B 134 6 (.slice ao' (n + 1) cap') (n + 1) (xs ++ us) -> Keeps (fun b => v.ownBlock = some b) w w' -> (∀ k, (Value.slice ao' (n + 1) cap').ownBlock = some k -> v.ownBlock = some k \/ w.heap.size <= k) ->
   wpList Tryz.prog ops Q rest (a.put o.dst (.slice ao' (n + 1) cap')) w') : wpList Tryz.prog ops Q (o :: rest) a (w.alloc (.cells us.toArray 134)) := by
 subst hg9
 obtain ⟨i0, hi, hz0, hz1, hz2⟩ := info_parts sN
 refine wpList_append_own_at _ hgd s x 69 ho B 134 i0 (.agg #[.int .i64 0, .int .i64 0, .string ByteArray.empty, .pointer none, .pointer none, .slice none 0 0]) 6 72 Tryz.underlying69 hi hz0 hz1 hz2 rfl (by decide) v n xs hs (World.ownsRow.alloc hown _) ⟨w.heap.size, 0, none⟩ 1 1 us hx hus
  (mU _ _ _) h1us (by unfold maxLen; omega) (by omega) (by simp; omega) ?_
 intro v' w' h1 h2 _ h4
 have hv' : ∃ ao' cap', v' = .slice ao' (n + 1) cap' := by
  rcases h1.2 with ⟨_, h0⟩ | ⟨g, cap', cur, rfl, _⟩
  ·omega
  ·exact ⟨_, _, rfl⟩
 obtain ⟨ao', cap', rfl⟩ := hv'
 refine h ao' cap' w' h1 (eQ h2 (fun k e => e)) (fun k e => ?_)
 rcases h4 with h5 | h5
 ·exact Or.inl (h5 ▸ e)
 ·rw [h5] at e
  have := Option.some.inj e
  exact Or.inr (by simp at this; omega)
theorem wZ {xs : Cas} (hA : ∀ x ∈ xs.toL, qR x) (hsz : xs.len <= 1000000) {F : Nat -> Prop} (w : World) (v : Value) (hx : CasF w F xs v) (hF : ∀ b, F b -> b < w.heap.size) :
    Calls Tryz.prog 174 #[v, .func (.func 175) #[] #[]] w fun e w' => ∃ sv, e = .returned sv /\ CasF w' (fun b => w.heap.size <= b) (aT xs) sv /\ Below w.heap.size w w' := by
  obtain ⟨ao, cap, rfl⟩ := bT hx.1
  have HA := zz hA
  have HN := zz hsz
  have HLL := zz (wS xs)
  have HW : Hid (∀ W, Below w.heap.size w W -> CasF W (fun b => b < w.heap.size) xs (.slice ao xs.len cap)) := zz fun W hb =>
    qP (mT (fun b _ e => hF b e) hx) (Keeps.of_below (S := fun k => w.heap.size <= k) hb (fun _ _ e => e)) (fun b e e2 => by have h9 : w.heap.size <= b := e2; have h8 : b < w.heap.size := e; omega)
  clear hA hx hsz hF
  go_enter Tryz.func174, Tryz.ntmps174
  go_wp2_with fail
  go_loopw [5, 12] (fun v i wr => ∃ (k : Nat) (vals : List Value), k <= xs.len /\ i = .int .i64 k /\ wr.ownsRow w.heap.size 134 6 v (oL .nil (xs.toL.take k)).len vals /\ RowC wr (fun b => w.heap.size <= b /\ v.ownBlock ≠ some b) vals (oL .nil (xs.toL.take k)) /\ Below w.heap.size w wr /\ ((oL .nil (xs.toL.take k)).len = 0 -> v = .slice none 0 0)) (fun _ i _ => xs.len - (intOf i).toNat)
  case atStart => exact ⟨0, [], Nat.zero_le _, rfl, World.ownsRow_nil _ _ _ _, rfl, Below.refl _ _, fun _ => rfl⟩
  case round =>
    obtain ⟨k, vals, hk, rfl, hown, hvals, hb, h0⟩ := hrel
    have hn := HN.out
    have haccl := wX (xs.toL.take k) .nil
    have hnil : (Cas.nil).len = 0 := rfl
    rw [hnil, List.length_take] at haccl
    obtain ⟨acc, hacc⟩ : ∃ acc, acc = oL .nil (xs.toL.take k) := ⟨_, rfl⟩
    rw [<- hacc] at hown hvals h0 haccl
    have HACC := zz hacc
    have HAL : Hid (acc.len <= 1000000) := zz (by omega)
    obtain ⟨ao1, cap1, hform⟩ : ∃ ao1 cap1, u5 = .slice ao1 acc.len cap1 := by
      rcases hown.2 with ⟨e1, e2⟩ | ⟨g, c, cur, e1, _⟩
      · exact ⟨none, 0, by rw [e1, e2]⟩
      · exact ⟨_, _, e1⟩
    subst hform
    have HOW := zz hown
    have HVL := zz hvals
    have HBL := zz hb
    have H0 := zz h0
    clear hown hvals hb h0 hacc haccl hnil
    by_cases hlt : k < xs.len
    · obtain ⟨x, hkx⟩ : ∃ x, xs.toL[k]? = some x := ⟨_, List.getElem?_eq_getElem (by rw [HLL.out]; exact hlt)⟩
      have hw0 := HW.out wr HBL.out
      obtain ⟨g, rfl⟩ : ∃ g, ao = some ⟨g, 0, none⟩ := by
        rcases hw0.1 with ⟨_, e0⟩ | ⟨g, cp, e, _⟩
        · omega
        · injection e with e1 _ _; exact ⟨g, e1⟩
      have hin := J1 xs 0 (hw0.2 g _ _ rfl) k x hkx
      rw [Nat.zero_add] at hin
      obtain ⟨c, a, nm, dst, val, body, o1, o2, a5, k5, rfl, c0, c1, c2, c3, c4, c5, hv1, hv2, hv3⟩ := zE hin
      have hki : (k : Int) < (xs.len : Int) := by omega
      have hkii : (0 : Int) <= (k : Int) /\ (k : Int) < (xs.len : Int) := by omega
      have hw : IntKind.i64.wrap ((k : Int) + 1) = (k : Int) + 1 := IntWalk.i64_in _ (by omega)
      have hmem := List.mem_of_getElem? hkx
      have HTK : Hid (xs.toL.take (k + 1) = xs.toL.take k ++ [(Tr.Ca.mk c a nm dst val body)]) := zz (by rw [List.take_add_one, hkx]; rfl)
      obtain ⟨wq, hwq⟩ : ∃ W, W = wr.alloc (.cells #[.int .i64 (c : Nat), .int .i64 (a : Nat), .string (mkT nm), .pointer o1, .pointer o2, .slice a5 body.len k5] 134) := ⟨_, rfl⟩
      have HWQ := zz hwq
      have hbq : Below wr.heap.size wr wq := by rw [hwq]; exact cU wr _ _
      have HBQ := zz (HBL.out.trans (hbq.mono HBL.out.size))
      have HLO := zz (World.ownsRow.lt HOW.out)
      have HBQ1 := zz hbq
      have hkq : Keeps (fun k => wr.heap.size <= k) wr wq := Keeps.of_below (S := fun k => wr.heap.size <= k) HBQ1.out (fun _ _ e => e)
      have hnq : ∀ b, b < w.heap.size -> ¬ wr.heap.size <= b := fun b e e2 => by have := HBL.out.size; omega
      have HE := zz (HA.out _ hmem (fun b => b < w.heap.size) wq _ (fun b hb => Nat.lt_of_lt_of_le hb HBQ.out.size) ⟨c, a, nm, dst, val, body, o1, o2, a5, k5, rfl, rfl, hv1.keeps hkq hnq, hv2.keeps hkq hnq, dP hv3 hkq hnq⟩)
      unfold nP at HE
      clear hkq hnq
      clear hkx hmem hin hw0 hwq hbq hv1 hv2 hv3
      go_wp2_with fail
      rw [<- HWQ.out]
      refine HE.out.mono ?_
      rintro e w2 ⟨u', rfl, hst, hb2⟩
      obtain ⟨c', a', nm', dst', val', body', o1', o2', a5', k5', hdec, rfl, hv1', hv2', hv3'⟩ := hst
      have hv' := And.intro hv1' (And.intro hv2' hv3')
      have HB2 : Hid (Below w.heap.size w w2) := zz (HBQ.out.trans (hb2.mono HBQ.out.size))
      have HK2 : Hid (Keeps (fun b => wr.heap.size <= b) wr w2) := zz (Keeps.of_below (S := fun k => wr.heap.size <= k) (HBQ1.out.trans (hb2.mono HBQ1.out.size)) (fun _ _ e => e))
      have HSQ := zz HBQ1.out.size
      have HV2 := zz hv'
      have HD2 := zz hdec
      obtain ⟨w2a, hw2a⟩ : ∃ W, W = w2.alloc (.cells #[.int .i64 (c' : Nat), .int .i64 (a' : Nat), .string (mkT nm'), .pointer o1', .pointer o2', .slice a5' body'.len k5'] 134) := ⟨_, rfl⟩
      have HW2 := zz hw2a
      have hba : Below w2.heap.size w2 w2a := by rw [hw2a]; exact cU w2 _ _
      have HBA := zz hba
      have HB2a := zz (HB2.out.trans (hba.mono HB2.out.size))
      have HSZ : Hid (w.heap.size <= w2a.heap.size) := zz HB2a.out.size
      have HKA : Hid (Keeps (fun b => wr.heap.size <= b) wr w2a) := zz (HK2.out.trans (Keeps.of_below (S := fun k => wr.heap.size <= k) hba (fun b _ e => Nat.le_trans HK2.out.size e)))
      have HOW2 : Hid (w2a.ownsRow w.heap.size 134 6 (.slice ao1 acc.len cap1) acc.len vals) := zz (HKA.out.row HOW.out (fun b e e2 => by have := (HLO.out b e).2; have h9 : wr.heap.size <= b := e2; omega))
      clear hb2 hv' hdec hba hw2a
      unfold nP
      go_wp2_with (at_builtin; rw [<- HW2.out]; refine oN rfl _ _ rfl w2a w.heap.size _ acc.len vals [.int .i64 (c' : Nat), .int .i64 (a' : Nat), .string (mkT nm'), .pointer o1', .pointer o2', .slice a5' body'.len k5'] rfl (by intro u hu; simp at hu; rcases hu with rfl | rfl | rfl | rfl | rfl | rfl <;> rfl) HOW2.out rfl _ rfl (by rw [HW2.out]; simp) HAL.out HSZ.out ?_; intro ao' cap' w3 hO3 hK3 hN3)
      have HO3 := zz hO3
      have HK3 := zz hK3
      have HN3 := zz hN3
      clear hO3 hK3 hN3
      go_wp2_with fail
      go_roundw
      case rel =>
        have hz2 := HBA.out.size
        have hbl := HBL.out.size
        have hzq := HSQ.out
        have hz2w := HK2.out.size
        have h1 : RowC w2a (fun b => w.heap.size <= b /\ (Value.slice ao1 acc.len cap1).ownBlock ≠ some b /\ b < wr.heap.size) vals acc := RowC.keeps HKA.out (fun b e e2 => by have h9 : wr.heap.size <= b := e2; omega) _ _ (RowC.mono (fun b hb e => ⟨e.1, e.2, hb⟩) _ _ HVL.out)
        have hac : oL .nil (xs.toL.take (k + 1)) = acc.snoc (.mk c' a' nm' dst' val' body') := by rw [HTK.out, sQ, <- HACC.out, HD2.out]
        refine ⟨k + 1, _, by omega, by go_num, by rw [hac, Cas.len_snoc]; exact HO3.out, ?_, ?_, fun e => absurd e (by rw [hac, Cas.len_snoc]; omega)⟩
        · rw [hac]
          refine RowC.snoc ?_ _ _ ?_
          · have hm := HV2.out
            have hG : ∀ b, b < w2a.heap.size -> wq.heap.size <= b -> wq.heap.size <= b /\ b < w2a.heap.size := fun b h1 h2 => ⟨h2, h1⟩
            have hKB : ∀ b, wq.heap.size <= b /\ b < w2a.heap.size -> ¬ (Value.slice ao1 acc.len cap1).ownBlock = some b := (fun b e e2 => by have := (HLO.out b e2).2; have := e.1; omega)
            have hFR : ∀ b, b < w3.heap.size -> wq.heap.size <= b /\ b < w2a.heap.size -> w.heap.size <= b /\ (Value.slice ao' (acc.len + 1) cap').ownBlock ≠ some b := (fun b _ e => ⟨by have := e.1; omega, fun e4 => by
        rcases HN3.out b e4 with h | h
        · have := (HLO.out b h).2; have := e.1; omega
        · have := e.2; omega⟩)
            have hg3 := dQ (k := wq.heap.size) hm.2.2 (Keeps.of_below (S := fun k => w2.heap.size <= k) HBA.out (fun _ _ e => e)) (fun b _ h2 e => by have h9 : w2.heap.size <= b := e; omega) (Nat.le_refl _)
            have hg4 := cJ hFR (dP (cJ hG hg3) HK3.out hKB)
            exact ⟨_, _, _, rfl, ExIn.mono hFR _ _ ((ExIn.mono hG _ _ (hm.1.grow HBA.out)).keeps HK3.out hKB), ExIn.mono hFR _ _ ((ExIn.mono hG _ _ (hm.2.1.grow HBA.out)).keeps HK3.out hKB), hg4.1, hg4.2⟩
          · exact RowC.mono (fun b _ e => ⟨e.1, fun e4 => by
              rcases HN3.out b e4 with h | h
              · exact e.2.1 h
              · omega⟩) _ _ (RowC.keeps HK3.out (fun b e e2 => e.2.1 e2) _ _ h1)
        · exact HB2a.out.trans (HK3.out.below HSZ.out (fun b _ e => by have := (HLO.out b e).1; omega))
      case measure => simp [intOf]; omega
    · have hki : ¬ (k : Int) < (xs.len : Int) := by omega
      have hkk : k = xs.len := by omega
      subst hkk
      go_wp2_with fail
      go_ret
      have hfl : acc = aT xs := by
        rw [HACC.out, List.take_of_length_le (by rw [HLL.out]; exact Nat.le_refl _)]
        exact DJ xs
      refine ⟨_, rfl, ?_, HBL.out⟩
      rw [<- hfl]
      exact FU HOW.out (RowC.mono (fun b _ e => e.1) _ _ HVL.out) H0.out
mutual
def szS : St -> Nat
 | .mk _ _ _ dst val thn els cs => 1 + szE dst + szE val + iD thn + iD els + lP cs
def iD : Sts -> Nat
 | .nil => 0
 | .cons s ss => szS s + iD ss
def szC : Ca -> Nat
 | .mk _ _ _ dst val body => 1 + szE dst + szE val + iD body
def lP : Cas -> Nat
 | .nil => 0
 | .cons c cs => szC c + lP cs
end
theorem lQ : ∀ xs : Sts, xs.len <= iD xs
 | .nil => Nat.zero_le _
 | .cons (.mk c a nm dst val thn els cs) ss => by
  have := lQ ss
  show ss.len + 1 <= _
  rw [iD, szS]; omega
theorem xA : ∀ xs : Cas, xs.len <= lP xs
 | .nil => Nat.zero_le _
 | .cons (.mk c a nm dst val body) ss => by
  have := xA ss
  show ss.len + 1 <= _
  rw [lP, szC]; omega
theorem lY {xs : Sts} (hA : ∀ x ∈ xs.toL, qQ x) (hsz : xs.len <= 1000000) : kK xs := by
 intro F w v hx hF
 have HE := zz (wY hA hsz w v hx hF)
 obtain ⟨ao, cap, rfl⟩ := bT hx.1
 clear hA hsz hx hF
 go_enter Tryz.func75, Tryz.ntmps75
 go_wp2_with fail
 refine HE.out.mono ?_
 rintro e w2 ⟨sv, rfl, hs, hb⟩
 go_wp2_with fail
 go_ret
 exact ⟨_, rfl, hs, hb⟩
theorem DM {xs : Cas} (hA : ∀ x ∈ xs.toL, qR x) (hsz : xs.len <= 1000000) : yZ xs := by
 intro F w v hx hF
 have HE := zz (wZ hA hsz w v hx hF)
 obtain ⟨ao, cap, rfl⟩ := bT hx.1
 clear hA hsz hx hF
 go_enter Tryz.func125, Tryz.ntmps125
 go_wp2_with fail
 refine HE.out.mono ?_
 rintro e w2 ⟨sv, rfl, hs, hb⟩
 go_wp2_with fail
 go_ret
 exact ⟨_, rfl, hs, hb⟩
mutual
theorem FV : ∀ s : St, qC s -> szS s <= 1000000 -> qQ s
 | .mk c a nm dst val thn els cs, h, hz => by
  rw [szS] at hz
  exact DK (gS dst h.1 (by omega)) (gS val h.2.1 (by omega)) (lY (j1 thn h.2.2.1 (by omega)) (by have := lQ thn; omega)) (lY (j1 els h.2.2.2.1 (by omega)) (by have := lQ els; omega)) (DM (sS cs h.2.2.2.2 (by omega)) (by have := xA cs; omega))
theorem j1 : ∀ xs : Sts, eV xs -> iD xs <= 1000000 -> ∀ x ∈ xs.toL, qQ x
 | .nil, _, _, x, hx => by cases hx
 | .cons y ys, h, hz, x, hx => by
  rw [iD] at hz
  rcases List.mem_cons.1 hx with e | e
  ·rw [e]; exact FV y h.1 (by omega)
  ·exact j1 ys h.2 (by omega) x e
theorem FW : ∀ s : Ca, vW s -> szC s <= 1000000 -> qR s
 | .mk c a nm dst val body, h, hz => by
  rw [szC] at hz
  exact DL (gS dst h.1 (by omega)) (gS val h.2.1 (by omega)) (lY (j1 body h.2.2 (by omega)) (by have := lQ body; omega))
theorem sS : ∀ xs : Cas, mE xs -> lP xs <= 1000000 -> ∀ x ∈ xs.toL, qR x
 | .nil, _, _, x, hx => by cases hx
 | .cons y ys, h, hz, x, hx => by
  rw [lP] at hz
  rcases List.mem_cons.1 hx with e | e
  ·rw [e]; exact FW y h.1 (by omega)
  ·exact sS ys h.2 (by omega) x e
end
theorem zF (xs : Sts) (h : eV xs) (hz : iD xs <= 1000000) : kK xs := lY (j1 xs h hz) (Nat.le_trans (lQ xs) hz)
end Go.Proofs.YtnpapppipccdbaaGreatDoor
namespace Go.Proofs.YtnpapppipccdbaaGreatDoor
open Go.RowKit Lx Tr
variable {w w' : World} {rb n d dd : Nat} {tv : Value} {E : Env}
theorem gU (f : Nat) (src : Src) (n : Nat) : Tr.program E (f + 1) src n =
  if E.toks.length <= n then .ok src n
  else if (pk E n).text = pD then (if 8 <= src.globals.length then fail E 4 n else (aF E 1 (n + 1)).bind fun t m => (aF E 5 m).bind fun _ m2 => Tr.program E f ⟨src.globals ++ [⟨t.text, t.at_⟩], src.funcs⟩ m2)
  else if (pk E n).text = kW then (if 12 <= src.funcs.length then fail E 4 n else (Tr.function E f n).bind fun g m => (aF E 5 m).bind fun _ m2 => Tr.program E f ⟨src.globals, src.funcs ++ [g]⟩ m2)
  else fail E 3 n := by rw [Tr.program]
structure ProgJ (w wl : World) (rb : Nat) (tv : Value) (E : Env) (sb : Nat) (G : Res Src -> Prop) (wr : World) (m : Nat) (src : Src) : Prop where
 rd : RdAt wr rb tv E m 0
 env : TEnv rb E wr
 kp : Keeps (fun b => b = rb) w wr
 kl : Keeps (fun b => b = rb \/ b = sb) wl wr
 row : ∃ gv fv fvals, Blk wr sb [gv, fv] /\ wr.ownsRow wl.heap.size 54 2 gv src.globals.length (bQ src.globals) /\ wr.ownsRow wl.heap.size 51 5 fv src.funcs.length fvals ∧
  RowF wr (fun b => wl.heap.size <= b /\ some b ≠ gv.ownBlock /\ some b ≠ fv.ownBlock) fvals src.funcs /\ (src.globals = [] -> gv = .slice none 0 0) /\ (src.funcs = [] -> fv = .slice none 0 0) /\ ∀ b, gv.ownBlock = some b -> fv.ownBlock ≠ some b
 lo : rb < w.heap.size /\ w.heap.size <= sb /\ sb < wl.heap.size /\ wl.heap.size <= wr.heap.size
 ev : ∀ r, Ev (fun f => Tr.program E f src m) r -> G r
theorem ProgJ.on {wl wr w2 : World} {sb m m2 : Nat} {G G2 : Res Src -> Prop} {src : Src} (h : ProgJ w wl rb tv E sb G wr m src) (hk : Keeps (fun b => b = rb) wr w2) (hr : RdAt w2 rb tv E m2 0) (hev : ∀ r, Ev (fun f => Tr.program E f src m2) r -> G2 r) : ProgJ w wl rb tv E sb G2 w2 m2 src := by
 obtain ⟨gv, fv, fvals, h1, h2, h3, h4, h5, h6, h7⟩ := h.row
 have hlo := h.lo
 refine ⟨hr, h.env.own hk, h.kp.trans hk, h.kl.trans (hk.mono (fun _ _ e => Or.inl e)), ⟨gv, fv, fvals, h1.keeps hk (fun e => by have : sb = rb := e; omega), hk.row h2 (fun b e e2 => by have := (a8 h2 b e).1; have : b = rb := e2; omega), hk.row h3 (fun b e e2 => by have := (a8 h3 b e).1; have : b = rb := e2; omega), RowF.keeps hk (fun b e e2 => by have := e.1; have : b = rb := e2; omega) _ _ h4, h5, h6, h7⟩, ⟨hlo.1, hlo.2.1, hlo.2.2.1, Nat.le_trans hlo.2.2.2 hk.size⟩, hev⟩
theorem ProgJ.nextG {wl wr w2 w5 : World} {sb m m1 cap5 : Nat} {ao5 : Option Addr} {G G2 : Res Src -> Prop} {src : Src} {gv fv : Value} {fvals : List Value} {o : Obj} (g : Gl) (h : ProgJ w wl rb tv E sb G wr m src) (hb : Blk wr sb [gv, fv]) (hg : wr.ownsRow wl.heap.size 54 2 gv src.globals.length (bQ src.globals)) (hf : wr.ownsRow wl.heap.size 51 5 fv src.funcs.length fvals)
  (hR : RowF wr (fun b => wl.heap.size <= b /\ some b ≠ gv.ownBlock /\ some b ≠ fv.ownBlock) fvals src.funcs) (_h5 : src.globals = [] -> gv = .slice none 0 0) (h6 : src.funcs = [] -> fv = .slice none 0 0) (h7 : ∀ b, gv.ownBlock = some b -> fv.ownBlock ≠ some b)
  (hk : Keeps (fun b => b = rb) wr w2) (hr : RdAt w2 rb tv E m1 0) (hgr : (w2.alloc o).grownBy w5 gv.ownBlock) (HO : w5.ownsRow wl.heap.size 54 2 (.slice ao5 (src.globals.length + 1) cap5) (src.globals.length + 1) (bQ src.globals ++ [.string (mkT g.name), .int .i64 (g.at_ : Nat)]))
  (hnew : (Value.slice ao5 (src.globals.length + 1) cap5).ownBlock = gv.ownBlock \/ (Value.slice ao5 (src.globals.length + 1) cap5).ownBlock = some (w2.heap.size + 1)) (hev : ∀ r, Ev (fun f => Tr.program E f ⟨src.globals ++ [g], src.funcs⟩ m1) r -> G2 r) : ProgJ w wl rb tv E sb G2 (w5.setCell ⟨sb, 0, none⟩ (.slice ao5 (src.globals.length + 1) cap5)) m1 ⟨src.globals ++ [g], src.funcs⟩ := by
 have hlo := h.lo
 have hw2 := hk.size
 have hk5 : Keeps (fun b => gv.ownBlock = some b) w2 w5 := ((Keeps.refl (fun b => gv.ownBlock = some b) w2).alloc o).trans' (Keeps.of_grownBy hgr (fun k _ e => e)) (fun _ _ e => e)
 have hks : Keeps (fun b => b = sb) w5 (w5.setCell ⟨sb, 0, none⟩ (.slice ao5 (src.globals.length + 1) cap5)) := mB
 have hgg := a8 hg
 have hff := a8 hf
 have hge : ∀ b, gv.ownBlock = some b -> wl.heap.size <= b /\ b < wr.heap.size := hgg
 have hoe : ∀ b, fv.ownBlock = some b -> wl.heap.size <= b /\ b < wr.heap.size := hff
 have hdis : ∀ b, fv.ownBlock = some b -> ¬ gv.ownBlock = some b := fun b e e2 => h7 b e2 e
 have hb5 : Blk w5 sb [gv, fv] := (hb.keeps hk (fun e => by have : sb = rb := e; omega)).keeps hk5 (fun e => by have := (hge sb e).1; omega)
 have hgn : ∀ b, (Value.slice ao5 (src.globals.length + 1) cap5).ownBlock = some b -> wl.heap.size <= b := fun b e => by
  rcases hnew with h3 | h3
  ·exact (hge b (h3 ▸ e)).1
  ·rw [h3] at e; have := Option.some.inj e; omega
 have hnd : ∀ b, (Value.slice ao5 (src.globals.length + 1) cap5).ownBlock = some b -> fv.ownBlock ≠ some b := fun b e e2 => by
  rcases hnew with h3 | h3
  ·exact hdis b e2 (h3 ▸ e)
  ·rw [h3] at e; have := Option.some.inj e; have := (hoe b e2).2; omega
 have hs5 := hk5.size
 have hss := hks.size
 have hother : (w5.setCell ⟨sb, 0, none⟩ (.slice ao5 (src.globals.length + 1) cap5)).ownsRow wl.heap.size 51 5 fv src.funcs.length fvals :=
  hks.row (hk5.row (hk.row hf (fun b e e2 => by have := (hoe b e).1; have : b = rb := e2; omega)) (fun b e => hdis b e)) (fun b e e2 => by have := (hoe b e).1; have : b = sb := e2; omega)
 have hrow2 : RowF w2 (fun b => wl.heap.size <= b /\ some b ≠ gv.ownBlock /\ some b ≠ fv.ownBlock /\ some b ≠ (Value.slice ao5 (src.globals.length + 1) cap5).ownBlock) fvals src.funcs := RowF.mono (fun b hb e => by
  refine ⟨e.1, e.2.1, e.2.2, fun h2 => ?_⟩
  rcases hnew with h3 | h3
  ·exact e.2.1 (by rw [<- h3]; exact h2)
  ·rw [h3] at h2; have := Option.some.inj h2; omega) _ _ (RowF.keeps hk (fun b e e2 => by have := e.1; have : b = rb := e2; omega) _ _ hR)
 have hrow5 : RowF (w5.setCell ⟨sb, 0, none⟩ (.slice ao5 (src.globals.length + 1) cap5)) (fun b => wl.heap.size <= b /\ some b ≠ (Value.slice ao5 (src.globals.length + 1) cap5).ownBlock /\ some b ≠ fv.ownBlock) fvals src.funcs := RowF.mono (fun b _ e => ⟨e.1, e.2.2.2, e.2.2.1⟩) _ _ (RowF.keeps hks (fun b e e2 => by have := e.1; have : b = sb := e2; omega) _ _ (RowF.keeps hk5 (fun b e e2 => e.2.1 e2.symm) _ _ hrow2))
 refine ⟨(hr.keeps hk5 (fun b e => by have := (hge b e).1; omega)).keeps hks (fun b e => by have : b = sb := e; omega), ((h.env.own hk).keeps hk5 (fun b e => by have := (hge b e).1; omega)).keeps hks (fun b e => by have : b = sb := e; omega), ((h.kp.trans hk).trans' hk5 (fun i hi e => by have := (hge i e).1; omega)).trans' hks (fun i hi e => by have : i = sb := e; omega), ((h.kl.trans (hk.mono (fun _ _ e => Or.inl e))).trans' hk5 (fun i hi e => by have := (hge i e).1; omega)).trans (hks.mono (fun _ _ e => Or.inr e)), ⟨_, fv, fvals, hb5.set 0 (.slice ao5 (src.globals.length + 1) cap5) (by simp), ?_, hother, hrow5, fun e => absurd e (by simp), h6, fun b e => hnd b e⟩, ⟨hlo.1, hlo.2.1, hlo.2.2.1, by omega⟩, hev⟩
 have h9 := hks.row HO (fun b e e2 => by have := hgn b e; have : b = sb := e2; omega)
 rw [show (⟨src.globals ++ [g], src.funcs⟩ : Src).globals.length = src.globals.length + 1 by simp, show bQ (⟨src.globals ++ [g], src.funcs⟩ : Src).globals = _ from nO src.globals g]
 exact h9
theorem ProgJ.nextF {wl wr w2 w5 : World} {sb m m1 cap5 : Nat} {ao5 : Option Addr} {G G2 : Res Src -> Prop} {src : Src} {gv fv : Value} {fvals : List Value} {vs : List Value} {o : Obj} (g : Fu) (h : ProgJ w wl rb tv E sb G wr m src) (hb : Blk wr sb [gv, fv]) (hg : wr.ownsRow wl.heap.size 54 2 gv src.globals.length (bQ src.globals)) (hf : wr.ownsRow wl.heap.size 51 5 fv src.funcs.length fvals)
  (hR : RowF wr (fun b => wl.heap.size <= b /\ some b ≠ gv.ownBlock /\ some b ≠ fv.ownBlock) fvals src.funcs) (h5 : src.globals = [] -> gv = .slice none 0 0) (_h6 : src.funcs = [] -> fv = .slice none 0 0) (h7 : ∀ b, gv.ownBlock = some b -> fv.ownBlock ≠ some b)
  (hk : Keeps (fun b => b = rb) wr w2) (hr : RdAt w2 rb tv E m1 0) (hs : FuC w2 (fun b => wr.heap.size <= b) vs g) (hgr : (w2.alloc o).grownBy w5 fv.ownBlock) (HO : w5.ownsRow wl.heap.size 51 5 (.slice ao5 (src.funcs.length + 1) cap5) (src.funcs.length + 1) (fvals ++ vs))
  (hnew : (Value.slice ao5 (src.funcs.length + 1) cap5).ownBlock = fv.ownBlock \/ (Value.slice ao5 (src.funcs.length + 1) cap5).ownBlock = some (w2.heap.size + 1)) (hev : ∀ r, Ev (fun f => Tr.program E f ⟨src.globals, src.funcs ++ [g]⟩ m1) r -> G2 r) : ProgJ w wl rb tv E sb G2 (w5.setCell ⟨sb, 1, none⟩ (.slice ao5 (src.funcs.length + 1) cap5)) m1 ⟨src.globals, src.funcs ++ [g]⟩ := by
 have hlo := h.lo
 have hw2 := hk.size
 have hk5 : Keeps (fun b => fv.ownBlock = some b) w2 w5 := ((Keeps.refl (fun b => fv.ownBlock = some b) w2).alloc o).trans' (Keeps.of_grownBy hgr (fun k _ e => e)) (fun _ _ e => e)
 have hks : Keeps (fun b => b = sb) w5 (w5.setCell ⟨sb, 1, none⟩ (.slice ao5 (src.funcs.length + 1) cap5)) := mB
 have hgg := a8 hg
 have hff := a8 hf
 have hge : ∀ b, fv.ownBlock = some b -> wl.heap.size <= b /\ b < wr.heap.size := hff
 have hoe : ∀ b, gv.ownBlock = some b -> wl.heap.size <= b /\ b < wr.heap.size := hgg
 have hdis : ∀ b, gv.ownBlock = some b -> ¬ fv.ownBlock = some b := fun b e e2 => h7 b e e2
 have hb5 : Blk w5 sb [gv, fv] := (hb.keeps hk (fun e => by have : sb = rb := e; omega)).keeps hk5 (fun e => by have := (hge sb e).1; omega)
 have hgn : ∀ b, (Value.slice ao5 (src.funcs.length + 1) cap5).ownBlock = some b -> wl.heap.size <= b := fun b e => by
  rcases hnew with h3 | h3
  ·exact (hge b (h3 ▸ e)).1
  ·rw [h3] at e; have := Option.some.inj e; omega
 have hnd : ∀ b, (Value.slice ao5 (src.funcs.length + 1) cap5).ownBlock = some b -> gv.ownBlock ≠ some b := fun b e e2 => by
  rcases hnew with h3 | h3
  ·exact hdis b e2 (h3 ▸ e)
  ·rw [h3] at e; have := Option.some.inj e; have := (hoe b e2).2; omega
 have hs5 := hk5.size
 have hss := hks.size
 have hother : (w5.setCell ⟨sb, 1, none⟩ (.slice ao5 (src.funcs.length + 1) cap5)).ownsRow wl.heap.size 54 2 gv src.globals.length (bQ src.globals) :=
  hks.row (hk5.row (hk.row hg (fun b e e2 => by have := (hoe b e).1; have : b = rb := e2; omega)) (fun b e => hdis b e)) (fun b e e2 => by have := (hoe b e).1; have : b = sb := e2; omega)
 have hrow2 : RowF w2 (fun b => wl.heap.size <= b /\ some b ≠ gv.ownBlock /\ some b ≠ fv.ownBlock /\ some b ≠ (Value.slice ao5 (src.funcs.length + 1) cap5).ownBlock) fvals src.funcs := RowF.mono (fun b hb e => by
  refine ⟨e.1, e.2.1, e.2.2, fun h2 => ?_⟩
  rcases hnew with h3 | h3
  ·exact e.2.2 (by rw [<- h3]; exact h2)
  ·rw [h3] at h2; have := Option.some.inj h2; omega) _ _ (RowF.keeps hk (fun b e e2 => by have := e.1; have : b = rb := e2; omega) _ _ hR)
 have hrow5 : RowF (w5.setCell ⟨sb, 1, none⟩ (.slice ao5 (src.funcs.length + 1) cap5)) (fun b => wl.heap.size <= b /\ some b ≠ gv.ownBlock /\ some b ≠ (Value.slice ao5 (src.funcs.length + 1) cap5).ownBlock) fvals src.funcs := RowF.mono (fun b _ e => ⟨e.1, e.2.1, e.2.2.2⟩) _ _ (RowF.keeps hks (fun b e e2 => by have := e.1; have : b = sb := e2; omega) _ _ (RowF.keeps hk5 (fun b e e2 => e.2.2.1 e2.symm) _ _ hrow2))
 have hs2 : FuC w2 (fun b => wl.heap.size <= b /\ some b ≠ gv.ownBlock /\ some b ≠ fv.ownBlock /\ some b ≠ (Value.slice ao5 (src.funcs.length + 1) cap5).ownBlock) vs g := FuC.mono (fun b hb e => by
  have h1 : wr.heap.size <= b := e
  refine ⟨by omega, fun h2 => by have := (hgg b h2.symm).2; omega, fun h2 => by have := (hff b h2.symm).2; omega, fun h2 => ?_⟩
  rcases hnew with h3 | h3
  ·have := (hff b (by rw [<- h3]; exact h2.symm)).2; omega
  ·rw [h3] at h2; have := Option.some.inj h2; omega) hs
 have hs5' : FuC (w5.setCell ⟨sb, 1, none⟩ (.slice ao5 (src.funcs.length + 1) cap5)) (fun b => wl.heap.size <= b /\ some b ≠ gv.ownBlock /\ some b ≠ (Value.slice ao5 (src.funcs.length + 1) cap5).ownBlock) vs g := FuC.mono (fun b _ e => ⟨e.1, e.2.1, e.2.2.2⟩) ((hs2.keeps hk5 (fun b e e2 => e.2.2.1 e2.symm)).keeps hks (fun b e e2 => by have := e.1; have : b = sb := e2; omega))
 refine ⟨(hr.keeps hk5 (fun b e => by have := (hge b e).1; omega)).keeps hks (fun b e => by have : b = sb := e; omega), ((h.env.own hk).keeps hk5 (fun b e => by have := (hge b e).1; omega)).keeps hks (fun b e => by have : b = sb := e; omega), ((h.kp.trans hk).trans' hk5 (fun i hi e => by have := (hge i e).1; omega)).trans' hks (fun i hi e => by have : i = sb := e; omega), ((h.kl.trans (hk.mono (fun _ _ e => Or.inl e))).trans' hk5 (fun i hi e => by have := (hge i e).1; omega)).trans (hks.mono (fun _ _ e => Or.inr e)), ⟨gv, _, fvals ++ vs, hb5.set 1 (.slice ao5 (src.funcs.length + 1) cap5) (by simp), hother, ?_, RowF.snoc hs5' _ _ hrow5, h5, fun e => absurd e (by simp), fun b e e2 => hnd b e2 e⟩, ⟨hlo.1, hlo.2.1, hlo.2.2.1, by omega⟩, hev⟩
 have h9 := hks.row HO (fun b e e2 => by have := hgn b e; have : b = sb := e2; omega)
 rw [show (⟨src.globals, src.funcs ++ [g]⟩ : Src).funcs.length = src.funcs.length + 1 by simp]
 exact h9
def zG (w : World) (F : Nat -> Prop) (src : Src) (gv fv : Value) : Prop := fA w F gv src.globals /\ eL w F fv src.funcs
def SrcO (w : World) (B : Nat) (src : Src) (gv fv : Value) : Prop := ∃ fvals, w.ownsRow B 54 2 gv src.globals.length (bQ src.globals) /\ w.ownsRow B 51 5 fv src.funcs.length fvals ∧
 RowF w (fun b => B <= b /\ some b ≠ gv.ownBlock /\ some b ≠ fv.ownBlock) fvals src.funcs /\ (src.globals = [] -> gv = .slice none 0 0) /\ (src.funcs = [] -> fv = .slice none 0 0) /\ ∀ b, gv.ownBlock = some b -> fv.ownBlock ≠ some b
theorem SrcO.keeps {B : Nat} {S : Nat -> Prop} {src : Src} {gv fv : Value} (h : SrcO w B src gv fv) (hk : Keeps S w w') (hF : ∀ b, B <= b -> ¬ S b) : SrcO w' B src gv fv := by
 obtain ⟨fvals, h2, h3, h4, h5, h6, h7⟩ := h
 exact ⟨fvals, hk.row h2 (fun b e e2 => hF b (a8 h2 b e).1 e2), hk.row h3 (fun b e e2 => hF b (a8 h3 b e).1 e2), RowF.keeps hk (fun b e => hF b e.1) _ _ h4, h5, h6, h7⟩
theorem SrcO.mono {B C : Nat} (hB : C <= B) {src : Src} {gv fv : Value} (h : SrcO w B src gv fv) : SrcO w C src gv fv := by
 obtain ⟨fvals, h2, h3, h4, h5, h6, h7⟩ := h
 have up : ∀ {e : TypeId} {size : Nat} {v : Value} {k : Nat} {xs : List Value}, w.ownsRow B e size v k xs -> w.ownsRow C e size v k xs := fun h => by
  refine ⟨h.1, ?_⟩
  rcases h.2 with h | ⟨g, cap, cur, a1, a2, a3⟩
  ·exact Or.inl h
  ·exact Or.inr ⟨g, cap, cur, a1, Nat.le_trans hB a2, a3⟩
 exact ⟨fvals, up h2, up h3, RowF.mono (fun b _ e => ⟨Nat.le_trans hB e.1, e.2⟩) _ _ h4, h5, h6, h7⟩
theorem SrcO.form {B : Nat} {src : Src} {gv fv : Value} (h : SrcO w B src gv fv) : (∃ a l c, gv = .slice a l c) /\ ∃ a l c, fv = .slice a l c := by
 obtain ⟨fvals, h2, h3, _⟩ := h
 refine ⟨?_, ?_⟩
 ·rcases h2.2 with ⟨h, _⟩ | ⟨g, cap, cur, h1, _⟩
  ·exact ⟨_, _, _, h⟩
  ·exact ⟨_, _, _, h1⟩
 ·rcases h3.2 with ⟨h, _⟩ | ⟨g, cap, cur, h1, _⟩
  ·exact ⟨_, _, _, h⟩
  ·exact ⟨_, _, _, h1⟩
theorem ProgJ.src {wl wr : World} {sb m : Nat} {G : Res Src -> Prop} {src : Src} (h : ProgJ w wl rb tv E sb G wr m src) : ∃ gv fv, Blk wr sb [gv, fv] /\ SrcO wr wl.heap.size src gv fv := by
 obtain ⟨gv, fv, fvals, h1, h2⟩ := h.row
 exact ⟨gv, fv, h1, fvals, h2⟩
def L5 (w w' : World) (src : Src) (v : Value) : Prop := ∃ gv fv, v = .agg #[gv, fv] /\ SrcO w' w.heap.size src gv fv
theorem sT : ∀ (f : Nat) (acc : List Pa) (n : Nat) (x : List Pa) (m : Nat), params E f acc n = .ok x m -> n <= m
 | 0, _, _, _, _, h => by rw [params] at h; cases h
 | f + 1, acc, n, x, m, h => by
  rw [j0] at h
  obtain ⟨t, n1, h1, h⟩ := aA h
  have a1 := aS h1
  by_cases q : kindV (pk E n1).text = 0
  ·rw [if_pos q] at h; exact (aP h).elim
  rw [if_neg q] at h
  by_cases q2 : (pk E (n1 + 1)).text = cB
  ·rw [if_pos q2] at h
   have := sT f _ _ _ _ h
   omega
  ·rw [if_neg q2] at h
   obtain ⟨_, n2, h2, h⟩ := aA h
   have := aW h2
   cases h; omega
theorem xB {f n m : Nat} {g : Fu} (h : Tr.function E f n = .ok g m) : n < m := by
 unfold Tr.function at h
 obtain ⟨_, n1, h1, h⟩ := aA h
 obtain ⟨_, n2, h2, h⟩ := aA h
 obtain ⟨_, n3, h3, h⟩ := aA h
 obtain ⟨_, n4, h4, h⟩ := aA h
 obtain ⟨_, n5, h5, h⟩ := aA h
 have a1 := aW h1
 have a2 := aS h2
 have a3 := aW h3
 have a5 := (kB f).block _ _ _ _ h5
 have a4 : n3 <= n4 := by
  by_cases q : (pk E n3).text = tRp
  ·rw [if_pos q] at h4; cases h4; omega
  ·rw [if_neg q] at h4; exact sT f _ _ _ _ h4
 cases h
 split at a5 <;> omega
theorem sU {n m : Nat} {g : Fu} (h : Ev (fun f => Tr.function E f n) (.ok g m)) : n < m := by
 obtain ⟨f, hf⟩ := h.get
 exact xB hf
theorem xC (w : World) (h : RdAt w rb tv E n 0) (hE : TEnv rb E w) : Calls Tryz.prog 67 #[.pointer (some ⟨rb, 0, none⟩)] w fun e w' => ∃ r, Ev (fun f => Tr.program E f ⟨[], []⟩ n) r /\ bL L5 w w' rb tv E 0 r e := by
 obtain ⟨wl, hwl⟩ : ∃ wl, wl = ((w.alloc (.cells #[.slice none 0 0, .slice none 0 0] 26)).alloc (.cells #[.slice none 0 0, .slice none 0 0] 26)) := ⟨_, rfl⟩
 have hbl : Below w.heap.size w wl := by rw [hwl]; exact ((Keeps.refl (fun _ => False) w).alloc _).alloc _ |>.below (Nat.le_refl _) (fun _ _ e => e.elim)
 have hrv : Blk wl w.heap.size [.slice none 0 0, .slice none 0 0] := by rw [hwl]; exact (Blk.new' w [.slice none 0 0, .slice none 0 0] _ rfl).keeps (S := fun _ => False) ((Keeps.refl _ _).alloc _) id
 have hsrc : Blk wl (w.heap.size + 1) [.slice none 0 0, .slice none 0 0] := by rw [hwl]; exact Blk.new' _ [.slice none 0 0, .slice none 0 0] _ (by simp)
 have hszl : wl.heap.size = w.heap.size + 2 := by rw [hwl]; simp
 have HI0 : Hid (ProgJ w wl rb tv E (w.heap.size + 1) (fun r => Ev (fun f => Tr.program E f ⟨[], []⟩ n) r) wl n ⟨[], []⟩) := zz ⟨h.fresh hbl, hE.fresh hbl, Keeps.of_new hbl, Keeps.refl _ _, ⟨_, _, [], hsrc, World.ownsRow_nil _ _ _ _, World.ownsRow_nil _ _ _ _, rfl, fun _ => rfl, fun _ => rfl, fun b e => by cases e⟩, ⟨h.lt, Nat.le_succ _, by omega, Nat.le_refl _⟩, fun _ h => h⟩
 have HRVL := zz hrv
 have HSZL := zz hszl
 have HLT := zz h.lt
 have e118 : (⟨#[118, 97, 114]⟩ : ByteArray).data.toList = pD := rfl
 have e102 : (⟨#[102, 117, 110, 99]⟩ : ByteArray).data.toList = kW := rfl
 obtain ⟨iG, hiG, hzG0, hzG1, hzG2⟩ := mC o6
 obtain ⟨iF, hiF, hzF0, hzF1, hzF2⟩ := mC sO
 clear h hE hbl hrv hsrc hszl
 go_enter Tryz.func67, Tryz.ntmps67
 go_wp2_with fail
 rw [<- hwl]
 clear hwl
 go_loopw [] (fun wr => ∃ m src, ProgJ w wl rb tv E (w.heap.size + 1) (fun r => Ev (fun f => Tr.program E f ⟨[], []⟩ n) r) wr m src) (fun wr => E.toks.length - nG wr rb)
 case atStart => exact ⟨n, ⟨[], []⟩, HI0.out⟩
 case round =>
  obtain ⟨m, src, hj⟩ := hrel
  have HJ := zz hj
  have HEN := zz (CS wr hj.rd)
  clear hj
  by_cases hen : E.toks.length <= m
  ·rw [decide_eq_true hen] at HEN
   have HN := zz hen
   clear hen
   go_wp2_with fail
   refine HEN.out.mono ?_
   rintro e w1 ⟨rfl, q, hq⟩
   have hb1 : Below wr.heap.size wr w1 := by rw [hq]; exact dO (Below.refl _ _) q
   have hj1 := HJ.out.on (G2 := (fun r => Ev (fun f => Tr.program E f ⟨[], []⟩ n) r)) (Keeps.of_new hb1) (HJ.out.rd.fresh hb1) HJ.out.ev
   obtain ⟨gv, fv, hb, hs⟩ := hj1.src
   obtain ⟨⟨ga, gl, gc, rfl⟩, fa, fl, fc, rfl⟩ := hs.form
   have hrv := HRVL.out.keeps hj1.kl (fun e => by have := HLT.out; omega)
   have c0 := hb.at_ 0 _ rfl
   have c1 := hb.at_ 1 _ rfl
   have r0 := hrv.at_ 0 _ rfl
   have r1 := hrv.at_ 1 _ rfl
   have y0 := hrv.free 0
   have y1 := hrv.free 1
   have HS1 := zz hs
   have HJ1 := zz hj1
   clear hq hb1 hj1 hb hs hrv
   go_wp2_with fail
   have hks : Keeps (fun b => b = w.heap.size) w1 ((w1.setCell ⟨w.heap.size, 0, none⟩ (.slice ga gl gc)).setCell ⟨w.heap.size, 1, none⟩ (.slice fa fl fc)) := mP
   have hlt0 := HLT.out
   have hlo := HJ1.out.lo
   refine bodyPost_ret (v := .agg #[.slice ga gl gc, .slice fa fl fc]) (by simp [results, Tryz.results67, go_sem, r0, r1]) rfl ⟨.ok src m, HJ.out.ev _ (Ev.now (fun e => by cases e) fun f => by rw [gU, if_pos HN.out]), _, rfl, ⟨_, _, rfl, SrcO.mono (by omega) (HS1.out.keeps hks (fun b e e2 => by omega))⟩, HJ1.out.rd.keeps hks (fun b e => by omega), HJ1.out.kp.trans' hks (fun i hi e => by omega)⟩
  ·rw [decide_eq_false hen] at HEN
   have HN := zz hen
   clear hen
   go_wp2_with fail
   refine HEN.out.mono ?_
   rintro e w1 ⟨rfl, q, hq⟩
   have hb1 : Below wr.heap.size wr w1 := by rw [hq]; exact dO (Below.refl _ _) q
   have hj1 := HJ.out.on (G2 := (fun r => Ev (fun f => Tr.program E f ⟨[], []⟩ n) r)) (Keeps.of_new hb1) (HJ.out.rd.fresh hb1) HJ.out.ev
   have HJ1 := zz hj1
   have HIS := fP ⟨#[118, 97, 114]⟩ w1 hj1.rd
   rw [e118] at HIS
   have HI := zz HIS
   clear hq hb1 hj1 HIS
   go_wp2_with fail
   by_cases hv : (pk E m).text = pD
   ·rw [decide_eq_true hv] at HI
    have HV := zz hv
    clear hv
    refine HI.out.mono ?_
    rintro e w2 ⟨rfl, hb2⟩
    have hj2 := HJ1.out.on (G2 := (fun r => Ev (fun f => Tr.program E f ⟨[], []⟩ n) r)) (Keeps.of_new hb2) (HJ1.out.rd.fresh hb2) HJ.out.ev
    have HJ2 := zz hj2
    clear hb2 hj2
    obtain ⟨gv, fv, fvals, hblk, hgo, hfo, hrf, h5, h6, h7⟩ := HJ2.out.row
    have hform : ∃ ao cap, gv = .slice ao src.globals.length cap := by
     rcases hgo.2 with ⟨e1, e2⟩ | ⟨g, cap, cur, e1, _⟩
     ·exact ⟨none, 0, by rw [e1, e2]⟩
     ·exact ⟨_, _, e1⟩
    obtain ⟨ao0, cap0, rfl⟩ := hform
    have c0 := hblk.at_ 0 _ rfl
    have HBLK := zz hblk
    have HGO := zz hgo
    have HFO := zz hfo
    have HRF := zz hrf
    have H5 := zz h5
    have H6 := zz h6
    have H7 := zz h7
    have HLO := zz HJ2.out.lo
    clear hblk hgo hfo hrf h5 h6 h7
    by_cases h8 : 8 <= src.globals.length
    ·have HRM : Hid (Calls Tryz.prog 111 #[.pointer (some ⟨rb, 0, none⟩), .int .i64 (src.globals.length : Nat), .int .i64 8] w2 fun e w' => Threw w2 w' rb 4 (pk E m).at_ e) := zz ((fV src.globals.length 8 w2 HJ2.out.rd).mono fun e w' h => by rw [if_pos h8] at h; exact h)
     have H8 := zz h8
     clear h8
     go_wp2_with fail
     refine HRM.out.mono ?_
     rintro e w3 hth
     have hth2 := hth.own HLT.out HJ2.out.kp
     obtain ⟨b, rfl⟩ := aB hth
     refine ⟨rfl, .bad 4 (pk E m).at_, HJ.out.ev _ (Ev.now (fun e => by cases e) fun f => ?_), hth2⟩
     rw [gU, if_neg HN.out, if_pos HV.out, if_pos H8.out]; rfl
    ·have HRM : Hid (Calls Tryz.prog 111 #[.pointer (some ⟨rb, 0, none⟩), .int .i64 (src.globals.length : Nat), .int .i64 8] w2 fun e w' => e = .returned (.tuple #[]) /\ w2 = w') := zz ((fV src.globals.length 8 w2 HJ2.out.rd).mono fun e w' h => by rw [if_neg h8] at h; exact h)
     have HSEQ : Hid (∀ r, Ev (fun f => (fL E m).bind fun g m1 => (aF E 5 m1).bind fun _ m2 => Tr.program E f ⟨src.globals ++ [g], src.funcs⟩ m2) r -> Ev (fun f => Tr.program E f ⟨[], []⟩ n) r) := zz fun r hr => HJ.out.ev _ (Ev.step (h := fun f => (fL E m).bind fun g m1 => (aF E 5 m1).bind fun _ m2 => Tr.program E f ⟨src.globals ++ [g], src.funcs⟩ m2) (fun f => by
      rw [gU, if_neg HN.out, if_pos HV.out, if_neg h8]
      unfold fL
      simp only [mQ]
      rfl) hr)
     have hl8 : src.globals.length <= 12 := by omega
     have HML : Hid (src.globals.length + 1 <= maxLen) := zz (by unfold maxLen; omega)
     have HBY : Hid ((src.globals.length + 1) * 24 <= 140737488355328) := zz (by omega)
     clear h8 hl8
     go_wp2_with fail
     refine HRM.out.mono ?_
     rintro e w3 ⟨rfl, rfl⟩
     go_wp2_with fail
     change Code.wp _ _ _ _ _
     have c0d : w2.drew.cell? ⟨w.heap.size + 1, 0, none⟩ = some (.slice ao0 src.globals.length cap0) := c0
     have HRD := zz (HJ2.out.rd.fresh (Below.drew (Below.refl _ _)))
     have HCC := zz (yX w2.drew HRD.out HV.out)
     refine wp_region_held_drew (S := fun _ => True) (by kernel_rfl) trivial (fun hHeld => ?_)
     refine tk 0 17 (.pointer (some ⟨w.heap.size + 1, 0, none⟩)) rfl (.inl ⟨by rfl, ?_⟩) hHeld ?_
     ·intro W9 hSW; (try dsimp only at hSW); go_simp
     try simp only [Act.put, sA, sB, sC]
     refine tk 2 19 (.pointer (some ⟨rb, 0, none⟩)) rfl (.inl ⟨by rfl, ?_⟩) hHeld ?_
     ·intro W9 hSW; (try dsimp only at hSW); go_simp
     try simp only [Act.put, sA, sB, sC]
     refine wpAnyH_ready (rs := [1, 3]) (by kernel_rfl) (by simp) ?_
     refine AllReadyH.cons (o := { dst := some 18, op := _, type := _, pos := _, after := _, guard := _ }) rfl (fun K hK => ?_) (AllReadyH.cons (o := { dst := some 20, op := _, type := _, pos := _, after := _, guard := _ }) rfl (fun K hK => ?_) AllReadyH.nil)
     ·go_simp
      refine hK.out _ _ trivial (fun hHeld => ?_)
      clear hK K
      refine ra 3 (some 20) rfl fun K hK => ?_
      go_simp
      go_at_call 112
      refine HCC.out.mono ?_
      rintro e w4 hsay
      rcases hq : fL E m with _ | ⟨k, a⟩ | ⟨g, m1⟩
      ·rw [hq] at hsay; exact hsay.elim
      ·rw [hq] at hsay
       have hsay' : Threw _ w4 rb k a e := hsay
       obtain ⟨b, rfl⟩ := aB hsay'
       exact ⟨rfl, .bad k a, HSEQ.out _ (Ev.pure (fun e => by cases e) fun _ => by rw [hq]; rfl), hsay'.own HLT.out HJ2.out.kp.drew⟩
      rw [hq] at hsay
      have HEV : Hid (∀ r, Ev (fun f => (aF E 5 m1).bind fun _ m2 => Tr.program E f ⟨src.globals ++ [g], src.funcs⟩ m2) r -> Ev (fun f => Tr.program E f ⟨[], []⟩ n) r) := zz fun r hr => HSEQ.out _ (by rw [hq]; exact hr)
      have HMM : Hid (m < m1) := zz (by
       unfold fL at hq
       obtain ⟨_, k, h1, h2⟩ := aA hq
       have := aS h1
       cases h2; omega)
      obtain ⟨v4, rfl, rfl, hr4, hk4⟩ := hsay
      have hkw : Keeps (fun b => b = rb) w2 w4 := ((Keeps.refl (fun b => b = rb) w2).drew).trans hk4
      have hb4 := HBLK.out.keeps hkw (fun e => by have := HLO.out; have : w.heap.size + 1 = rb := e; omega)
      have y4 := hb4.at_ 0 _ rfl
      have y5 := hb4.free 0
      have q4 : w.heap.size + 1 < w4.heap.size := hb4.lt
      have hown4 : w4.ownsRow wl.heap.size 54 2 (.slice ao0 src.globals.length cap0) src.globals.length (bQ src.globals) := hkw.row HGO.out (fun b e e2 => by have := (a8 HGO.out b e).1; have := HLO.out; have : b = rb := e2; omega)
      have hszw : wl.heap.size <= w4.heap.size := Nat.le_trans HLO.out.2.2.2 hkw.size
      have HH1 : Hid (∀ x ∈ [Value.string (mkT g.name), Value.int .i64 (g.at_ : Nat)], x.oneCell' = true) := zz (fun (x : Value) hx => by simp at hx; rcases hx with rfl | rfl <;> rfl)
      have HCN := zz (eR w4 [.string (mkT g.name), .int .i64 (g.at_ : Nat)] 54)
      have HOW := zz hown4
      have HR4 := zz hr4
      have HK4 := zz hkw
      have HSZ := zz hszw
      clear hr4 hk4 hkw hown4 hszw hb4
      refine hK.out _ _ trivial (fun hHeld => ?_)
      clear hK K
      refine ra 4 (some 21) rfl fun K hK => ?_
      go_simp
      refine hK.out _ _ trivial (fun hHeld => ?_)
      clear hK K
      refine ra 5 (some 22) rfl fun K hK => ?_
      refine cE rfl (.tmp 18) (.tmp 21) 23 54 rfl iG (.agg #[.string ByteArray.empty, .int .i64 0]) 2 24 Tryz.underlying23 hiG hzG0 hzG1 hzG2 rfl (by decide) wl.heap.size (.slice ao0 src.globals.length cap0) src.globals.length _ (World.ownsRow.alloc HOW.out _) HML.out HBY.out (by have := HSZ.out; simp; omega) ⟨w4.heap.size, 0, none⟩ _ rfl HCN.out HH1.out (by simp [Act.eval]) (by simp [Act.eval]) ?_
      intro ao' cap' w5 hown5 hgrow5 hnew
      have HNW : Hid ((Value.slice ao' (src.globals.length + 1) cap').ownBlock = (Value.slice ao0 src.globals.length cap0).ownBlock \/ (Value.slice ao' (src.globals.length + 1) cap').ownBlock = some (w4.heap.size + 1)) := zz (by simpa using hnew)
      clear hnew
      have hk5 : Keeps (fun b => (Value.slice ao0 src.globals.length cap0).ownBlock = some b) w4 w5 := ((Keeps.refl (fun b => (Value.slice ao0 src.globals.length cap0).ownBlock = some b) w4).alloc _).trans' (Keeps.of_grownBy hgrow5 (fun k _ e => e)) (fun _ _ e => e)
      have hnb : ¬ (Value.slice ao0 src.globals.length cap0).ownBlock = some (w.heap.size + 1) := fun e => by have := (a8 HOW.out _ e).1; have := HSZL.out; omega
      have y6 : w5.cell? ⟨w.heap.size + 1, 0, none⟩ = some (.slice ao0 src.globals.length cap0) := hk5.cell_of y4 hnb
      have y7 : w5.frozen? ⟨w.heap.size + 1, 0, none⟩ = false := by rw [hk5.frozen (p := ⟨w.heap.size + 1, 0, none⟩) q4 hnb]; exact y5
      have HO5 := zz hown5
      have HG5 := zz hgrow5
      clear hown5 hgrow5 hk5 hnb
      refine hK.out _ _ trivial (fun hHeld => ?_)
      clear hK K
      try simp only [Act.put, sA, sB, sC]
      refine tk 6 23 (.pointer (some ⟨w.heap.size + 1, 0, none⟩)) rfl (.inl ⟨by rfl, ?_⟩) hHeld ?_
      ·intro W9 hSW; (try dsimp only at hSW); go_simp
      try simp only [Act.put, sA, sB, sC]
      refine ra 7 none rfl fun K hK => ?_
      go_simp
      refine hK.out _ _ trivial (fun hHeld => ?_)
      clear hK K
      refine wpAnyH_done (by kernel_rfl) ?_ _
      have hj5 := HJ2.out.nextG (G2 := fun _ => True) (g := g) HBLK.out HGO.out HFO.out HRF.out H5.out H6.out H7.out HK4.out HR4.out HG5.out HO5.out HNW.out (fun _ _ => trivial)
      have HJ5 := zz hj5
      have HTK := zz (aX 5 (by decide) _ hj5.rd)
      clear hj5 y4 y5 y6 y7 c0 c0d q4
      go_wp2_with fail
      cases ht : aF E 5 m1 with
      | out => exact absurd ht (bR E _ _)
      | bad k a =>
       rw [ht] at HTK
       refine HTK.out.mono ?_
       rintro e w7 hth
       have hth2 := Threw.own hth HLT.out HJ5.out.kp
       obtain ⟨b, rfl⟩ := aB hth
       exact ⟨rfl, .bad k a, HEV.out _ (Ev.pure (fun e => by cases e) fun _ => by rw [ht]; rfl), hth2⟩
      | ok t m2 =>
       rw [ht] at HTK
       refine HTK.out.mono ?_
       rintro e w7 ⟨v7, rfl, _, hr7, hk7⟩
       have hm2 := aS ht
       have hj7 := HJ5.out.on (G2 := (fun r => Ev (fun f => Tr.program E f ⟨[], []⟩ n) r)) hk7 hr7 (fun r hr => HEV.out r (by rw [ht]; exact hr))
       have HJ7 := zz hj7
       have HM2 := zz hm2
       clear hj7 hr7 hk7 ht hm2
       go_wp2_with fail
       refine ⟨⟨m2, _, HJ7.out⟩, ?_⟩
       have h1 := HJ7.out.rd
       have h2 := HJ.out.rd
       rw [h1.pos, h2.pos]
       have := h1.hn
       have := HMM.out
       have := HM2.out
       omega
     ·go_simp
      go_at_call 112
      refine HCC.out.mono ?_
      rintro e w4 hsay
      rcases hq : fL E m with _ | ⟨k, a⟩ | ⟨g, m1⟩
      ·rw [hq] at hsay; exact hsay.elim
      ·rw [hq] at hsay
       have hsay' : Threw _ w4 rb k a e := hsay
       obtain ⟨b, rfl⟩ := aB hsay'
       exact ⟨rfl, .bad k a, HSEQ.out _ (Ev.pure (fun e => by cases e) fun _ => by rw [hq]; rfl), hsay'.own HLT.out HJ2.out.kp.drew⟩
      rw [hq] at hsay
      have HEV : Hid (∀ r, Ev (fun f => (aF E 5 m1).bind fun _ m2 => Tr.program E f ⟨src.globals ++ [g], src.funcs⟩ m2) r -> Ev (fun f => Tr.program E f ⟨[], []⟩ n) r) := zz fun r hr => HSEQ.out _ (by rw [hq]; exact hr)
      have HMM : Hid (m < m1) := zz (by
       unfold fL at hq
       obtain ⟨_, k, h1, h2⟩ := aA hq
       have := aS h1
       cases h2; omega)
      obtain ⟨v4, rfl, rfl, hr4, hk4⟩ := hsay
      have hkw : Keeps (fun b => b = rb) w2 w4 := ((Keeps.refl (fun b => b = rb) w2).drew).trans hk4
      have hb4 := HBLK.out.keeps hkw (fun e => by have := HLO.out; have : w.heap.size + 1 = rb := e; omega)
      have y4 := hb4.at_ 0 _ rfl
      have y5 := hb4.free 0
      have q4 : w.heap.size + 1 < w4.heap.size := hb4.lt
      have hown4 : w4.ownsRow wl.heap.size 54 2 (.slice ao0 src.globals.length cap0) src.globals.length (bQ src.globals) := hkw.row HGO.out (fun b e e2 => by have := (a8 HGO.out b e).1; have := HLO.out; have : b = rb := e2; omega)
      have hszw : wl.heap.size <= w4.heap.size := Nat.le_trans HLO.out.2.2.2 hkw.size
      have HH1 : Hid (∀ x ∈ [Value.string (mkT g.name), Value.int .i64 (g.at_ : Nat)], x.oneCell' = true) := zz (fun (x : Value) hx => by simp at hx; rcases hx with rfl | rfl <;> rfl)
      have HCN := zz (eR w4 [.string (mkT g.name), .int .i64 (g.at_ : Nat)] 54)
      have HOW := zz hown4
      have HR4 := zz hr4
      have HK4 := zz hkw
      have HSZ := zz hszw
      clear hr4 hk4 hkw hown4 hszw hb4
      refine hK.out _ _ trivial (fun hHeld => ?_)
      clear hK K
      refine wpAnyH_ready (rs := [1, 4]) (by kernel_rfl) (by simp) ?_
      refine AllReadyH.cons (o := { dst := some 18, op := _, type := _, pos := _, after := _, guard := _ }) rfl (fun K hK => ?_) (AllReadyH.cons (o := { dst := some 21, op := _, type := _, pos := _, after := _, guard := _ }) rfl (fun K hK => ?_) AllReadyH.nil)
      ·go_simp
       refine hK.out _ _ trivial (fun hHeld => ?_)
       clear hK K
       refine ra 4 (some 21) rfl fun K hK => ?_
       go_simp
       refine hK.out _ _ trivial (fun hHeld => ?_)
       clear hK K
       refine ra 5 (some 22) rfl fun K hK => ?_
       refine cE rfl (.tmp 18) (.tmp 21) 23 54 rfl iG (.agg #[.string ByteArray.empty, .int .i64 0]) 2 24 Tryz.underlying23 hiG hzG0 hzG1 hzG2 rfl (by decide) wl.heap.size (.slice ao0 src.globals.length cap0) src.globals.length _ (World.ownsRow.alloc HOW.out _) HML.out HBY.out (by have := HSZ.out; simp; omega) ⟨w4.heap.size, 0, none⟩ _ rfl HCN.out HH1.out (by simp [Act.eval]) (by simp [Act.eval]) ?_
       intro ao' cap' w5 hown5 hgrow5 hnew
       have HNW : Hid ((Value.slice ao' (src.globals.length + 1) cap').ownBlock = (Value.slice ao0 src.globals.length cap0).ownBlock \/ (Value.slice ao' (src.globals.length + 1) cap').ownBlock = some (w4.heap.size + 1)) := zz (by simpa using hnew)
       clear hnew
       have hk5 : Keeps (fun b => (Value.slice ao0 src.globals.length cap0).ownBlock = some b) w4 w5 := ((Keeps.refl (fun b => (Value.slice ao0 src.globals.length cap0).ownBlock = some b) w4).alloc _).trans' (Keeps.of_grownBy hgrow5 (fun k _ e => e)) (fun _ _ e => e)
       have hnb : ¬ (Value.slice ao0 src.globals.length cap0).ownBlock = some (w.heap.size + 1) := fun e => by have := (a8 HOW.out _ e).1; have := HSZL.out; omega
       have y6 : w5.cell? ⟨w.heap.size + 1, 0, none⟩ = some (.slice ao0 src.globals.length cap0) := hk5.cell_of y4 hnb
       have y7 : w5.frozen? ⟨w.heap.size + 1, 0, none⟩ = false := by rw [hk5.frozen (p := ⟨w.heap.size + 1, 0, none⟩) q4 hnb]; exact y5
       have HO5 := zz hown5
       have HG5 := zz hgrow5
       clear hown5 hgrow5 hk5 hnb
       refine hK.out _ _ trivial (fun hHeld => ?_)
       clear hK K
       try simp only [Act.put, sA, sB, sC]
       refine tk 6 23 (.pointer (some ⟨w.heap.size + 1, 0, none⟩)) rfl (.inl ⟨by rfl, ?_⟩) hHeld ?_
       ·intro W9 hSW; (try dsimp only at hSW); go_simp
       try simp only [Act.put, sA, sB, sC]
       refine ra 7 none rfl fun K hK => ?_
       go_simp
       refine hK.out _ _ trivial (fun hHeld => ?_)
       clear hK K
       refine wpAnyH_done (by kernel_rfl) ?_ _
       have hj5 := HJ2.out.nextG (G2 := fun _ => True) (g := g) HBLK.out HGO.out HFO.out HRF.out H5.out H6.out H7.out HK4.out HR4.out HG5.out HO5.out HNW.out (fun _ _ => trivial)
       have HJ5 := zz hj5
       have HTK := zz (aX 5 (by decide) _ hj5.rd)
       clear hj5 y4 y5 y6 y7 c0 c0d q4
       go_wp2_with fail
       cases ht : aF E 5 m1 with
       | out => exact absurd ht (bR E _ _)
       | bad k a =>
        rw [ht] at HTK
        refine HTK.out.mono ?_
        rintro e w7 hth
        have hth2 := Threw.own hth HLT.out HJ5.out.kp
        obtain ⟨b, rfl⟩ := aB hth
        exact ⟨rfl, .bad k a, HEV.out _ (Ev.pure (fun e => by cases e) fun _ => by rw [ht]; rfl), hth2⟩
       | ok t m2 =>
        rw [ht] at HTK
        refine HTK.out.mono ?_
        rintro e w7 ⟨v7, rfl, _, hr7, hk7⟩
        have hm2 := aS ht
        have hj7 := HJ5.out.on (G2 := (fun r => Ev (fun f => Tr.program E f ⟨[], []⟩ n) r)) hk7 hr7 (fun r hr => HEV.out r (by rw [ht]; exact hr))
        have HJ7 := zz hj7
        have HM2 := zz hm2
        clear hj7 hr7 hk7 ht hm2
        go_wp2_with fail
        refine ⟨⟨m2, _, HJ7.out⟩, ?_⟩
        have h1 := HJ7.out.rd
        have h2 := HJ.out.rd
        rw [h1.pos, h2.pos]
        have := h1.hn
        have := HMM.out
        have := HM2.out
        omega
      ·go_simp
       refine hK.out _ _ trivial (fun hHeld => ?_)
       clear hK K
       refine ra 1 (some 18) rfl fun K hK => ?_
       go_simp
       refine hK.out _ _ trivial (fun hHeld => ?_)
       clear hK K
       refine ra 5 (some 22) rfl fun K hK => ?_
       refine cE rfl (.tmp 18) (.tmp 21) 23 54 rfl iG (.agg #[.string ByteArray.empty, .int .i64 0]) 2 24 Tryz.underlying23 hiG hzG0 hzG1 hzG2 rfl (by decide) wl.heap.size (.slice ao0 src.globals.length cap0) src.globals.length _ (World.ownsRow.alloc HOW.out _) HML.out HBY.out (by have := HSZ.out; simp; omega) ⟨w4.heap.size, 0, none⟩ _ rfl HCN.out HH1.out (by simp [Act.eval]) (by simp [Act.eval]) ?_
       intro ao' cap' w5 hown5 hgrow5 hnew
       have HNW : Hid ((Value.slice ao' (src.globals.length + 1) cap').ownBlock = (Value.slice ao0 src.globals.length cap0).ownBlock \/ (Value.slice ao' (src.globals.length + 1) cap').ownBlock = some (w4.heap.size + 1)) := zz (by simpa using hnew)
       clear hnew
       have hk5 : Keeps (fun b => (Value.slice ao0 src.globals.length cap0).ownBlock = some b) w4 w5 := ((Keeps.refl (fun b => (Value.slice ao0 src.globals.length cap0).ownBlock = some b) w4).alloc _).trans' (Keeps.of_grownBy hgrow5 (fun k _ e => e)) (fun _ _ e => e)
       have hnb : ¬ (Value.slice ao0 src.globals.length cap0).ownBlock = some (w.heap.size + 1) := fun e => by have := (a8 HOW.out _ e).1; have := HSZL.out; omega
       have y6 : w5.cell? ⟨w.heap.size + 1, 0, none⟩ = some (.slice ao0 src.globals.length cap0) := hk5.cell_of y4 hnb
       have y7 : w5.frozen? ⟨w.heap.size + 1, 0, none⟩ = false := by rw [hk5.frozen (p := ⟨w.heap.size + 1, 0, none⟩) q4 hnb]; exact y5
       have HO5 := zz hown5
       have HG5 := zz hgrow5
       clear hown5 hgrow5 hk5 hnb
       refine hK.out _ _ trivial (fun hHeld => ?_)
       clear hK K
       try simp only [Act.put, sA, sB, sC]
       refine tk 6 23 (.pointer (some ⟨w.heap.size + 1, 0, none⟩)) rfl (.inl ⟨by rfl, ?_⟩) hHeld ?_
       ·intro W9 hSW; (try dsimp only at hSW); go_simp
       try simp only [Act.put, sA, sB, sC]
       refine ra 7 none rfl fun K hK => ?_
       go_simp
       refine hK.out _ _ trivial (fun hHeld => ?_)
       clear hK K
       refine wpAnyH_done (by kernel_rfl) ?_ _
       have hj5 := HJ2.out.nextG (G2 := fun _ => True) (g := g) HBLK.out HGO.out HFO.out HRF.out H5.out H6.out H7.out HK4.out HR4.out HG5.out HO5.out HNW.out (fun _ _ => trivial)
       have HJ5 := zz hj5
       have HTK := zz (aX 5 (by decide) _ hj5.rd)
       clear hj5 y4 y5 y6 y7 c0 c0d q4
       go_wp2_with fail
       cases ht : aF E 5 m1 with
       | out => exact absurd ht (bR E _ _)
       | bad k a =>
        rw [ht] at HTK
        refine HTK.out.mono ?_
        rintro e w7 hth
        have hth2 := Threw.own hth HLT.out HJ5.out.kp
        obtain ⟨b, rfl⟩ := aB hth
        exact ⟨rfl, .bad k a, HEV.out _ (Ev.pure (fun e => by cases e) fun _ => by rw [ht]; rfl), hth2⟩
       | ok t m2 =>
        rw [ht] at HTK
        refine HTK.out.mono ?_
        rintro e w7 ⟨v7, rfl, _, hr7, hk7⟩
        have hm2 := aS ht
        have hj7 := HJ5.out.on (G2 := (fun r => Ev (fun f => Tr.program E f ⟨[], []⟩ n) r)) hk7 hr7 (fun r hr => HEV.out r (by rw [ht]; exact hr))
        have HJ7 := zz hj7
        have HM2 := zz hm2
        clear hj7 hr7 hk7 ht hm2
        go_wp2_with fail
        refine ⟨⟨m2, _, HJ7.out⟩, ?_⟩
        have h1 := HJ7.out.rd
        have h2 := HJ.out.rd
        rw [h1.pos, h2.pos]
        have := h1.hn
        have := HMM.out
        have := HM2.out
        omega
   ·rw [decide_eq_false hv] at HI
    have HV := zz hv
    clear hv
    refine HI.out.mono ?_
    rintro e w3 ⟨rfl, hb3⟩
    have hj3 := HJ1.out.on (G2 := (fun r => Ev (fun f => Tr.program E f ⟨[], []⟩ n) r)) (Keeps.of_new hb3) (HJ1.out.rd.fresh hb3) HJ.out.ev
    have HJ3 := zz hj3
    have HIS := fP ⟨#[102, 117, 110, 99]⟩ w3 hj3.rd
    rw [e102] at HIS
    have HI2 := zz HIS
    clear hb3 hj3 HIS HI
    go_wp2_with fail
    by_cases hf : (pk E m).text = kW
    ·rw [decide_eq_true hf] at HI2
     have HF := zz hf
     clear hf
     refine HI2.out.mono ?_
     rintro e w2 ⟨rfl, hb2⟩
     have hj2 := HJ3.out.on (G2 := (fun r => Ev (fun f => Tr.program E f ⟨[], []⟩ n) r)) (Keeps.of_new hb2) (HJ3.out.rd.fresh hb2) HJ.out.ev
     have HJ2 := zz hj2
     clear hb2 hj2
     obtain ⟨gv, fv, fvals, hblk, hgo, hfo, hrf, h5, h6, h7⟩ := HJ2.out.row
     have hform : ∃ ao cap, fv = .slice ao src.funcs.length cap := by
      rcases hfo.2 with ⟨e1, e2⟩ | ⟨g, cap, cur, e1, _⟩
      ·exact ⟨none, 0, by rw [e1, e2]⟩
      ·exact ⟨_, _, e1⟩
     obtain ⟨ao0, cap0, rfl⟩ := hform
     have c0 := hblk.at_ 1 _ rfl
     have HBLK := zz hblk
     have HGO := zz hgo
     have HFO := zz hfo
     have HRF := zz hrf
     have H5 := zz h5
     have H6 := zz h6
     have H7 := zz h7
     have HLO := zz HJ2.out.lo
     clear hblk hgo hfo hrf h5 h6 h7
     by_cases h8 : 12 <= src.funcs.length
     ·have HRM : Hid (Calls Tryz.prog 111 #[.pointer (some ⟨rb, 0, none⟩), .int .i64 (src.funcs.length : Nat), .int .i64 12] w2 fun e w' => Threw w2 w' rb 4 (pk E m).at_ e) := zz ((fV src.funcs.length 12 w2 HJ2.out.rd).mono fun e w' h => by rw [if_pos h8] at h; exact h)
      have H8 := zz h8
      clear h8
      go_wp2_with fail
      refine HRM.out.mono ?_
      rintro e w3 hth
      have hth2 := hth.own HLT.out HJ2.out.kp
      obtain ⟨b, rfl⟩ := aB hth
      refine ⟨rfl, .bad 4 (pk E m).at_, HJ.out.ev _ (Ev.now (fun e => by cases e) fun f => ?_), hth2⟩
      rw [gU, if_neg HN.out, if_neg HV.out, if_pos HF.out, if_pos H8.out]; rfl
     ·have HRM : Hid (Calls Tryz.prog 111 #[.pointer (some ⟨rb, 0, none⟩), .int .i64 (src.funcs.length : Nat), .int .i64 12] w2 fun e w' => e = .returned (.tuple #[]) /\ w2 = w') := zz ((fV src.funcs.length 12 w2 HJ2.out.rd).mono fun e w' h => by rw [if_neg h8] at h; exact h)
      have HSEQ : Hid (∀ r, Ev (fun f => (Tr.function E f m).bind fun g m1 => (aF E 5 m1).bind fun _ m2 => Tr.program E f ⟨src.globals, src.funcs ++ [g]⟩ m2) r -> Ev (fun f => Tr.program E f ⟨[], []⟩ n) r) := zz fun r hr => HJ.out.ev _ (Ev.step (h := fun f => (Tr.function E f m).bind fun g m1 => (aF E 5 m1).bind fun _ m2 => Tr.program E f ⟨src.globals, src.funcs ++ [g]⟩ m2) (fun f => by
       rw [gU, if_neg HN.out, if_neg HV.out, if_pos HF.out, if_neg h8]) hr)
      have hl8 : src.funcs.length <= 12 := by omega
      have HML : Hid (src.funcs.length + 1 <= maxLen) := zz (by unfold maxLen; omega)
      have HBY : Hid ((src.funcs.length + 1) * 80 <= 140737488355328) := zz (by omega)
      clear h8 hl8
      go_wp2_with fail
      refine HRM.out.mono ?_
      rintro e w3 ⟨rfl, rfl⟩
      go_wp2_with fail
      change Code.wp _ _ _ _ _
      have c0d : w2.drew.cell? ⟨w.heap.size + 1, 1, none⟩ = some (.slice ao0 src.funcs.length cap0) := c0
      have HRD := zz (HJ2.out.rd.fresh (Below.drew (Below.refl _ _)))
      have HCC := zz (uU w2.drew HRD.out (HJ2.out.env.fresh (Below.drew (Below.refl _ _))))
      refine wp_region_held_drew (S := fun _ => True) (by kernel_rfl) trivial (fun hHeld => ?_)
      refine tk 0 32 (.pointer (some ⟨w.heap.size + 1, 1, none⟩)) rfl (.inl ⟨by rfl, ?_⟩) hHeld ?_
      ·intro W9 hSW; (try dsimp only at hSW); go_simp
      try simp only [Act.put, sA, sB, sC]
      refine tk 2 34 (.pointer (some ⟨rb, 0, none⟩)) rfl (.inl ⟨by rfl, ?_⟩) hHeld ?_
      ·intro W9 hSW; (try dsimp only at hSW); go_simp
      try simp only [Act.put, sA, sB, sC]
      refine wpAnyH_ready (rs := [1, 3]) (by kernel_rfl) (by simp) ?_
      refine AllReadyH.cons (o := { dst := some 33, op := _, type := _, pos := _, after := _, guard := _ }) rfl (fun K hK => ?_) (AllReadyH.cons (o := { dst := some 35, op := _, type := _, pos := _, after := _, guard := _ }) rfl (fun K hK => ?_) AllReadyH.nil)
      ·go_simp
       refine hK.out _ _ trivial (fun hHeld => ?_)
       clear hK K
       refine ra 3 (some 35) rfl fun K hK => ?_
       go_simp
       go_at_call 113
       refine HCC.out.mono ?_
       rintro e w4 ⟨r, hev, hsay⟩
       rcases r with _ | ⟨k, a⟩ | ⟨g, m1⟩
       ·exact hsay.elim
       ·have hsay' : Threw _ w4 rb k a e := hsay
        obtain ⟨b, rfl⟩ := aB hsay'
        exact ⟨rfl, .bad k a, HSEQ.out _ (Ev.bad hev), hsay'.own HLT.out HJ2.out.kp.drew⟩
       have HEV : Hid (∀ r, Ev (fun f => (aF E 5 m1).bind fun _ m2 => Tr.program E f ⟨src.globals, src.funcs ++ [g]⟩ m2) r -> Ev (fun f => Tr.program E f ⟨[], []⟩ n) r) := zz fun r hr => HSEQ.out _ (Ev.then hev hr)
       have HMM : Hid (m < m1) := zz (sU hev)
       obtain ⟨v4, rfl, ⟨vs, rfl, hfc⟩, hr4, hk4⟩ := hsay
       have hfc' := hfc
       obtain ⟨pv, bv, e2, hpf, hbf⟩ := hfc'
       obtain ⟨pa, pc, rfl⟩ := hpf.form
       obtain ⟨la, ll, lc, rfl⟩ := hbf.1.form
       have HFC := zz hfc
       clear hfc hpf hbf hev
       unfold fu1 at e2
       have hkw : Keeps (fun b => b = rb) w2 w4 := ((Keeps.refl (fun b => b = rb) w2).drew).trans hk4
       have hb4 := HBLK.out.keeps hkw (fun e => by have := HLO.out; have : w.heap.size + 1 = rb := e; omega)
       have y4 := hb4.at_ 1 _ rfl
       have y5 := hb4.free 1
       have q4 : w.heap.size + 1 < w4.heap.size := hb4.lt
       have hown4 : w4.ownsRow wl.heap.size 51 5 (.slice ao0 src.funcs.length cap0) src.funcs.length fvals := hkw.row HFO.out (fun b e e2 => by have := (a8 HFO.out b e).1; have := HLO.out; have : b = rb := e2; omega)
       have hszw : wl.heap.size <= w4.heap.size := Nat.le_trans HLO.out.2.2.2 hkw.size
       have HH1 : Hid (∀ x ∈ vs, x.oneCell' = true) := zz (fun (x : Value) hx => by rw [e2] at hx; simp at hx; rcases hx with rfl | rfl | rfl | rfl | rfl <;> rfl)
       have HCN := zz (eR w4 vs 51)
       have HOW := zz hown4
       have HR4 := zz hr4
       have HK4 := zz hkw
       have HSZ := zz hszw
       clear hr4 hk4 hkw hown4 hszw hb4
       subst e2
       refine hK.out _ _ trivial (fun hHeld => ?_)
       clear hK K
       refine ra 4 (some 36) rfl fun K hK => ?_
       go_simp
       refine hK.out _ _ trivial (fun hHeld => ?_)
       clear hK K
       refine ra 5 (some 37) rfl fun K hK => ?_
       refine cE rfl (.tmp 33) (.tmp 36) 24 51 rfl iF (.agg #[.string ByteArray.empty, .int .i64 0, .slice none 0 0, .int .i64 0, .slice none 0 0]) 5 80 Tryz.underlying24 hiF hzF0 hzF1 hzF2 rfl (by decide) wl.heap.size (.slice ao0 src.funcs.length cap0) src.funcs.length _ (World.ownsRow.alloc HOW.out _) HML.out HBY.out (by have := HSZ.out; simp; omega) ⟨w4.heap.size, 0, none⟩ _ rfl HCN.out HH1.out (by simp [Act.eval]) (by simp [Act.eval]) ?_
       intro ao' cap' w5 hown5 hgrow5 hnew
       have HNW : Hid ((Value.slice ao' (src.funcs.length + 1) cap').ownBlock = (Value.slice ao0 src.funcs.length cap0).ownBlock \/ (Value.slice ao' (src.funcs.length + 1) cap').ownBlock = some (w4.heap.size + 1)) := zz (by simpa using hnew)
       clear hnew
       have hk5 : Keeps (fun b => (Value.slice ao0 src.funcs.length cap0).ownBlock = some b) w4 w5 := ((Keeps.refl (fun b => (Value.slice ao0 src.funcs.length cap0).ownBlock = some b) w4).alloc _).trans' (Keeps.of_grownBy hgrow5 (fun k _ e => e)) (fun _ _ e => e)
       have hnb : ¬ (Value.slice ao0 src.funcs.length cap0).ownBlock = some (w.heap.size + 1) := fun e => by have := (a8 HOW.out _ e).1; have := HSZL.out; omega
       have y6 : w5.cell? ⟨w.heap.size + 1, 1, none⟩ = some (.slice ao0 src.funcs.length cap0) := hk5.cell_of y4 hnb
       have y7 : w5.frozen? ⟨w.heap.size + 1, 1, none⟩ = false := by rw [hk5.frozen (p := ⟨w.heap.size + 1, 1, none⟩) q4 hnb]; exact y5
       have HO5 := zz hown5
       have HG5 := zz hgrow5
       clear hown5 hgrow5 hk5 hnb
       refine hK.out _ _ trivial (fun hHeld => ?_)
       clear hK K
       try simp only [Act.put, sA, sB, sC]
       refine tk 6 38 (.pointer (some ⟨w.heap.size + 1, 1, none⟩)) rfl (.inl ⟨by rfl, ?_⟩) hHeld ?_
       ·intro W9 hSW; (try dsimp only at hSW); go_simp
       try simp only [Act.put, sA, sB, sC]
       refine ra 7 none rfl fun K hK => ?_
       go_simp
       refine hK.out _ _ trivial (fun hHeld => ?_)
       clear hK K
       refine wpAnyH_done (by kernel_rfl) ?_ _
       have hj5 := HJ2.out.nextF (G2 := fun _ => True) (g := g) HBLK.out HGO.out HFO.out HRF.out H5.out H6.out H7.out HK4.out HR4.out HFC.out HG5.out HO5.out HNW.out (fun _ _ => trivial)
       have HJ5 := zz hj5
       have HTK := zz (aX 5 (by decide) _ hj5.rd)
       clear hj5 y4 y5 y6 y7 c0 c0d q4
       go_wp2_with fail
       cases ht : aF E 5 m1 with
       | out => exact absurd ht (bR E _ _)
       | bad k a =>
        rw [ht] at HTK
        refine HTK.out.mono ?_
        rintro e w7 hth
        have hth2 := Threw.own hth HLT.out HJ5.out.kp
        obtain ⟨b, rfl⟩ := aB hth
        exact ⟨rfl, .bad k a, HEV.out _ (Ev.pure (fun e => by cases e) fun _ => by rw [ht]; rfl), hth2⟩
       | ok t m2 =>
        rw [ht] at HTK
        refine HTK.out.mono ?_
        rintro e w7 ⟨v7, rfl, _, hr7, hk7⟩
        have hm2 := aS ht
        have hj7 := HJ5.out.on (G2 := (fun r => Ev (fun f => Tr.program E f ⟨[], []⟩ n) r)) hk7 hr7 (fun r hr => HEV.out r (by rw [ht]; exact hr))
        have HJ7 := zz hj7
        have HM2 := zz hm2
        clear hj7 hr7 hk7 ht hm2
        go_wp2_with fail
        refine ⟨⟨m2, _, HJ7.out⟩, ?_⟩
        have h1 := HJ7.out.rd
        have h2 := HJ.out.rd
        rw [h1.pos, h2.pos]
        have := h1.hn
        have := HMM.out
        have := HM2.out
        omega
      ·go_simp
       go_at_call 113
       refine HCC.out.mono ?_
       rintro e w4 ⟨r, hev, hsay⟩
       rcases r with _ | ⟨k, a⟩ | ⟨g, m1⟩
       ·exact hsay.elim
       ·have hsay' : Threw _ w4 rb k a e := hsay
        obtain ⟨b, rfl⟩ := aB hsay'
        exact ⟨rfl, .bad k a, HSEQ.out _ (Ev.bad hev), hsay'.own HLT.out HJ2.out.kp.drew⟩
       have HEV : Hid (∀ r, Ev (fun f => (aF E 5 m1).bind fun _ m2 => Tr.program E f ⟨src.globals, src.funcs ++ [g]⟩ m2) r -> Ev (fun f => Tr.program E f ⟨[], []⟩ n) r) := zz fun r hr => HSEQ.out _ (Ev.then hev hr)
       have HMM : Hid (m < m1) := zz (sU hev)
       obtain ⟨v4, rfl, ⟨vs, rfl, hfc⟩, hr4, hk4⟩ := hsay
       have hfc' := hfc
       obtain ⟨pv, bv, e2, hpf, hbf⟩ := hfc'
       obtain ⟨pa, pc, rfl⟩ := hpf.form
       obtain ⟨la, ll, lc, rfl⟩ := hbf.1.form
       have HFC := zz hfc
       clear hfc hpf hbf hev
       unfold fu1 at e2
       have hkw : Keeps (fun b => b = rb) w2 w4 := ((Keeps.refl (fun b => b = rb) w2).drew).trans hk4
       have hb4 := HBLK.out.keeps hkw (fun e => by have := HLO.out; have : w.heap.size + 1 = rb := e; omega)
       have y4 := hb4.at_ 1 _ rfl
       have y5 := hb4.free 1
       have q4 : w.heap.size + 1 < w4.heap.size := hb4.lt
       have hown4 : w4.ownsRow wl.heap.size 51 5 (.slice ao0 src.funcs.length cap0) src.funcs.length fvals := hkw.row HFO.out (fun b e e2 => by have := (a8 HFO.out b e).1; have := HLO.out; have : b = rb := e2; omega)
       have hszw : wl.heap.size <= w4.heap.size := Nat.le_trans HLO.out.2.2.2 hkw.size
       have HH1 : Hid (∀ x ∈ vs, x.oneCell' = true) := zz (fun (x : Value) hx => by rw [e2] at hx; simp at hx; rcases hx with rfl | rfl | rfl | rfl | rfl <;> rfl)
       have HCN := zz (eR w4 vs 51)
       have HOW := zz hown4
       have HR4 := zz hr4
       have HK4 := zz hkw
       have HSZ := zz hszw
       clear hr4 hk4 hkw hown4 hszw hb4
       subst e2
       refine hK.out _ _ trivial (fun hHeld => ?_)
       clear hK K
       refine wpAnyH_ready (rs := [1, 4]) (by kernel_rfl) (by simp) ?_
       refine AllReadyH.cons (o := { dst := some 33, op := _, type := _, pos := _, after := _, guard := _ }) rfl (fun K hK => ?_) (AllReadyH.cons (o := { dst := some 36, op := _, type := _, pos := _, after := _, guard := _ }) rfl (fun K hK => ?_) AllReadyH.nil)
       ·go_simp
        refine hK.out _ _ trivial (fun hHeld => ?_)
        clear hK K
        refine ra 4 (some 36) rfl fun K hK => ?_
        go_simp
        refine hK.out _ _ trivial (fun hHeld => ?_)
        clear hK K
        refine ra 5 (some 37) rfl fun K hK => ?_
        refine cE rfl (.tmp 33) (.tmp 36) 24 51 rfl iF (.agg #[.string ByteArray.empty, .int .i64 0, .slice none 0 0, .int .i64 0, .slice none 0 0]) 5 80 Tryz.underlying24 hiF hzF0 hzF1 hzF2 rfl (by decide) wl.heap.size (.slice ao0 src.funcs.length cap0) src.funcs.length _ (World.ownsRow.alloc HOW.out _) HML.out HBY.out (by have := HSZ.out; simp; omega) ⟨w4.heap.size, 0, none⟩ _ rfl HCN.out HH1.out (by simp [Act.eval]) (by simp [Act.eval]) ?_
        intro ao' cap' w5 hown5 hgrow5 hnew
        have HNW : Hid ((Value.slice ao' (src.funcs.length + 1) cap').ownBlock = (Value.slice ao0 src.funcs.length cap0).ownBlock \/ (Value.slice ao' (src.funcs.length + 1) cap').ownBlock = some (w4.heap.size + 1)) := zz (by simpa using hnew)
        clear hnew
        have hk5 : Keeps (fun b => (Value.slice ao0 src.funcs.length cap0).ownBlock = some b) w4 w5 := ((Keeps.refl (fun b => (Value.slice ao0 src.funcs.length cap0).ownBlock = some b) w4).alloc _).trans' (Keeps.of_grownBy hgrow5 (fun k _ e => e)) (fun _ _ e => e)
        have hnb : ¬ (Value.slice ao0 src.funcs.length cap0).ownBlock = some (w.heap.size + 1) := fun e => by have := (a8 HOW.out _ e).1; have := HSZL.out; omega
        have y6 : w5.cell? ⟨w.heap.size + 1, 1, none⟩ = some (.slice ao0 src.funcs.length cap0) := hk5.cell_of y4 hnb
        have y7 : w5.frozen? ⟨w.heap.size + 1, 1, none⟩ = false := by rw [hk5.frozen (p := ⟨w.heap.size + 1, 1, none⟩) q4 hnb]; exact y5
        have HO5 := zz hown5
        have HG5 := zz hgrow5
        clear hown5 hgrow5 hk5 hnb
        refine hK.out _ _ trivial (fun hHeld => ?_)
        clear hK K
        try simp only [Act.put, sA, sB, sC]
        refine tk 6 38 (.pointer (some ⟨w.heap.size + 1, 1, none⟩)) rfl (.inl ⟨by rfl, ?_⟩) hHeld ?_
        ·intro W9 hSW; (try dsimp only at hSW); go_simp
        try simp only [Act.put, sA, sB, sC]
        refine ra 7 none rfl fun K hK => ?_
        go_simp
        refine hK.out _ _ trivial (fun hHeld => ?_)
        clear hK K
        refine wpAnyH_done (by kernel_rfl) ?_ _
        have hj5 := HJ2.out.nextF (G2 := fun _ => True) (g := g) HBLK.out HGO.out HFO.out HRF.out H5.out H6.out H7.out HK4.out HR4.out HFC.out HG5.out HO5.out HNW.out (fun _ _ => trivial)
        have HJ5 := zz hj5
        have HTK := zz (aX 5 (by decide) _ hj5.rd)
        clear hj5 y4 y5 y6 y7 c0 c0d q4
        go_wp2_with fail
        cases ht : aF E 5 m1 with
        | out => exact absurd ht (bR E _ _)
        | bad k a =>
         rw [ht] at HTK
         refine HTK.out.mono ?_
         rintro e w7 hth
         have hth2 := Threw.own hth HLT.out HJ5.out.kp
         obtain ⟨b, rfl⟩ := aB hth
         exact ⟨rfl, .bad k a, HEV.out _ (Ev.pure (fun e => by cases e) fun _ => by rw [ht]; rfl), hth2⟩
        | ok t m2 =>
         rw [ht] at HTK
         refine HTK.out.mono ?_
         rintro e w7 ⟨v7, rfl, _, hr7, hk7⟩
         have hm2 := aS ht
         have hj7 := HJ5.out.on (G2 := (fun r => Ev (fun f => Tr.program E f ⟨[], []⟩ n) r)) hk7 hr7 (fun r hr => HEV.out r (by rw [ht]; exact hr))
         have HJ7 := zz hj7
         have HM2 := zz hm2
         clear hj7 hr7 hk7 ht hm2
         go_wp2_with fail
         refine ⟨⟨m2, _, HJ7.out⟩, ?_⟩
         have h1 := HJ7.out.rd
         have h2 := HJ.out.rd
         rw [h1.pos, h2.pos]
         have := h1.hn
         have := HMM.out
         have := HM2.out
         omega
       ·go_simp
        refine hK.out _ _ trivial (fun hHeld => ?_)
        clear hK K
        refine ra 1 (some 33) rfl fun K hK => ?_
        go_simp
        refine hK.out _ _ trivial (fun hHeld => ?_)
        clear hK K
        refine ra 5 (some 37) rfl fun K hK => ?_
        refine cE rfl (.tmp 33) (.tmp 36) 24 51 rfl iF (.agg #[.string ByteArray.empty, .int .i64 0, .slice none 0 0, .int .i64 0, .slice none 0 0]) 5 80 Tryz.underlying24 hiF hzF0 hzF1 hzF2 rfl (by decide) wl.heap.size (.slice ao0 src.funcs.length cap0) src.funcs.length _ (World.ownsRow.alloc HOW.out _) HML.out HBY.out (by have := HSZ.out; simp; omega) ⟨w4.heap.size, 0, none⟩ _ rfl HCN.out HH1.out (by simp [Act.eval]) (by simp [Act.eval]) ?_
        intro ao' cap' w5 hown5 hgrow5 hnew
        have HNW : Hid ((Value.slice ao' (src.funcs.length + 1) cap').ownBlock = (Value.slice ao0 src.funcs.length cap0).ownBlock \/ (Value.slice ao' (src.funcs.length + 1) cap').ownBlock = some (w4.heap.size + 1)) := zz (by simpa using hnew)
        clear hnew
        have hk5 : Keeps (fun b => (Value.slice ao0 src.funcs.length cap0).ownBlock = some b) w4 w5 := ((Keeps.refl (fun b => (Value.slice ao0 src.funcs.length cap0).ownBlock = some b) w4).alloc _).trans' (Keeps.of_grownBy hgrow5 (fun k _ e => e)) (fun _ _ e => e)
        have hnb : ¬ (Value.slice ao0 src.funcs.length cap0).ownBlock = some (w.heap.size + 1) := fun e => by have := (a8 HOW.out _ e).1; have := HSZL.out; omega
        have y6 : w5.cell? ⟨w.heap.size + 1, 1, none⟩ = some (.slice ao0 src.funcs.length cap0) := hk5.cell_of y4 hnb
        have y7 : w5.frozen? ⟨w.heap.size + 1, 1, none⟩ = false := by rw [hk5.frozen (p := ⟨w.heap.size + 1, 1, none⟩) q4 hnb]; exact y5
        have HO5 := zz hown5
        have HG5 := zz hgrow5
        clear hown5 hgrow5 hk5 hnb
        refine hK.out _ _ trivial (fun hHeld => ?_)
        clear hK K
        try simp only [Act.put, sA, sB, sC]
        refine tk 6 38 (.pointer (some ⟨w.heap.size + 1, 1, none⟩)) rfl (.inl ⟨by rfl, ?_⟩) hHeld ?_
        ·intro W9 hSW; (try dsimp only at hSW); go_simp
        try simp only [Act.put, sA, sB, sC]
        refine ra 7 none rfl fun K hK => ?_
        go_simp
        refine hK.out _ _ trivial (fun hHeld => ?_)
        clear hK K
        refine wpAnyH_done (by kernel_rfl) ?_ _
        have hj5 := HJ2.out.nextF (G2 := fun _ => True) (g := g) HBLK.out HGO.out HFO.out HRF.out H5.out H6.out H7.out HK4.out HR4.out HFC.out HG5.out HO5.out HNW.out (fun _ _ => trivial)
        have HJ5 := zz hj5
        have HTK := zz (aX 5 (by decide) _ hj5.rd)
        clear hj5 y4 y5 y6 y7 c0 c0d q4
        go_wp2_with fail
        cases ht : aF E 5 m1 with
        | out => exact absurd ht (bR E _ _)
        | bad k a =>
         rw [ht] at HTK
         refine HTK.out.mono ?_
         rintro e w7 hth
         have hth2 := Threw.own hth HLT.out HJ5.out.kp
         obtain ⟨b, rfl⟩ := aB hth
         exact ⟨rfl, .bad k a, HEV.out _ (Ev.pure (fun e => by cases e) fun _ => by rw [ht]; rfl), hth2⟩
        | ok t m2 =>
         rw [ht] at HTK
         refine HTK.out.mono ?_
         rintro e w7 ⟨v7, rfl, _, hr7, hk7⟩
         have hm2 := aS ht
         have hj7 := HJ5.out.on (G2 := (fun r => Ev (fun f => Tr.program E f ⟨[], []⟩ n) r)) hk7 hr7 (fun r hr => HEV.out r (by rw [ht]; exact hr))
         have HJ7 := zz hj7
         have HM2 := zz hm2
         clear hj7 hr7 hk7 ht hm2
         go_wp2_with fail
         refine ⟨⟨m2, _, HJ7.out⟩, ?_⟩
         have h1 := HJ7.out.rd
         have h2 := HJ.out.rd
         rw [h1.pos, h2.pos]
         have := h1.hn
         have := HMM.out
         have := HM2.out
         omega
    ·rw [decide_eq_false hf] at HI2
     have HF := zz hf
     clear hf
     refine HI2.out.mono ?_
     rintro e w2 ⟨rfl, hb2⟩
     have hj2 := HJ3.out.on (G2 := (fun r => Ev (fun f => Tr.program E f ⟨[], []⟩ n) r)) (Keeps.of_new hb2) (HJ3.out.rd.fresh hb2) HJ.out.ev
     have HJ2 := zz hj2
     have HFA := zz (dC 3 w2 hj2.rd)
     clear hb2 hj2
     go_wp2_with fail
     refine HFA.out.mono ?_
     rintro e w4 hth
     have hth2 := hth.own HLT.out HJ2.out.kp
     obtain ⟨b, rfl⟩ := aB hth
     refine ⟨rfl, .bad 3 (pk E m).at_, HJ.out.ev _ (Ev.now (fun e => by cases e) fun f => ?_), hth2⟩
     rw [gU, if_neg HN.out, if_neg HV.out, if_neg HF.out]; rfl
theorem xD (p : Addr) (w : World) : (Instr.typeAssert (.iface 145 (.pointer (some p))) 20 145 true).run Tryz.prog w = .ok (.tuple #[.pointer (some p), .bool true]) w := by kernel_rfl
theorem xE (p : Addr) (w : World) : (binOp BinOp.neq 20 (.iface 145 (.pointer (some p))) .nilIface).run Tryz.prog w = .ok (.bool true) w := by kernel_rfl
theorem xF (w : World) : (binOp BinOp.neq 20 .nilIface .nilIface).run Tryz.prog w = .ok (.bool false) w := by kernel_rfl
theorem DN (b : Nat) (w : World) : Calls Tryz.prog 66 #[.iface 145 (.pointer (some ⟨b, 0, none⟩))] w fun e w' => e = .returned (.iface 145 (.pointer (some ⟨b, 0, none⟩))) /\ w = w' := by
 have hta := xD ⟨b, 0, none⟩
 go_enter Tryz.func66, Tryz.ntmps66
 go_wp2_with fail
 go_ret
 exact ⟨rfl, rfl⟩
theorem DO (p q : Addr) (w : World) :
  CallsD Tryz.prog 65 #[.pointer (some p), .pointer (some q)] .returning w fun e u' w' => e = .returned (.tuple #[]) /\ u' = .returning /\ w' = w := by
 refine callsD_of_wpS Tryz.func65 rfl fun c₀ cs hu => ?_
 apply wpS_seq
 apply wpS_region
 simp [wpOpsS, go_sem, recoverD, hu, Tryz.ntmps65, Exit.thenS]
 refine wpS_of_wp ?_
 change Code.wp _ _ _ { tmps := #[.pointer (some p), .pointer (some q), .nilIface, .nilIface, undef, undef, undef, undef, undef], defers := [] } _
 have hnn := xF
 go_wp2_with fail
 clear hnn
 cases c₀
 simp_all [bodyPostS, results, Tryz.results65]
theorem zH (p q b : Nat) (g0 g1 q0 : Value) (older : List PanicEntry) (w : World) (c0 : w.cell? ⟨p, 0, none⟩ = some g0) (c1 : w.cell? ⟨p, 1, none⟩ = some g1) (d0 : w.cell? ⟨q, 0, none⟩ = some q0) (z0 : w.frozen? ⟨p, 0, none⟩ = false) (z1 : w.frozen? ⟨p, 1, none⟩ = false) (y0 : w.frozen? ⟨q, 0, none⟩ = false) (hpq : p ≠ q) :
  CallsD Tryz.prog 65 #[.pointer (some ⟨p, 0, none⟩), .pointer (some ⟨q, 0, none⟩)] (.panicking ({ v := .iface 145 (.pointer (some ⟨b, 0, none⟩)), recovered := false } :: older)) w fun e u' w' =>
   e = .returned (.tuple #[]) /\ u' = .panicking ({ v := .iface 145 (.pointer (some ⟨b, 0, none⟩)), recovered := true } :: older) /\ w' = ((w.setCell ⟨p, 0, none⟩ (.slice none 0 0)).setCell ⟨p, 1, none⟩ (.slice none 0 0)).setCell ⟨q, 0, none⟩ (.iface 145 (.pointer (some ⟨b, 0, none⟩))) := by
 refine callsD_of_wpS Tryz.func65 rfl fun c₀ cs hu => ?_
 apply wpS_seq
 apply wpS_region
 simp [wpOpsS, go_sem, recoverD, hu, Tryz.ntmps65, Exit.thenS]
 refine wpS_of_wp ?_
 change Code.wp _ _ _ { tmps := #[.pointer (some ⟨p, 0, none⟩), .pointer (some ⟨q, 0, none⟩), .iface 145 (.pointer (some ⟨b, 0, none⟩)), .iface 145 (.pointer (some ⟨b, 0, none⟩)), undef, undef, undef, undef, undef], defers := [] } _
 have hnn := xE ⟨b, 0, none⟩
 have HCA := zz (DN b w)
 go_wp2_with (go_at_call 66; refine HCA.out.mono ?_; rintro e w1 ⟨rfl, rfl⟩)
 simp [bodyPostS, results, Tryz.results65]
end Go.Proofs.YtnpapppipccdbaaGreatDoor
namespace Go.Proofs.YtnpapppipccdbaaGreatDoor
namespace Lx
end Lx
end Go.Proofs.YtnpapppipccdbaaGreatDoor
namespace Go.Proofs.YtnpapppipccdbaaGreatDoor
open Go.RowKit Lx Tr
variable {w w' : World} {rb n d dd : Nat} {tv : Value} {E : Env}
theorem xG (d : B) (h : ∀ b ∈ d, cI b = true) (hne : d ≠ []) (hb : nA d = false) : Lib.atoiAll d = .ok ((dY d : Nat) : Int) := by
 cases d with
 | nil => exact absurd rfl hne
 | cons c r =>
  have hc := h c (List.mem_cons_self ..)
  have hd : 48 <= c.toNat /\ c.toNat <= 57 := by simp [cI] at hc; exact hc
  have hn : dY (c :: r) <= 9223372036854775807 := by
   unfold nA at hb
   have := of_decide_eq_false hb
   omega
  have e : Lib.parseMag (c :: r) = .ok (dY (c :: r)) := by
   rw [<- Lib.parseUintB_64]
   have h2 := mD (c :: r) h 0 (by omega)
   unfold Lib.parseUintB
   rw [if_neg (by simp)]
   refine h2.trans ?_
   show (if dY (c :: r) <= 18446744073709551615 then _ else _) = _
   rw [if_pos (by omega)]
   rfl
  have h45 : ¬ c.toNat = 45 := by omega
  have h43 : ¬ (c.toNat = 43 \/ c.toNat = 45) := by omega
  unfold Lib.atoiAll
  simp only [if_neg h43]
  rw [e]
  simp only [h45, not_false_eq_true, true_and, false_and, if_false]
  rw [if_neg (by omega)]
theorem LI {l : B} {may : Bool} {n : Nat} (hl : l ≠ []) (h : eF l may = .cut (.tok 3 n)) : n = jU l /\ nA (l.take n) = false /\ 1 <= n := by
 obtain ⟨h1, _⟩ := lH hl h
 cases l with
 | nil => exact absurd rfl hl
 | cons b r =>
  rw [eH] at h
  split at h
  ·cases h
  split at h
  ·cases h
  split at h
  ·split at h <;> cases h
  ·have h' : pV (b :: r) = .tok 3 n := by injection h
   have h2 : (if b = 59 then Cut.tok 5 1 else if cI b then gO (b :: r) else if 0 < bS (b :: r) then gA (b :: r) else gP (b :: r)) = .tok 3 n := h'
   by_cases q1 : b = 59
   ·rw [if_pos q1] at h2; cases h2
   rw [if_neg q1] at h2
   by_cases q2 : cI b = true
   ·rw [if_pos q2] at h2
    unfold gO at h2
    split at h2
    ·cases h2
    split at h2
    ·cases h2
    ·rename_i hb
     cases h2
     exact ⟨rfl, by simpa using hb, h1⟩
   rw [if_neg q2] at h2
   by_cases q3 : 0 < bS (b :: r)
   ·rw [if_pos q3] at h2
    unfold gA at h2
    split at h2
    ·cases h2
    split at h2 <;> cases h2
   ·rw [if_neg q3] at h2
    unfold gP at h2
    split at h2 <;> cases h2
theorem I8 : ∀ (l : B) (a : Nat) (may : Bool) (ts : List Tok), lx l a may = (ts, none) -> ts.length <= l.length + 1 /\ ∀ t ∈ ts, t.kind = 3 -> Lib.atoiAll t.text = .ok (dY t.text : Nat) /\ t.text.length <= l.length := by
 refine lV (fun l _ _ ts => ts.length <= l.length + 1 /\ ∀ t ∈ ts, t.kind = 3 -> Lib.atoiAll t.text = .ok (dY t.text : Nat) /\ t.text.length <= l.length) ?_ ?_ ?_
 ·intro a may
  unfold tY
  split
  ·refine ⟨Nat.le_refl _, fun t ht hk => ?_⟩
   simp at ht
   subst ht
   cases hk
  ·exact ⟨Nat.zero_le _, fun t ht => by cases ht⟩
 ·intro l a may n ts hl hs h1 h2 _ ih
  rw [List.length_drop] at ih
  exact ⟨by omega, fun t ht hk => ⟨(ih.2 t ht hk).1, by have := (ih.2 t ht hk).2; omega⟩⟩
 ·intro l a may k n ts hl hs h1 h2 _ ih
  rw [List.length_drop] at ih
  refine ⟨by simp only [List.length_cons]; omega, fun t ht hk => ?_⟩
  rcases List.mem_cons.1 ht with rfl | ht
  ·have hk' : k = 3 := hk
   subst hk'
   obtain ⟨e1, e2, e3⟩ := LI hl hs
   refine ⟨xG _ ?_ ?_ e2, by simp; omega⟩
   ·rw [e1, r9]; exact E0 _
   ·intro e
    have e' : l.take n = [] := e
    have : (l.take n).length = 0 := by rw [e']; rfl
    rw [List.length_take] at this
    omega
  ·exact ⟨(ih.2 t ht hk).1, by have := (ih.2 t ht hk).2; omega⟩
structure TreeEnv (w : World) : Prop where
 lex : LexEnv w.heap.size w
 signs : lB w
 kinds : mM w
 b1 : 7 < w.heap.size
 b2 : 2 < w.heap.size
def sV : Value := .agg #[.slice none 0 0, .slice none 0 0]
def fX (w w' : World) (s : ByteArray) (e : Ending) : Prop :=
 if 4000 < s.size then e = .returned (.tuple #[sV, .iface 27 (.int .i64 4)])
 else match lx s.data.toList 0 false with
  | (_, some (r, a)) => ∃ x, e = .returned (.tuple #[sV, x]) /\ lJ w' w.heap.size x r a
  | (ts, none) => ∃ r, Ev (fun f => Tr.program ⟨ts, s.size⟩ f ⟨[], []⟩ 0) r /\ match r with
   | .ok src _ => ∃ gv fv, e = .returned (.tuple #[.agg #[gv, fv], .nilIface]) /\ SrcO w' w.heap.size src gv fv
   | .bad k a => ∃ x, e = .returned (.tuple #[sV, x]) /\ lJ w' w.heap.size x k a
   | .out => False
theorem FX (w : World) : (binOp BinOp.neq 35 .nilIface .nilIface).run Tryz.prog w = .ok (.bool false) w := by kernel_rfl
theorem KO (p : Addr) (w : World) : (binOp BinOp.neq 35 (.iface 145 (.pointer (some p))) .nilIface).run Tryz.prog w = .ok (.bool true) w := by kernel_rfl
theorem KP (k : Int) (w : World) : (binOp BinOp.neq 35 (.iface 27 (.int .i64 k)) .nilIface).run Tryz.prog w = .ok (.bool true) w := by kernel_rfl
theorem sW {tt : TypeId} {R : Value -> World -> World -> Prop} (hx : ∀ xv a b, R xv a b -> ∀ W, (binOp BinOp.neq 35 (.iface tt xv) .nilIface).run Tryz.prog W = .ok (.bool true) W) (s : ByteArray) (w : World)
  (hL : Calls Tryz.prog 62 #[.string s] ((w.alloc (.cells #[.slice none 0 0, .slice none 0 0] 26)).alloc (.cells #[.nilIface] 35)) fun e w' => ∃ xv, e = .returned (.tuple #[.slice none 0 0, .iface tt xv]) /\ R xv ((w.alloc (.cells #[.slice none 0 0, .slice none 0 0] 26)).alloc (.cells #[.nilIface] 35)) w' /\ Below (w.heap.size + 2) ((w.alloc (.cells #[.slice none 0 0, .slice none 0 0] 26)).alloc (.cells #[.nilIface] 35)) w') :
  Calls Tryz.prog 24 #[.string s] w fun e w' => ∃ xv, e = .returned (.tuple #[sV, .iface tt xv]) /\ ∃ w1, R xv ((w.alloc (.cells #[.slice none 0 0, .slice none 0 0] 26)).alloc (.cells #[.nilIface] 35)) w1 /\ Keeps (fun b => b = w.heap.size \/ b = w.heap.size + 1) w1 w' /\ Below w.heap.size w w' := by
 have HL := zz hL
 clear hL
 go_enter_defers Tryz.func24, Tryz.ntmps24
 go_wp2_with fail
 refine HL.out.mono ?_
 rintro e w1 ⟨xv, rfl, hR, hb⟩
 have hxx := hx xv _ _ hR
 clear hx
 have c0 : w1.cell? ⟨w.heap.size, 0, none⟩ = some (.slice none 0 0) := by
  rw [hb.cell (p := ⟨w.heap.size, 0, none⟩) (show w.heap.size < w.heap.size + 2 by omega)]; exact aZ (bK _ _ _ 0 _ rfl rfl)
 have c1 : w1.cell? ⟨w.heap.size, 1, none⟩ = some (.slice none 0 0) := by
  rw [hb.cell (p := ⟨w.heap.size, 1, none⟩) (show w.heap.size < w.heap.size + 2 by omega)]; exact aZ (bK _ _ _ 1 _ rfl rfl)
 have d0 : w1.cell? ⟨w.heap.size + 1, 0, none⟩ = some .nilIface := by
  rw [hb.cell (p := ⟨w.heap.size + 1, 0, none⟩) (show w.heap.size + 1 < w.heap.size + 2 by omega)]; exact bK _ _ _ 0 _ rfl (by simp)
 have z0 : w1.frozen? ⟨w.heap.size, 0, none⟩ = false := by
  rw [hb.frozen (p := ⟨w.heap.size, 0, none⟩) (show w.heap.size < w.heap.size + 2 by omega)]; exact lL (by simp) (World.frozen?_alloc_new _ _ _ _)
 have z1 : w1.frozen? ⟨w.heap.size, 1, none⟩ = false := by
  rw [hb.frozen (p := ⟨w.heap.size, 1, none⟩) (show w.heap.size < w.heap.size + 2 by omega)]; exact lL (by simp) (World.frozen?_alloc_new _ _ _ _)
 have y0 : w1.frozen? ⟨w.heap.size + 1, 0, none⟩ = false := by
  rw [hb.frozen (p := ⟨w.heap.size + 1, 0, none⟩) (show w.heap.size + 1 < w.heap.size + 2 by omega)]; exact World.frozen?_alloc_at _ _ _ _ (by simp)
 have HR := zz hR
 have HB := zz hb
 clear hR hb
 go_wp2_with fail
 have hk2 : Keeps (fun b => b = w.heap.size \/ b = w.heap.size + 1) w1 (w1.setCell ⟨w.heap.size + 1, 0, none⟩ (.iface tt xv)) := (Keeps.refl (fun b => b = w.heap.size \/ b = w.heap.size + 1) w1).setCell (p := ⟨w.heap.size + 1, 0, none⟩) (Or.inl (Or.inr rfl)) _
 have e0 : (w1.setCell ⟨w.heap.size + 1, 0, none⟩ (.iface tt xv)).cell? ⟨w.heap.size + 1, 0, none⟩ = some (.iface tt xv) := World.cell?_setCell_same _ _ _ d0
 have e1 : (w1.setCell ⟨w.heap.size + 1, 0, none⟩ (.iface tt xv)).cell? ⟨w.heap.size, 0, none⟩ = some (.slice none 0 0) := by rw [World.cell?_setCell_far _ _ _ _ (show w.heap.size + 1 ≠ w.heap.size by omega)]; exact c0
 have e2 : (w1.setCell ⟨w.heap.size + 1, 0, none⟩ (.iface tt xv)).cell? ⟨w.heap.size, 1, none⟩ = some (.slice none 0 0) := by rw [World.cell?_setCell_far _ _ _ _ (show w.heap.size + 1 ≠ w.heap.size by omega)]; exact c1
 have z02 : (w1.setCell ⟨w.heap.size + 1, 0, none⟩ (.iface tt xv)).frozen? ⟨w.heap.size, 0, none⟩ = false := by rw [World.frozen?_setCell]; exact z0
 have z12 : (w1.setCell ⟨w.heap.size + 1, 0, none⟩ (.iface tt xv)).frozen? ⟨w.heap.size, 1, none⟩ = false := by rw [World.frozen?_setCell]; exact z1
 have y02 : (w1.setCell ⟨w.heap.size + 1, 0, none⟩ (.iface tt xv)).frozen? ⟨w.heap.size + 1, 0, none⟩ = false := by rw [World.frozen?_setCell]; exact y0
 have HK2 := zz hk2
 clear c0 c1 d0 hk2 z0 z1 y0
 generalize w1.setCell ⟨w.heap.size + 1, 0, none⟩ (.iface tt xv) = w2 at *
 have hn1 : (⟨w.heap.size, 0, none⟩ : Addr).block ≠ (⟨w.heap.size + 1, 0, none⟩ : Addr).block := fun e => by have : w.heap.size = w.heap.size + 1 := e; omega
 refine wp_region_noPanic ?_
 refine wp_region_held_drew (S := fun W' => W'.cell? ⟨w.heap.size + 1, 0, none⟩ = some (.iface tt xv)) (by kernel_rfl) (by simp only [World.cell?_drew]; assumption) (fun hHeld => ?_)
 refine tk 0 13 (.agg #[.slice none 0 0, .slice none 0 0]) rfl (.inl ⟨by rfl, ?_⟩) hHeld ?_
 ·intro W9 hSW; (try dsimp only at hSW); go_simp
 try simp only [Act.put, sA, sB, sC]
 refine tk 1 14 (.iface tt xv) rfl (.inl ⟨by rfl, ?_⟩) hHeld ?_
 ·intro W9 hSW; (try dsimp only at hSW); go_simp
 try simp only [Act.put, sA, sB, sC]
 refine ra 2 none rfl fun K hK => ?_
 go_simp
 refine hK.out _ _ ?_ (fun hHeld => ?_)
 ·simp only [World.cell?_drew]
  exact (mP (w := w2) (sb := w.heap.size) (i := 0) (j := 1) (a := .slice none 0 0) (b := .slice none 0 0)).cell_of e0 (fun e => hn1 e.symm)
 clear hK K
 refine ra 3 none rfl fun K hK => ?_
 go_simp
 have hks : Keeps (fun b => b = w.heap.size \/ b = w.heap.size + 1) w2 (((w2.setCell ⟨w.heap.size, 0, none⟩ (.slice none 0 0)).setCell ⟨w.heap.size, 1, none⟩ (.slice none 0 0)).setCell ⟨w.heap.size + 1, 0, none⟩ (.iface tt xv)).drew :=
  (((Keeps.refl (fun b => b = w.heap.size \/ b = w.heap.size + 1) w2).setCell (S := fun b => b = w.heap.size \/ b = w.heap.size + 1) (p := ⟨w.heap.size, 0, none⟩) (Or.inl (Or.inl rfl)) _).setCell (S := fun b => b = w.heap.size \/ b = w.heap.size + 1) (p := ⟨w.heap.size, 1, none⟩) (Or.inl (Or.inl rfl)) _).setCell (S := fun b => b = w.heap.size \/ b = w.heap.size + 1) (p := ⟨w.heap.size + 1, 0, none⟩) (Or.inl (Or.inr rfl)) _ |>.drew
 have e3 : (((w2.setCell ⟨w.heap.size, 0, none⟩ (.slice none 0 0)).setCell ⟨w.heap.size, 1, none⟩ (.slice none 0 0)).setCell ⟨w.heap.size + 1, 0, none⟩ (.iface tt xv)).cell? ⟨w.heap.size + 1, 0, none⟩ = some (.iface tt xv) := World.cell?_setCell_same _ _ _ ((mP (w := w2) (sb := w.heap.size) (i := 0) (j := 1) (a := .slice none 0 0) (b := .slice none 0 0)).cell_of e0 (fun e => hn1 e.symm))
 have HKS := zz hks
 refine hK.out _ _ (by simp only [World.cell?_drew]; exact e3) (fun hHeld => ?_)
 clear hK K
 refine wpAnyH_done (by kernel_rfl) ?_ _
 refine NoPanic.normal ?_
 have hsz := HK2.out.size
 have hbz := HB.out.size
 go_wp2_with fail
 have hb0 : Below w.heap.size w w1 := (((Keeps.refl (fun _ => False) w).alloc _).alloc _ |>.below (Nat.le_refl _) (fun _ _ e => e.elim)).trans (HB.out.mono (by omega))
 have hk02 := HK2.out.trans HKS.out
 refine ⟨.tuple #[.agg #[.slice none 0 0, .slice none 0 0], .iface tt xv], by simp [results, Tryz.results24, go_sem, e0, e1, e2], xv, rfl, w1, HR.out, hk02, hb0.trans (hk02.below hb0.size (fun k _ e => by omega))⟩
theorem FY {ts : List Tok} (s : ByteArray) (w : World) (hs : s.size <= 4000) (hts : lx s.data.toList 0 false = (ts, none)) (hE : TreeEnv w) :
  Calls Tryz.prog 24 #[.string s] w fun e w' => (∃ r, Ev (fun f => Tr.program ⟨ts, s.size⟩ f ⟨[], []⟩ 0) r /\ match r with
   | .ok src _ => ∃ gv fv, e = .returned (.tuple #[.agg #[gv, fv], .nilIface]) /\ SrcO w' w.heap.size src gv fv
   | .bad k a => ∃ x, e = .returned (.tuple #[sV, x]) /\ lJ w' w.heap.size x k a
   | .out => False) /\ Below w.heap.size w w' := by
 obtain ⟨W0, hW0⟩ : ∃ W0, W0 = (w.alloc (.cells #[.slice none 0 0, .slice none 0 0] 26)).alloc (.cells #[.nilIface] 35) := ⟨_, rfl⟩
 have hsz0 : W0.heap.size = w.heap.size + 2 := by rw [hW0]; simp
 have hb0 : Below w.heap.size w W0 := by rw [hW0]; exact ((Keeps.refl (fun _ => False) w).alloc _).alloc _ |>.below (Nat.le_refl _) (fun _ _ e => e.elim)
 have hB0 : Blk W0 w.heap.size [.slice none 0 0, .slice none 0 0] := by rw [hW0]; exact (Blk.new' w [.slice none 0 0, .slice none 0 0] _ rfl).keeps (S := fun _ => False) ((Keeps.refl _ _).alloc _) id
 have hE0 : Blk W0 (w.heap.size + 1) [.nilIface] := by rw [hW0]; exact Blk.new' _ [.nilIface] _ (by simp)
 have hl := hE.lex.below hb0 (Nat.le_refl _)
 have hLx : LexEnv W0.heap.size W0 := ⟨hl.tabs, hl.errR, hl.sgs, by have := hl.b1; omega, by have := hl.b2; omega, by have := hl.b3; omega, by have := hl.b4; omega⟩
 have hL : Calls Tryz.prog 62 #[.string s] W0 fun e w' => (∃ v, e = .returned (.tuple #[v, .nilIface]) /\ w'.ownsRow (W0.heap.size + 1) 110 3 v ts.length (dN ts)) /\ Below W0.heap.size W0 w' := (AY s W0 hLx).mono fun e w' ⟨h, hb⟩ => by
  unfold kE at h
  rw [if_neg (by omega), hts] at h
  exact ⟨h, hb⟩
 obtain ⟨hlen, hnums⟩ := I8 _ _ _ _ hts
 have hsl : s.data.toList.length = s.size := by simp
 rw [hsl] at hlen hnums
 have HL := zz hL
 have HE := zz hE
 have HNUM : Hid (∀ t ∈ ts, t.kind = 3 -> Lib.atoiAll t.text = .ok (dY t.text : Nat) /\ t.text.length <= 4000) := zz fun t ht hk => ⟨(hnums t ht hk).1, by have := (hnums t ht hk).2; omega⟩
 have HLEN : Hid (ts.length <= 10000) := zz (by omega)
 have HB0 := zz hb0
 have HBLK := zz hB0
 have HEB := zz hE0
 have HSZ := zz hsz0
 have hmf : ∀ (fn : Fn) (first cap : Array Value) (w : World), (Instr.makeFunc fn first cap).run Tryz.prog w = .ok (.func fn first cap) w := fun _ _ _ _ => rfl
 have hen := FX
 have hss : s.size <= 4000 := hs
 clear hE hb0 hB0 hE0 hl hLx hL hlen hnums hsl hts hsz0 hs
 go_enter_defers Tryz.func24, Tryz.ntmps24
 go_wp2_with fail
 rw [<- hW0]
 clear hW0
 refine HL.out.mono ?_
 rintro e w1 ⟨⟨v, rfl, hown⟩, hb1⟩
 have hrow := E3 hown
 have hform : ∃ a c, v = .slice a ts.length c := by
  rcases hrow with ⟨e1, e2⟩ | ⟨g, cap, e1, _⟩
  ·exact ⟨none, 0, by rw [e1, e2]; rfl⟩
  ·exact ⟨_, _, e1⟩
 obtain ⟨va, vc, rfl⟩ := hform
 have hge : ∀ g m c, Value.slice va ts.length vc = .slice (some ⟨g, 0, none⟩) m c -> W0.heap.size < g /\ g < w1.heap.size := fun g m c e => by
  cases e
  have := a8 hown g rfl
  omega
 have hblk := HBLK.out.fresh hb1
 have heb := HEB.out.fresh hb1
 have d0 := heb.at_ 0 _ rfl
 have y0 := heb.free 0
 have hk1 : Keeps (fun b => b = w.heap.size + 1) w1 (w1.setCell ⟨w.heap.size + 1, 0, none⟩ .nilIface) := mB
 have HROW := zz hrow
 have HGE := zz hge
 have HBK := zz hblk
 have HEK := zz heb
 have HB1 : Hid (Below w.heap.size w w1) := zz (HB0.out.trans (hb1.mono (by have := HSZ.out; omega)))
 have HW1 : Hid (w.heap.size + 2 <= w1.heap.size) := zz (by have := HSZ.out; have := hb1.size; omega)
 clear hown hrow hge hblk heb hb1 hk1 HL
 go_wp2_with fail
 have hkw : Keeps (fun b => b = w.heap.size + 1) w1 ((w1.setCell ⟨w.heap.size + 1, 0, none⟩ .nilIface).alloc (.cells #[.slice va ts.length vc, .int .i64 0, .int .i64 (s.size : Nat), .int .i64 0] 112)) := (mB (w := w1)).alloc _
 have hszs : (w1.setCell ⟨w.heap.size + 1, 0, none⟩ .nilIface).heap.size = w1.heap.size := by simp [World.setCell]
 have hw1 := HW1.out
 have hbw : Below w.heap.size w ((w1.setCell ⟨w.heap.size + 1, 0, none⟩ .nilIface).alloc (.cells #[.slice va ts.length vc, .int .i64 0, .int .i64 (s.size : Nat), .int .i64 0] 112)) := HB1.out.trans (hkw.below (by omega) (fun k _ e => by omega))
 have hR : RdAt ((w1.setCell ⟨w.heap.size + 1, 0, none⟩ .nilIface).alloc (.cells #[.slice va ts.length vc, .int .i64 0, .int .i64 (s.size : Nat), .int .i64 0] 112)) w1.heap.size (.slice va ts.length vc) ⟨ts, s.size⟩ 0 0 :=
  ⟨bK _ _ _ 0 _ rfl hszs.symm, bK _ _ _ 1 _ rfl hszs.symm, bK _ _ _ 2 _ rfl hszs.symm, bK _ _ _ 3 _ rfl hszs.symm, World.frozen?_alloc_at _ _ _ _ hszs.symm, World.frozen?_alloc_at _ _ _ _ hszs.symm, HROW.out.keeps hkw (fun g m cap e e2 => by have := (HGE.out g m cap e).1; have := HSZ.out; have : g = w.heap.size + 1 := e2; omega), fun g m cap e => (HGE.out g m cap e).2, Nat.zero_le _, HLEN.out, Nat.zero_le _⟩
 have hb1 := HE.out.b1
 have hb2 := HE.out.b2
 have hT : TEnv w1.heap.size ⟨ts, s.size⟩ ((w1.setCell ⟨w.heap.size + 1, 0, none⟩ .nilIface).alloc (.cells #[.slice va ts.length vc, .int .i64 0, .int .i64 (s.size : Nat), .int .i64 0] 112)) :=
  ⟨fun k hk => by rw [hbw.cell (p := ⟨7, k, none⟩) hb1]; exact HE.out.signs k hk, fun k hk => by rw [hbw.cell (p := ⟨2, k, none⟩) hb2]; exact HE.out.kinds k hk, by omega, by omega, HNUM.out⟩
 have HPR := zz (xC _ hR hT)
 have HKW := zz hkw
 have HBW := zz hbw
 have HSS := zz hszs
 clear hkw hszs hw1 hbw hR hb1 hb2 hT d0 y0
 refine HPR.out.mono ?_
 rintro e w3 ⟨r, hev, hsay⟩
 have HEV := zz hev
 clear hev
 have hw1 := HW1.out
 have hsz2 : w1.heap.size + 1 = ((w1.setCell ⟨w.heap.size + 1, 0, none⟩ .nilIface).alloc (.cells #[.slice va ts.length vc, .int .i64 0, .int .i64 (s.size : Nat), .int .i64 0] 112)).heap.size := by simp [World.setCell]
 have hbk2 := HBK.out.keeps HKW.out (fun e => by have : w.heap.size = w.heap.size + 1 := e; omega)
 have hek2 : Blk ((w1.setCell ⟨w.heap.size + 1, 0, none⟩ .nilIface).alloc (.cells #[.slice va ts.length vc, .int .i64 0, .int .i64 (s.size : Nat), .int .i64 0] 112)) (w.heap.size + 1) [.nilIface] := (HEK.out.set 0 .nilIface (by simp)).keeps (S := fun _ => False) ((Keeps.refl _ _).alloc _) id
 cases r with
 | out => exact hsay.elim
 | bad k a =>
  obtain ⟨b, rfl, hbb, hc0, hc1, hblw⟩ := hsay
  have hbk3 : Blk w3 w.heap.size [.slice none 0 0, .slice none 0 0] := ⟨fun j v hv => by rw [hblw.cell (p := ⟨w.heap.size, j, none⟩) (show w.heap.size < w1.heap.size by omega)]; exact hbk2.at_ j v hv, fun j => by rw [hblw.frozen (p := ⟨w.heap.size, j, none⟩) (show w.heap.size < w1.heap.size by omega)]; exact hbk2.free j, Nat.lt_of_lt_of_le hbk2.lt hblw.size⟩
  have hek3 : Blk w3 (w.heap.size + 1) [.nilIface] := ⟨fun j v hv => by rw [hblw.cell (p := ⟨w.heap.size + 1, j, none⟩) (show w.heap.size + 1 < w1.heap.size by omega)]; exact hek2.at_ j v hv, fun j => by rw [hblw.frozen (p := ⟨w.heap.size + 1, j, none⟩) (show w.heap.size + 1 < w1.heap.size by omega)]; exact hek2.free j, Nat.lt_of_lt_of_le hek2.lt hblw.size⟩
  have hbw3 := HBW.out.trans (hblw.mono (show w.heap.size <= w1.heap.size by omega))
  have hks : Keeps (fun b => b = w.heap.size \/ b = w.heap.size + 1) w3 (((w3.setCell ⟨w.heap.size, 0, none⟩ (.slice none 0 0)).setCell ⟨w.heap.size, 1, none⟩ (.slice none 0 0)).setCell ⟨w.heap.size + 1, 0, none⟩ (.iface 145 (.pointer (some ⟨b, 0, none⟩)))) :=
   (((Keeps.refl (fun b => b = w.heap.size \/ b = w.heap.size + 1) w3).setCell (S := fun b => b = w.heap.size \/ b = w.heap.size + 1) (p := ⟨w.heap.size, 0, none⟩) (Or.inl (Or.inl rfl)) _).setCell (S := fun b => b = w.heap.size \/ b = w.heap.size + 1) (p := ⟨w.heap.size, 1, none⟩) (Or.inl (Or.inl rfl)) _).setCell (S := fun b => b = w.heap.size \/ b = w.heap.size + 1) (p := ⟨w.heap.size + 1, 0, none⟩) (Or.inl (Or.inr rfl)) _
  have c0 := hbk3.at_ 0 _ rfl
  have c1 := hbk3.at_ 1 _ rfl
  have d0 := hek3.at_ 0 _ rfl
  refine leaves_cons (f := 65) (args := #[.pointer (some ⟨w.heap.size, 0, none⟩), .pointer (some ⟨w.heap.size + 1, 0, none⟩)]) (by simp) (by simp [go_sem]) ?_
  refine (zH w.heap.size (w.heap.size + 1) b _ _ _ [] w3 c0 c1 d0 (hbk3.free 0) (hbk3.free 1) (hek3.free 0) (by omega)).mono ?_
  rintro e u' w'' ⟨rfl, rfl, rfl⟩
  have hlt3 := hek3.lt
  refine ⟨.tuple #[.agg #[.slice none 0 0, .slice none 0 0], .iface 145 (.pointer (some ⟨b, 0, none⟩))], by simp [results, Tryz.results24, go_sem, c0, c1, d0], ⟨.bad k a, HEV.out, _, rfl, b, rfl, by omega, hks.cell_of hc0 (fun e => by have : b = w.heap.size \/ b = w.heap.size + 1 := e; omega), hks.cell_of hc1 (fun e => by have : b = w.heap.size \/ b = w.heap.size + 1 := e; omega)⟩, hbw3.trans (hks.below (B := w.heap.size) (by omega) (fun k _ e => by omega))⟩
 | ok src m =>
  obtain ⟨v3, rfl, ⟨gv, fv, rfl, hsf⟩, hr3, hk3⟩ := hsay
  obtain ⟨⟨ga, gl, gc, rfl⟩, fa, fl, fc, rfl⟩ := hsf.form
  have hbk3 := hbk2.keeps hk3 (fun e => by have : w.heap.size = w1.heap.size := e; omega)
  have hek3 := hek2.keeps hk3 (fun e => by have : w.heap.size + 1 = w1.heap.size := e; omega)
  have c0 := hbk3.at_ 0 _ rfl
  have c1 := hbk3.at_ 1 _ rfl
  have z0 := hbk3.free 0
  have z1 := hbk3.free 1
  have d0 := hek3.at_ 0 _ rfl
  have y0 := hek3.free 0
  have HSF := zz hsf
  have HK3 := zz hk3
  clear hbk2 hek2 hbk3 hek3 hsf hr3 hk3
  go_wp2_with fail
  have hks : Keeps (fun b => b = w.heap.size \/ b = w.heap.size + 1) w3 (((w3.setCell ⟨w.heap.size, 0, none⟩ (.slice ga gl gc)).setCell ⟨w.heap.size, 1, none⟩ (.slice fa fl fc)).setCell ⟨w.heap.size + 1, 0, none⟩ .nilIface) :=
   (((Keeps.refl (fun b => b = w.heap.size \/ b = w.heap.size + 1) w3).setCell (S := fun b => b = w.heap.size \/ b = w.heap.size + 1) (p := ⟨w.heap.size, 0, none⟩) (Or.inl (Or.inl rfl)) _).setCell (S := fun b => b = w.heap.size \/ b = w.heap.size + 1) (p := ⟨w.heap.size, 1, none⟩) (Or.inl (Or.inl rfl)) _).setCell (S := fun b => b = w.heap.size \/ b = w.heap.size + 1) (p := ⟨w.heap.size + 1, 0, none⟩) (Or.inl (Or.inr rfl)) _
  refine leaves_cons (f := 65) (args := #[.pointer (some ⟨w.heap.size, 0, none⟩), .pointer (some ⟨w.heap.size + 1, 0, none⟩)]) (by simp) (by simp [go_sem]) ?_
  refine (DO ⟨w.heap.size, 0, none⟩ ⟨w.heap.size + 1, 0, none⟩ _).mono ?_
  rintro e u' w'' ⟨rfl, rfl, rfl⟩
  have hsz3 := HK3.out.size
  have hbf := (HBW.out.trans (HK3.out.below (by omega) (fun k _ e => by have : k = w1.heap.size := e; omega))).trans (hks.below (B := w.heap.size) (by omega) (fun k _ e => by omega))
  refine ⟨.tuple #[.agg #[.slice ga gl gc, .slice fa fl fc], .nilIface], by simp [results, Tryz.results24, go_sem, c0, c1, d0], ⟨.ok src m, HEV.out, _, _, rfl, ?_⟩, hbf⟩
  exact SrcO.mono (by omega) (HSF.out.keeps hks (fun b e e2 => by omega))
theorem mH (s : ByteArray) (w : World) (hE : TreeEnv w) : Calls Tryz.prog 24 #[.string s] w fun e w' => fX w w' s e /\ Below w.heap.size w w' := by
 have hb0 : Below w.heap.size w ((w.alloc (.cells #[.slice none 0 0, .slice none 0 0] 26)).alloc (.cells #[.nilIface] 35)) := ((Keeps.refl (fun _ => False) w).alloc _).alloc _ |>.below (Nat.le_refl _) (fun _ _ e => e.elim)
 have hsz0 : ((w.alloc (.cells #[.slice none 0 0, .slice none 0 0] 26)).alloc (.cells #[.nilIface] 35)).heap.size = w.heap.size + 2 := by simp
 have hl := hE.lex.below hb0 (Nat.le_refl _)
 have hLx : LexEnv ((w.alloc (.cells #[.slice none 0 0, .slice none 0 0] 26)).alloc (.cells #[.nilIface] 35)).heap.size ((w.alloc (.cells #[.slice none 0 0, .slice none 0 0] 26)).alloc (.cells #[.nilIface] 35)) := ⟨hl.tabs, hl.errR, hl.sgs, by have := hl.b1; omega, by have := hl.b2; omega, by have := hl.b3; omega, by have := hl.b4; omega⟩
 have hL := AY s _ hLx
 by_cases hs : 4000 < s.size
 ·refine (sW (tt := 27) (R := fun xv _ _ => xv = .int .i64 4) (fun xv _ _ h W => by rw [h]; exact KP 4 W) s w (hL.mono fun e w' ⟨h, hb⟩ => ?_)).mono ?_
  ·unfold kE at h
   rw [if_pos hs] at h
   exact ⟨_, h, rfl, by rw [hsz0] at hb; exact hb⟩
  ·rintro e w' ⟨xv, rfl, w1, rfl, _, hb⟩
   refine ⟨?_, hb⟩
   unfold fX
   rw [if_pos hs]
 ·cases hq : lx s.data.toList 0 false with
  | mk ts o =>
   cases o with
   | none =>
    refine (FY s w (by omega) hq hE).mono ?_
    rintro e w' ⟨h, hb⟩
    refine ⟨?_, hb⟩
    unfold fX
    rw [if_neg hs, hq]
    exact h
   | some ra =>
    obtain ⟨r, a⟩ := ra
    refine (sW (tt := 145) (R := fun xv W w' => ∃ b, xv = .pointer (some ⟨b, 0, none⟩) /\ W.heap.size < b /\ w'.cell? ⟨b, 0, none⟩ = some (.int .i64 r) /\ w'.cell? ⟨b, 1, none⟩ = some (.int .i64 a)) (fun xv _ _ ⟨b, h, _⟩ W => by rw [h]; exact KO _ W) s w (hL.mono fun e w' ⟨h, hb⟩ => ?_)).mono ?_
    ·unfold kE at h
     rw [if_neg hs, hq] at h
     obtain ⟨x, h1, b, rfl, h2, h3, h4⟩ := h
     exact ⟨_, h1, ⟨b, rfl, h2, h3, h4⟩, by rw [hsz0] at hb; exact hb⟩
    ·rintro e w' ⟨xv, rfl, w1, ⟨b, rfl, h2, h3, h4⟩, hk, hb⟩
     refine ⟨?_, hb⟩
     unfold fX
     rw [if_neg hs, hq]
     rw [hsz0] at h2
     exact ⟨_, rfl, b, rfl, by omega, hk.cell_of h3 (fun e => by have : b = w.heap.size \/ b = w.heap.size + 1 := e; omega), hk.cell_of h4 (fun e => by have : b = w.heap.size \/ b = w.heap.size + 1 := e; omega)⟩
end Go.Proofs.YtnpapppipccdbaaGreatDoor
namespace Go.Proofs.YtnpapppipccdbaaGreatDoor
open Go.RowKit
theorem DP : (Tryz.prog.info? 5).map (fun i => (i.zero, i.size, i.bytes)) = some (some (.int .u8 0), 1, 1) := by kernel_rfl
theorem I9 (l : List UInt8) (s : ByteArray) : Lib.byteCells l ++ Lib.strCells s = Lib.byteCells (l ++ s.data.toList) := by
 rw [Lib.strCells_eq]; simp [Lib.byteCells]
def PB (B b : Nat) (l : List UInt8) (w : World) : Prop := Lib.IsBuilder 129 5 B b ((Lib.byteCells l)) w
def PC (B b : Nat) (l : List UInt8) (w : World) : Prop := PB B b l w /\ (l = [] -> w.cell? ⟨b, 1, none⟩ = some (.slice none 0 0))
def Others (b : Nat) (w w' : World) : Prop := ∀ (k : Nat) (xs : Array Value) (e : TypeId) (fz : Nat × Nat), k ≠ b -> e ≠ 5 -> w.heap[k]? = some (Obj.cells xs e fz) -> w'.heap[k]? = some (Obj.cells xs e fz)
theorem Others.trans {b : Nat} {a w w' : World} (h : Others b a w) (k : Others b w w') : Others b a w' := fun i xs e fz h1 h2 h3 => k i xs e fz h1 h2 (h i xs e fz h1 h2 h3)
theorem Others.refl (b : Nat) (w : World) : Others b w w := fun _ _ _ _ _ _ h => h
theorem BC : (Tryz.prog.info? 127).map (·.size) = some 2 := by kernel_rfl
theorem JA : liesAt Tryz.prog Tryz.prog.depth 129 (2 / Tryz.prog.cellsOf 129) 0 127 1 = true := by kernel_rfl
theorem xH (b : Nat) (w : World) (h0 : w.cell? ⟨b, 0, none⟩ = some (.pointer (some ⟨b, 0, none⟩))) :
  Calls Tryz.prog 228 #[.pointer (some ⟨b, 0, none⟩)] w fun e w' => e = .returned (.tuple #[]) /\ w' = w := by
 obtain ⟨j, hj, _⟩ := Option.map_eq_some_iff.1 BC
 go_enter Tryz.func228, Tryz.ntmps228
 go_wp2
 rw [Lib.run_neq_ptr_same w _ Tryz.underlying124 hj]
 go_wp2
 go_end0
 exact ⟨rfl, rfl⟩
theorem uV (b : Nat) (w : World) (h0 : w.cell? ⟨b, 0, none⟩ = some (.pointer none)) (hsh : w.shape? b = some (129, 2)) (hfz : w.frozen? ⟨b, 0, none⟩ = false) :
  Calls Tryz.prog 228 #[.pointer (some ⟨b, 0, none⟩)] w fun e w' => e = .returned (.tuple #[]) /\ w' = w.setCell ⟨b, 0, none⟩ (.pointer (some ⟨b, 0, none⟩)) := by
 obtain ⟨j, hj, hjs⟩ := Option.map_eq_some_iff.1 BC
 go_enter Tryz.func228, Tryz.ntmps228
 go_wp2
 rw [Lib.run_to_unsafe w ⟨b, 0, none⟩ Tryz.underlying124 Tryz.underlying169 hj (by rw [hjs]; decide) hsh (Nat.zero_lt_succ 1)]
 simp only [Result.andThen]
 rw [Oper.upon_value]
 go_wp2
 rw [run_callFunc_extern Tryz.func270 (by kernel_rfl) (by kernel_rfl) (by kernel_rfl) (e := Extern.AbiNoEscape.same) (by kernel_rfl)]
 rw [Lib.run_noEscape]
 simp only [Result.andThen]
 rw [Oper.upon_value]
 go_wp2
 rw [Lib.run_from_unsafe w ⟨b, 0, none⟩ Tryz.underlying169 Tryz.underlying124 hj hsh JA]
 simp only [Result.andThen]
 rw [Oper.upon_value]
 go_wp2
 go_end0
 exact ⟨rfl, rfl⟩
theorem zI (B b : Nat) (l : List UInt8) (w : World) (h : PB B b l w) :
  Calls Tryz.prog 228 #[.pointer (some ⟨b, 0, none⟩)] w fun e w' => e = .returned (.tuple #[]) /\ (Lib.BuilderAt 129 5 B b (.pointer (some ⟨b, 0, none⟩)) ((Lib.byteCells l)) w' /\ Below B w w' /\ w'.cell? ⟨b, 1, none⟩ = w.cell? ⟨b, 1, none⟩ /\ ∀ k, k ≠ b -> w'.heap[k]? = w.heap[k]?) := by
 rcases h with h | h
 ·refine (uV b w h.cell0 h.shape h.frozen0).mono ?_
  rintro e w' ⟨rfl, rfl⟩
  exact ⟨rfl, h.used _, (Below.refl B w).setCell (p := ⟨b, 0, none⟩) h.1 _, World.cell?_setCell_other _ _ _ _ (aQ (by decide) b), fun k hk => Below.heap_setCell _ _ _ _ hk⟩
 ·refine (xH b w h.cell0).mono ?_
  rintro e w' ⟨rfl, rfl⟩
  exact ⟨rfl, h, Below.refl B _, rfl, fun _ _ => rfl⟩
theorem zJ (B b : Nat) (l : List UInt8) (s : ByteArray) (w : World) (h : PC B b l w) (hlen : l.length + s.size <= 100000000) (hBw : B <= w.heap.size) :
  Calls Tryz.prog 184 #[.pointer (some ⟨b, 0, none⟩), .string s] w fun e w' => e = .returned (.tuple #[.int .i64 s.size, .nilIface]) /\ (PC B b (l ++ s.data.toList) w' /\ Below B w w' /\ Others b w w') := by
 obtain ⟨i0, hi, hz0, hz1, hz2⟩ := mC DP
 go_enter Tryz.func184, Tryz.ntmps184
 go_wp2_with fail
 refine (zI B b l _ h.1).mono ?_
 rintro e w1 ⟨rfl, h1, hb1, hc1, hot⟩
 have HOT := zz hot
 clear hot
 have HC1 := zz hc1
 have HPC := zz h
 clear hc1 h
 obtain ⟨hB, v, hbk, hown, hne⟩ := h1
 have c0 : w1.cell? ⟨b, 0, none⟩ = some (.pointer (some ⟨b, 0, none⟩)) := by rw [Lib.cell_of_heap hbk]; rfl
 have c1 : w1.cell? ⟨b, 1, none⟩ = some v := by rw [Lib.cell_of_heap hbk]; rfl
 have hcl := Lib.byteCells_length l
 go_wp2_with (at_builtin; refine Lib.wpList_append_own_string _ rfl _ _ 125 9 rfl B 5 i0 Tryz.underlying125 Tryz.underlying9 hi hz0 hz1 hz2 _ _ _ rfl hown s rfl ?c3 ?c4 ?c5 ?_)
 case c3 => unfold maxLen; omega
 case c4 => omega
 case c5 => have := hb1.size; omega
 intro v' w2 hown' hgrow hiff
 have hnil : l ++ s.data.toList = [] -> v' = .slice none 0 0 := fun e => by
  obtain ⟨e1, e2⟩ := List.append_eq_nil_iff.1 e
  refine hiff.2 ⟨?_, by have : s.data.toList.length = s.size := (by simp); rw [e2] at this; simpa using this.symm⟩
  have h9 := HPC.out.2 e1
  rw [<- HC1.out, c1] at h9
  exact Option.some.inj h9
 have HNIL := zz hnil
 have HOTH : Hid (∀ (k : Nat) (xs : Array Value) (e : TypeId) (fz : Nat × Nat), e ≠ 5 -> w1.heap[k]? = some (Obj.cells xs e fz) -> w2.heap[k]? = some (Obj.cells xs e fz)) := zz fun k xs e fz he hk => by
  rw [hgrow.block k (Array.getElem?_eq_some_iff.1 hk).1 (fun e2 => ?_)]
  ·exact hk
  ·rcases hown.2 with ⟨rfl, _⟩ | ⟨g, cap, cur, rfl, _, hg, _⟩
   ·cases e2
   ·have e3 : k = g := Option.some.inj e2
    rw [e3, hg] at hk
    have e4 := Option.some.inj hk
    injection e4 with _ e5 _
    exact he e5.symm
 clear hnil hiff
 have hlt : b < w1.heap.size := by
  rcases Nat.lt_or_ge b w1.heap.size with h' | h'
  ·exact h'
  ·simp [Array.getElem?_eq_none h'] at hbk
 have hb2 : w2.heap[b]? = some (.cells #[.pointer (some ⟨b, 0, none⟩), v] 129 (0, 0)) := by
  rw [hgrow.block b hlt (fun e => hne e.symm)]
  exact hbk
 have d0 : w2.cell? ⟨b, 0, none⟩ = some (.pointer (some ⟨b, 0, none⟩)) := by rw [Lib.cell_of_heap hb2]; rfl
 have d1 : w2.cell? ⟨b, 1, none⟩ = some v := by rw [Lib.cell_of_heap hb2]; rfl
 have f1 : w2.frozen? ⟨b, 1, none⟩ = false := Lib.frozen_of_heap hb2 1
 obtain ⟨ao, n', cap, rfl⟩ : ∃ ao n' cap, v' = .slice ao n' cap := by
  rcases hown'.2 with ⟨hv, _⟩ | ⟨g, cap, cur, hv, _⟩
  ·exact ⟨_, _, _, hv⟩
  ·exact ⟨_, _, _, hv⟩
 have HO := zz hown'
 have HB3 := zz (hb1.grown hgrow (by have := hb1.size; omega) (fun k hk => (hown.lt k hk).1))
 clear hown' hgrow hown hbk c0 c1
 go_wp2
 go_ret2
 refine ⟨rfl, ⟨Or.inr ?_, fun e => by rw [HNIL.out e]; exact World.cell?_setCell_same _ _ _ d1⟩, HB3.out.setCell (p := ⟨b, 1, none⟩) hB _, fun k xs e fz hk he hx => by
  rw [Below.heap_setCell _ _ _ _ hk]
  exact HOTH.out k xs e fz he (by rw [HOT.out k hk]; exact hx)⟩
 have := Lib.BuilderAt.put (T := 129) (e := 5) hB hb2 (bs' := (Lib.byteCells l) ++ Lib.strCells s) (by simpa [Lib.strCells_length, Lib.byteCells_length] using HO.out) (by decide)
 rwa [I9] at this
theorem uW (w : World) (p : Addr) (n : Nat) : Keeps (fun k => k = p.block) w (w.freeze p n) := by
 unfold World.freeze
 split
 ·exact Keeps.refl _ _
 ·exact ⟨rfl, rfl, rfl, by simp, fun k hk hn => by
   simp only [Array.getElem?_modify]
   rw [if_neg (fun e => hn e.symm)]⟩
theorem uX (B b : Nat) (l : List UInt8) (w : World) (h : PB B b l w) (h0 : l ≠ []) :
  Calls Tryz.prog 79 #[.pointer (some ⟨b, 0, none⟩)] w fun e w' => e = .returned (.string ⟨l.toArray⟩) /\ Below B w w' := by
 obtain ⟨p, hB, v, hbk, hown, hne⟩ : ∃ p, Lib.BuilderAt 129 5 B b p (Lib.byteCells l) w := by
  rcases h with h | h
  ·exact ⟨_, h⟩
  ·exact ⟨_, h⟩
 have hl0 : l.length ≠ 0 := by simpa using h0
 rw [Lib.byteCells_length] at hown
 have hcl := hown.1
 obtain ⟨g, cap, hv, hge, hcap, hcm, hsh⟩ : ∃ g cap, v = .slice (some ⟨g, 0, none⟩) l.length cap /\ B <= g /\ l.length <= cap /\ cap <= maxLen /\ w.shape? g = some (5, cap) := by
  rcases hown.2 with ⟨_, hz⟩ | ⟨g, cap, cur, hv, h1, h2, h3, h4, h5, _⟩
  ·exact absurd hz hl0
  ·exact ⟨g, cap, hv, h1, h3, h4, by simp [World.shape?, h2]; omega⟩
 subst hv
 have hbg : g ≠ b := fun e => hne (by rw [e]; rfl)
 have c1 : w.cell? ⟨b, 1, none⟩ = some (.slice (some ⟨g, 0, none⟩) l.length cap) := by rw [Lib.cell_of_heap hbk]; rfl
 have hSD : ∀ W, (Builtin.unsafeSliceData_ #[125] 192 #[.slice (some ⟨g, 0, none⟩) l.length cap]).run Tryz.prog W = .ok (.pointer (some ⟨g, 0, none⟩)) W := fun W => Lib.run_unsafeSliceData_row _ _ _ _ _ _ (by omega)
 have hcells : ∀ (j : Nat) (x : UInt8), l[j]? = some x -> w.drew.cell? ((⟨g, 0, none⟩ : Addr).add j) = some (.int .u8 x.toNat) := fun j x hx => hown.cells (g := g) rfl j (.int .u8 x.toNat) (by simp [Lib.byteCells, hx])
 have hUS : (Builtin.unsafeString_ #[192, 3] 9 #[.pointer (some ⟨g, 0, none⟩), .int .i64 l.length]).run Tryz.prog w.drew = .ok (.string ⟨l.toArray⟩) (w.drew.freeze ⟨g, 0, none⟩ l.length) :=
  Lib.run_unsafeString_row w.drew 192 3 9 5 Tryz.underlying192 (by kernel_rfl) g cap hsh l h0 hcap (by unfold maxLen at hcm; omega) hcells
 clear hcells hown hbk h hsh
 go_enter Tryz.func79, Tryz.ntmps79
 go_wp2_with fail
 refine wp_region_held_drew (S := fun W' => W'.cell? ⟨b, 1, none⟩ = some (.slice (some ⟨g, 0, none⟩) l.length cap)) (by kernel_rfl) (by simp only [World.cell?_drew]; assumption) (fun hHeld => ?_)
 refine tk 0 3 (.pointer (some ⟨b, 0, none⟩)) rfl (.inl ⟨by rfl, ?_⟩) hHeld ?_
 ·intro W9 hSW; (try dsimp only at hSW); go_simp
 try simp only [Act.put, sA, sB, sC]
 refine tk 1 4 (.pointer (some ⟨b, 0, none⟩)) rfl (.inl ⟨by rfl, ?_⟩) hHeld ?_
 ·intro W9 hSW; (try dsimp only at hSW); go_simp
 try simp only [Act.put, sA, sB, sC]
 refine tk 2 5 (.pointer (some ⟨b, 1, none⟩)) rfl (.inl ⟨by rfl, ?_⟩) hHeld ?_
 ·intro W9 hSW; (try dsimp only at hSW); go_simp
 try simp only [Act.put, sA, sB, sC]
 refine tk 3 6 (.slice (some ⟨g, 0, none⟩) l.length cap) rfl (.inl ⟨by rfl, ?_⟩) hHeld ?_
 ·intro W9 hSW; (try dsimp only at hSW); go_simp
 try simp only [Act.put, sA, sB, sC]
 refine tk 4 7 (.pointer (some ⟨g, 0, none⟩)) rfl (.inl ⟨by rfl, ?_⟩) hHeld ?_
 ·intro W9 hSW; (try dsimp only at hSW); go_simp
 try simp only [Act.put, sA, sB, sC]
 refine tk 5 8 (.pointer (some ⟨b, 0, none⟩)) rfl (.inl ⟨by rfl, ?_⟩) hHeld ?_
 ·intro W9 hSW; (try dsimp only at hSW); go_simp
 try simp only [Act.put, sA, sB, sC]
 refine tk 6 9 (.pointer (some ⟨b, 0, none⟩)) rfl (.inl ⟨by rfl, ?_⟩) hHeld ?_
 ·intro W9 hSW; (try dsimp only at hSW); go_simp
 try simp only [Act.put, sA, sB, sC]
 refine tk 7 10 (.pointer (some ⟨b, 1, none⟩)) rfl (.inl ⟨by rfl, ?_⟩) hHeld ?_
 ·intro W9 hSW; (try dsimp only at hSW); go_simp
 try simp only [Act.put, sA, sB, sC]
 refine tk 8 11 (.slice (some ⟨g, 0, none⟩) l.length cap) rfl (.inl ⟨by rfl, ?_⟩) hHeld ?_
 ·intro W9 hSW; (try dsimp only at hSW); go_simp
 try simp only [Act.put, sA, sB, sC]
 refine tk 9 12 (.int .i64 (l.length : Nat)) rfl (.inl ⟨by rfl, ?_⟩) hHeld ?_
 ·intro W9 hSW; (try dsimp only at hSW); go_simp
 try simp only [Act.put, sA, sB, sC]
 refine ra 10 (some 13) rfl fun K hK => ?_
 go_simp
 have hkf : Keeps (fun k => k = g) w.drew (w.drew.freeze ⟨g, 0, none⟩ l.length) := uW w.drew ⟨g, 0, none⟩ l.length
 refine hK.out _ _ (hkf.cell_of c1 (fun e => hbg e.symm)) (fun hHeld => ?_)
 clear hK K
 refine tk 11 2 (.string ⟨l.toArray⟩) rfl (.inl ⟨by rfl, ?_⟩) hHeld ?_
 ·intro W9 hSW; (try dsimp only at hSW); go_simp
 try simp only [Act.put, sA, sB, sC]
 refine wpAnyH_done (by kernel_rfl) ?_ _
 go_wp2_with fail
 go_ret
 exact ⟨rfl, Lib.below_freeze (Below.drew (Below.refl B w)) (p := ⟨g, 0, none⟩) hge _⟩
theorem uY (B b : Nat) (w : World) (c1 : w.cell? ⟨b, 1, none⟩ = some (.slice none 0 0)) : Calls Tryz.prog 79 #[.pointer (some ⟨b, 0, none⟩)] w fun e w' => e = .returned (.string ⟨#[]⟩) /\ Below B w w' := by
 have hSD : ∀ W, (Builtin.unsafeSliceData_ #[125] 192 #[.slice none 0 0]).run Tryz.prog W = .ok (.pointer none) W := fun W => by kernel_rfl
 have hUS : ∀ W, (Builtin.unsafeString_ #[192, 3] 9 #[.pointer none, .int .i64 0]).run Tryz.prog W = .ok (.string ⟨#[]⟩) W := fun W => by kernel_rfl
 go_enter Tryz.func79, Tryz.ntmps79
 go_wp2_with fail
 go_quiet (fail)
 go_wp2_with fail
 go_ret
 exact ⟨rfl, dO (Below.refl B w) _⟩
theorem o7 (B b : Nat) (l : List UInt8) (w : World) (h : PC B b l w) : Calls Tryz.prog 79 #[.pointer (some ⟨b, 0, none⟩)] w fun e w' => e = .returned (.string ⟨l.toArray⟩) /\ Below B w w' := by
 cases l with
 | nil => exact uY B b w (h.2 rfl)
 | cons x r => exact uX B b (x :: r) w h.1 (by simp)
end Go.Proofs.YtnpapppipccdbaaGreatDoor
namespace Go.Proofs.YtnpapppipccdbaaGreatDoor
open Go.RowKit Lx Tr
def bU : List ByteArray -> List UInt8
 | [] => []
 | x :: xs => x.data.toList ++ bU xs
theorem sX : ∀ (l : List ByteArray) (x : ByteArray), bU (l ++ [x]) = bU l ++ x.data.toList
 | [], x => by simp [bU]
 | y :: l, x => by show y.data.toList ++ bU (l ++ [x]) = _; rw [sX l x, <- List.append_assoc]; rfl
theorem sY {ps : List ByteArray} {k : Nat} {x : ByteArray} (h : ps[k]? = some x) : bU (ps.take (k + 1)) = bU (ps.take k) ++ x.data.toList := by
 rw [List.take_add_one, h]
 exact sX _ _
theorem BD : ∀ (ps : List ByteArray) (k : Nat), (bU (ps.take k)).length <= (bU ps).length
 | [], k => by simp [bU]
 | x :: xs, 0 => Nat.zero_le _
 | x :: xs, k + 1 => by
  show (x.data.toList ++ bU (xs.take k)).length <= (x.data.toList ++ bU xs).length
  rw [List.length_append, List.length_append]
  exact Nat.add_le_add_left (BD xs k) _
theorem BE (B b g cap : Nat) (l : List UInt8) (ps : List ByteArray) (xs : Array Value) (fz : Nat × Nat) (w : World) (h : PC B b l w) (hB : B <= w.heap.size) (hg : w.heap[g]? = some (Obj.cells xs 9 fz)) (hgb : g ≠ b) (hx : ∀ j x, ps[j]? = some x -> w.cell? ⟨g, j, none⟩ = some (.string x)) (hlen : l.length + (bU ps).length <= 100000000) (hn : ps.length <= 10000) :
  Calls Tryz.prog 129 #[.pointer (some ⟨b, 0, none⟩), .slice (some ⟨g, 0, none⟩) ps.length cap] w fun e w' => e = .returned (.tuple #[]) /\ PC B b (l ++ bU ps) w' /\ Below B w w' /\ Others b w w' := by
 have HI0 : Hid (PC B b (l ++ bU (ps.take 0)) w) := zz (by rw [List.take_zero]; show PC B b (l ++ []) w; rw [List.append_nil]; exact h)
 have HB := zz hB
 have HG := zz hg
 have HX := zz hx
 have HGB := zz hgb
 have HLEN := zz hlen
 clear h hB hg hgb hx hlen
 go_enter Tryz.func129, Tryz.ntmps129
 go_wp2_with fail
 go_loopw [8, 5] (fun i _ wr => ∃ k : Nat, k <= ps.length /\ i = .int .i64 k /\ PC B b (l ++ bU (ps.take k)) wr /\ Below B w wr /\ Others b w wr) (fun i _ _ => ps.length - (intOf i).toNat)
 case atStart => exact ⟨0, Nat.zero_le _, rfl, HI0.out, Below.refl _ _, Others.refl _ _⟩
 case round =>
  obtain ⟨k, hk, rfl, hp, hb, ho⟩ := hrel
  have HP := zz hp
  have HBL := zz hb
  have HO := zz ho
  clear hp hb ho
  by_cases hlt : k < ps.length
  ·obtain ⟨x, hkx⟩ : ∃ x, ps[k]? = some x := ⟨_, List.getElem?_eq_getElem hlt⟩
   have hgw := HO.out g xs 9 fz HGB.out (by decide) HG.out
   have c0 : wr.cell? ⟨g, k, none⟩ = some (.string x) := by
    have := HX.out k x hkx
    rw [Lib.cell_of_heap HG.out] at this
    rw [Lib.cell_of_heap hgw]; exact this
   have hki : (k : Int) < (ps.length : Int) := by omega
   have hkii : (0 : Int) <= (k : Int) /\ (k : Int) < (ps.length : Int) := by omega
   have hw : IntKind.i64.wrap ((k : Int) + 1) = (k : Int) + 1 := IntWalk.i64_in _ (by omega)
   have HKX := zz hkx
   have hlen2 : (l ++ bU (ps.take k)).length + x.size <= 100000000 := by
    have h1 := BD ps (k + 1)
    rw [sY hkx, List.length_append] at h1
    have h2 : x.data.toList.length = x.size := by simp
    rw [List.length_append]
    have := HLEN.out
    omega
   have HWR := zz (zJ B b (l ++ bU (ps.take k)) x wr HP.out hlen2 (Nat.le_trans HB.out HBL.out.size))
   clear hgw hkx hlen2
   go_wp2_with fail
   refine HWR.out.mono ?_
   rintro e w2 ⟨rfl, hp2, hb2, ho2⟩
   have HP2 := zz hp2
   have HB2 := zz hb2
   have HO2 := zz ho2
   clear hp2 hb2 ho2
   go_wp2_with fail
   refine ⟨⟨k + 1, by omega, by simp, ?_, HBL.out.trans HB2.out, HO.out.trans HO2.out⟩, ?_⟩
   ·rw [sY HKX.out, <- List.append_assoc]; exact HP2.out
   ·simp [intOf]; omega
  ·have hki : ¬ (k : Int) < (ps.length : Int) := by omega
   have hkk : k = ps.length := by omega
   have HKK := zz hkk
   clear hkk
   go_wp2_with fail
   go_end0
   refine ⟨rfl, ?_, HBL.out, HO.out⟩
   have h1 := HP.out
   rw [HKK.out, List.take_length] at h1
   exact h1
end Go.Proofs.YtnpapppipccdbaaGreatDoor
namespace Go.Proofs.YtnpapppipccdbaaGreatDoor
open Go.RowKit Lx Tr
variable {w w' : World}
def sgV (op : Nat) : B := if op = 30 then [38, 38] else if op = 31 then [124, 124] else cQ op
def kM (n : Nat) : B := Lib.itoa (n : Int)
def exW (least : Nat) (x : Ex) (bare : B) : B := match x with
 | .nil => []
 | .mk code _ _ op _ _ _ _ => if code = 5 /\ bN op < least then [40] ++ (bare ++ [41]) else bare
mutual
def aH : Ex -> B
 | .nil => []
 | .mk code _ n op name l r args =>
  if code = 1 then kM n
  else if code = 2 then (if n = 0 then cW else eY)
  else if code = 3 then iS
  else if code = 4 then name
  else if code = 5 then exW (bN op) l (aH l) ++ ([32] ++ (sgV op ++ ([32] ++ exW (bN op + 1) r (aH r))))
  else if code = 6 then cQ op ++ exW 6 l (aH l)
  else if code = 10 then aM ++ exW 6 l (aH l)
  else if code = 8 then dZ ++ ([40] ++ (exW 1 l (aH l) ++ [41]))
  else if code = 9 then iR ++ ([40] ++ (exW 1 l (aH l) ++ [41]))
  else if code = 7 then name ++ ([40] ++ (f7 true args ++ [41]))
  else []
def f7 : Bool -> Exs -> B
 | _, .nil => []
 | first, .cons x xs => (if first then [] else [44, 32]) ++ (exW 1 x (aH x) ++ f7 false xs)
end
def exV (least : Nat) (x : Ex) : B := exW least x (aH x)
theorem PB.fresh {B b : Nat} {l : List UInt8} (h : PB B b l w) (hb : Below w.heap.size w w') : PB B b l w' := by
 have key : ∀ p, Lib.BuilderAt 129 5 B b p (Lib.byteCells l) w -> Lib.BuilderAt 129 5 B b p (Lib.byteCells l) w' := fun p ⟨h1, v, h2, h3, h4⟩ =>
  ⟨h1, v, by rw [hb.block b (Array.getElem?_eq_some_iff.1 h2).1]; exact h2, (Keeps.of_new (S := fun _ => False) hb).row h3 (fun _ _ e => e), h4⟩
 exact h.imp (key _) (key _)
theorem PB.lt {B b : Nat} {l : List UInt8} (h : PB B b l w) : b < w.heap.size := by
 rcases h with ⟨_, v, h2, _⟩ | ⟨_, v, h2, _⟩ <;> exact (Array.getElem?_eq_some_iff.1 h2).1
theorem PC.fresh {B b : Nat} {l : List UInt8} (h : PC B b l w) (hb : Below w.heap.size w w') : PC B b l w' :=
 ⟨h.1.fresh hb, fun e => by rw [hb.cell (p := ⟨b, 1, none⟩) h.1.lt]; exact h.2 e⟩
theorem Others.of_new {b : Nat} (hb : Below w.heap.size w w') : Others b w w' := fun k xs e fz _ _ h => by rw [hb.block k (Array.getElem?_eq_some_iff.1 h).1]; exact h
theorem bZ (B b : Nat) (l : List UInt8) (ps : List ByteArray) (w : World) (h : PC B b l w) (hB : B <= w.heap.size) (hlen : l.length + (bU ps).length <= 100000000) (hn : ps.length <= 10000) :
  Calls Tryz.prog 129 #[.pointer (some ⟨b, 0, none⟩), .slice (some ⟨w.heap.size, 0, none⟩) ps.length ps.length] (w.alloc (.cells (ps.map Value.string).toArray 9)) fun e w' => e = .returned (.tuple #[]) /\ PC B b (l ++ bU ps) w' /\ Below B w w' /\ Others b w w' := by
 have hb : Below w.heap.size w (w.alloc (.cells (ps.map Value.string).toArray 9)) := ((Keeps.refl (fun _ => False) w).alloc _).below (Nat.le_refl _) (fun _ _ e => e.elim)
 have hlt := h.1.lt
 refine (BE B b w.heap.size ps.length l ps (ps.map Value.string).toArray (0, 0) _ (h.fresh hb) (Nat.le_trans hB hb.size) (heap_alloc_new w _) (by omega) (fun j x hj => bK _ _ _ j _ (by simp [hj]) rfl) hlen hn).mono ?_
 rintro e w' ⟨rfl, h1, h2, h3⟩
 exact ⟨rfl, h1, (hb.mono hB).trans h2, (Others.of_new hb).trans h3⟩
def aI (B b : Nat) (l out : List UInt8) (w : World) (f : FuncId) (args : Array Value) : Prop :=
 Calls Tryz.prog f args w fun e w' => e = .returned (.tuple #[]) /\ PC B b (l ++ out) w' /\ Below B w w' /\ Others b w w'
abbrev PowT (w : World) : Prop := Lib.TabIs Tryz.prog w "internal/strconv.uint64pow10" .u64 Lib.pow10Tab
theorem FZ : Tryz.prog.globalNamed "internal/strconv.uint64pow10" = some 4 := by kernel_rfl
theorem PowT.below {B : Nat} (h : PowT w) (hB : 4 < B) (hb : Below B w w') : PowT w' := by
 unfold PowT Lib.TabIs World.var? at h ⊢
 rw [FZ] at h ⊢
 simp only [Option.bind_some] at h ⊢
 rw [hb.block _ hB]
 exact h
structure PEnv (B : Nat) (w : World) : Prop where
 signs : lB w
 b1 : 7 < B
 pow : PowT w
 b2 : 4 < B
 kinds : mM w
 b3 : 2 < B
theorem PEnv.below {B : Nat} (h : PEnv B w) (hb : Below B w w') : PEnv B w' := ⟨fun k hk => by rw [hb.cell (p := ⟨7, k, none⟩) h.b1]; exact h.signs k hk, h.b1, h.pow.below h.b2 hb, h.b2, fun k hk => by rw [hb.cell (p := ⟨2, k, none⟩) h.b3]; exact h.kinds k hk, h.b3⟩
theorem PEnv.mono {B C : Nat} (h : PEnv B w) (hc : B <= C) : PEnv C w := ⟨h.signs, Nat.lt_of_lt_of_le h.b1 hc, h.pow, Nat.lt_of_lt_of_le h.b2 hc, h.kinds, Nat.lt_of_lt_of_le h.b3 hc⟩
def J2 (B b : Nat) (x : Ex) : Prop :=
 ∀ (l : List UInt8) (w : World) (v : Value), PC B b l w -> B <= w.heap.size -> PEnv B w -> ExIn w (fun k => k < B) v x -> l.length + (aH x).length <= 100000000 -> x ≠ .nil -> aI B b l (aH x) w 187 #[.pointer (some ⟨b, 0, none⟩), v]
def gI (B b : Nat) (x : Ex) : Prop :=
 ∀ (least : Nat) (l : List UInt8) (w : World) (v : Value), PC B b l w -> B <= w.heap.size -> PEnv B w -> ExIn w (fun k => k < B) v x -> l.length + (exV least x).length <= 100000000 -> aI B b l (exV least x) w 132 #[.pointer (some ⟨b, 0, none⟩), v, .int .i64 (least : Nat)]
theorem ExIn.below {B : Nat} {v : Value} {x : Ex} (h : ExIn w (fun k => k < B) v x) (hb : Below B w w') : ExIn w' (fun k => k < B) v x :=
 ExIn.keeps h (Keeps.of_below (S := fun k => B <= k) hb (fun _ _ e => e)) (fun k hk e => by have h1 : k < B := hk; have h2 : B <= k := e; omega)
theorem sZ {B b : Nat} {x : Ex} (hC : J2 B b x) : gI B b x := by
 intro least l w v h hB hP hx hlen
 unfold aI
 cases x with
 | nil =>
  have hv : v = .pointer none := hx
  subst hv
  have hout : l ++ exV least .nil = l := List.append_nil l
  rw [hout]
  have H := zz h
  clear h hx hP hC hlen hout
  go_enter Tryz.func132, Tryz.ntmps132
  go_wp2_with fail
  try simp only [Exit.inBlock, Exit.then]
  refine bodyPost_ret (results_none rfl _ _ _) rfl ?_
  exact ⟨rfl, H.out, Below.refl _ _, Others.refl _ _⟩
 | mk code at_ n op name lx rx ar =>
  have hx' := hx
  obtain ⟨bk, lv, rv, av, rfl, hbk, c0, _, _, _, c4, _⟩ := hx'
  have HC := zz (hC l w _ h hB hP hx)
  have HL : Hid (∀ W, Calls Tryz.prog 186 #[.int .i64 (op : Nat)] W fun e w' => e = .returned (.int .i64 (bN op : Nat)) /\ W = w') := zz fun W => oG op W
  have H := zz h
  have HB := zz hB
  have HP := zz hP
  have HX := zz hx
  have HCC := zz hC
  by_cases hcond : code = 5 /\ bN op < least
  ·have hout : exV least (.mk code at_ n op name lx rx ar) = [40] ++ (aH (.mk code at_ n op name lx rx ar) ++ [41]) := by unfold exV exW; exact if_pos hcond
   rw [hout] at hlen ⊢
   rw [List.length_append, List.length_append] at hlen
   have HLN : Hid (l.length + (1 + ((aH (.mk code at_ n op name lx rx ar)).length + 1)) <= 100000000) := zz hlen
   have HPUT := zz (bZ B b l [⟨#[40]⟩] w h hB (by have := HLN.out; show l.length + 1 <= _; omega) (by decide))
   have e5 : ((code : Int) == 5) = true := by rw [hcond.1]; rfl
   have hlt : ((bN op : Nat) : Int) < (least : Int) := by omega
   clear h hx hP hC hlen hout HC hcond
   go_enter Tryz.func132, Tryz.ntmps132
   go_wp2_with (go_at_call 186; refine (HL.out _).mono ?_; rintro e w2 ⟨rfl, rfl⟩)
   refine HPUT.out.mono ?_
   rintro e w3 ⟨rfl, h3, hb3, ho3⟩
   have hB3 := Nat.le_trans HB.out hb3.size
   have HBA := zz (HCC.out (l ++ [40]) w3 _ h3 hB3 (HP.out.below hb3) (HX.out.below hb3) (by have := HLN.out; rw [List.length_append]; show l.length + 1 + _ <= _; omega) (fun e => by cases e))
   have HB3 := zz hb3
   have HO3 := zz ho3
   clear h3 hb3 hB3 ho3
   go_wp2_with fail
   refine HBA.out.mono ?_
   rintro e w4 ⟨rfl, h4, hb4, ho4⟩
   have hB4 := Nat.le_trans HB.out (HB3.out.trans hb4).size
   have HPUT2 := zz (bZ B b _ [⟨#[41]⟩] w4 h4 hB4 (by have := HLN.out; rw [List.length_append, List.length_append]; show l.length + 1 + _ + 1 <= _; omega) (by decide))
   have HB4 := zz (HB3.out.trans hb4)
   have HO4 := zz (HO3.out.trans ho4)
   clear h4 hb4 hB4 ho4
   go_wp2_with fail
   refine HPUT2.out.mono ?_
   rintro e w5 ⟨rfl, h5, hb5, ho5⟩
   have h5' : PC B b (l ++ ([40] ++ (aH (.mk code at_ n op name lx rx ar) ++ [41]))) w5 := by
    have e : l ++ ([40] ++ (aH (.mk code at_ n op name lx rx ar) ++ [41])) = l ++ [40] ++ aH (.mk code at_ n op name lx rx ar) ++ bU [⟨#[41]⟩] := by
     simp only [List.append_assoc]; rfl
    rw [e]; exact h5
   have H5 := zz h5'
   have HB5 := zz (HB4.out.trans hb5)
   have HO5 := zz (HO4.out.trans ho5)
   clear h5 h5' hb5 ho5
   go_wp2_with fail
   try simp only [Exit.inBlock, Exit.then]
   refine bodyPost_ret (results_none rfl _ _ _) rfl ?_
   exact ⟨rfl, H5.out, HB5.out, HO5.out⟩
  ·have hout : exV least (.mk code at_ n op name lx rx ar) = aH (.mk code at_ n op name lx rx ar) := by unfold exV exW; exact if_neg hcond
   rw [hout] at hlen ⊢
   have HW := zz (HC.out hlen (fun e => by cases e))
   clear h hx hP hC hlen hout HC
   by_cases h5 : code = 5
   ·have e5 : ((code : Int) == 5) = true := by rw [h5]; rfl
    have hlt : ¬ ((bN op : Nat) : Int) < (least : Int) := by omega
    clear hcond h5
    go_enter Tryz.func132, Tryz.ntmps132
    go_wp2_with (go_at_call 186; refine (HL.out _).mono ?_; rintro e w2 ⟨rfl, rfl⟩)
    refine HW.out.mono ?_
    rintro e w2 ⟨rfl, h2, hb2, ho2⟩
    have H2 := zz h2
    have HB2 := zz hb2
    have HO2 := zz ho2
    clear h2 hb2 ho2
    go_wp2_with fail
    go_end0
    exact ⟨rfl, H2.out, HB2.out, HO2.out⟩
   ·have e5 : ((code : Int) == 5) = false := beq_eq_false_iff_ne.2 (by omega)
    clear hcond h5
    go_enter Tryz.func132, Tryz.ntmps132
    go_wp2_with fail
    refine HW.out.mono ?_
    rintro e w2 ⟨rfl, h2, hb2, ho2⟩
    have H2 := zz h2
    have HB2 := zz hb2
    have HO2 := zz ho2
    clear h2 hb2 ho2
    go_wp2_with fail
    go_end0
    exact ⟨rfl, H2.out, HB2.out, HO2.out⟩
def eE : Bool -> List Ex -> B
 | _, [] => []
 | f, x :: xs => (if f then [] else [44, 32]) ++ (exV 1 x ++ eE false xs)
theorem s3 : ∀ (l : List Ex) (f : Bool) (x : Ex), eE f (l ++ [x]) = eE f l ++ ((if f = true /\ l = [] then [] else [44, 32]) ++ exV 1 x)
 | [], f, x => by
  show (if f then [] else [44, 32]) ++ (exV 1 x ++ []) = [] ++ _
  cases f <;> simp
 | y :: l, f, x => by
  show (if f then [] else [44, 32]) ++ (exV 1 y ++ eE false (l ++ [x])) = ((if f then [] else [44, 32]) ++ (exV 1 y ++ eE false l)) ++ _
  rw [s3 l false x, if_neg (show ¬ (false = true /\ l = []) from fun e => by cases e.1), if_neg (show ¬ (f = true /\ y :: l = []) from fun e => by cases e.2)]
  simp only [List.append_assoc]
theorem s4 : ∀ (xs : Exs) (f : Bool), f7 f xs = eE f xs.toList
 | .nil, _ => rfl
 | .cons x xs, f => by
  show (if f then [] else [44, 32]) ++ (exW 1 x (aH x) ++ f7 false xs) = _
  rw [s4 xs false]; rfl
theorem Exs.len_list : ∀ (xs : Exs), xs.toList.length = xs.len
 | .nil => rfl
 | .cons _ xs => congrArg (· + 1) (Exs.len_list xs)
theorem BF : ∀ (l : List Ex) (k : Nat) (f : Bool), (eE f (l.take k)).length <= (eE f l).length
 | [], k, f => by simp [eE]
 | x :: xs, 0, f => Nat.zero_le _
 | x :: xs, k + 1, f => by
  show ((if f then [] else [44, 32]) ++ (exV 1 x ++ eE false (xs.take k))).length <= ((if f then [] else [44, 32]) ++ (exV 1 x ++ eE false xs)).length
  have := BF xs k false
  simp only [List.length_append]
  omega
theorem s7 : ∀ ys : List Ex, 2 * ys.length <= (eE false ys).length
 | [] => by simp
 | y :: ys => by
  have := s7 ys
  show 2 * (ys.length + 1) <= ([44, 32] ++ (exV 1 y ++ eE false ys)).length
  simp only [List.length_append, List.length_cons, List.length_nil]
  omega
theorem F0 (l : List Ex) (f : Bool) : 2 * l.length <= (eE f l).length + 2 := by
 cases l with
 | nil => simp
 | cons x xs =>
  have := s7 xs
  show 2 * (xs.length + 1) <= ((if f then [] else [44, 32]) ++ (exV 1 x ++ eE false xs)).length + 2
  simp only [List.length_append]
  omega
def ArgsAt (B b : Nat) (w : World) (av : Value) (l : List Ex) : Prop :=
 (av = .slice none 0 0 /\ l = []) \/ ∃ g cap, av = .slice (some ⟨g, 0, none⟩) l.length cap /\ (∀ w', Below B w w' -> Others b w w' -> ∀ i : Nat, w'.cell? ⟨g, i, none⟩ = w.cell? ⟨g, i, none⟩) ∧
  ∀ i x, l[i]? = some x -> ∃ v, w.cell? ⟨g, i, none⟩ = some v /\ ExIn w (fun k => k < B) v x
theorem oO {B b : Nat} (name : Lx.B) (args : List Ex) (hA : ∀ x ∈ args, gI B b x) (l : List UInt8) (w : World) (av : Value) (h : PC B b l w) (hB : B <= w.heap.size) (hP : PEnv B w) (hx : ArgsAt B b w av args) (hlen : l.length + (name ++ ([40] ++ (eE true args ++ [41]))).length <= 100000000) :
  aI B b l (name ++ ([40] ++ (eE true args ++ [41]))) w 236 #[.pointer (some ⟨b, 0, none⟩), .string (mkT name), av] := by
 unfold aI
 obtain ⟨ao, cap, hav⟩ : ∃ ao cap, av = .slice ao args.length cap := by
  rcases hx with ⟨e1, e2⟩ | ⟨g, cap, e1, _⟩
  ·exact ⟨none, 0, by rw [e1, e2]; rfl⟩
  ·exact ⟨_, _, e1⟩
 subst hav
 have hl2 : (mkT name).data.toList = name := rfl
 have hn : args.length <= 100000000 := by
  have := F0 args true
  simp only [List.length_append, List.length_singleton] at hlen
  omega
 simp only [List.length_append, List.length_singleton] at hlen
 have HPUT := zz (bZ B b l [mkT name, ⟨#[40]⟩] w h hB (by show l.length + (name ++ ([40] ++ [])).length <= _; simp only [List.length_append, List.length_singleton, List.length_nil]; omega) (by simp))
 have HA := zz hA
 have HB := zz hB
 have HP := zz hP
 have HX := zz hx
 have HLN : Hid (l.length + (name.length + (1 + ((eE true args).length + 1))) <= 100000000) := zz hlen
 clear hA h hB hP hx hlen hl2
 go_enter Tryz.func236, Tryz.ntmps236
 go_wp2_with fail
 refine HPUT.out.mono ?_
 rintro e w1 ⟨rfl, h1, hb1, ho1⟩
 have HI0 : Hid (PC B b (l ++ (name ++ ([40] ++ eE true (args.take 0)))) w1) := zz h1
 have HB1 := zz hb1
 have HO1 := zz ho1
 clear h1 hb1 ho1
 go_wp2_with fail
 go_loopw [14, 6, 7] (fun i _ _ wr => ∃ k : Nat, k <= args.length /\ i = .int .i64 k /\ PC B b (l ++ (name ++ ([40] ++ eE true (args.take k)))) wr /\ Below B w wr /\ Others b w wr) (fun i _ _ _ => args.length - (intOf i).toNat)
 case atStart => exact ⟨0, Nat.zero_le _, rfl, HI0.out, HB1.out, HO1.out⟩
 case round =>
  obtain ⟨k, hk, rfl, hp, hb, ho⟩ := hrel
  have HPP := zz hp
  have HBL := zz hb
  have HO := zz ho
  clear hp hb ho
  by_cases hlt : k < args.length
  ·obtain ⟨x, hkx⟩ : ∃ x, args[k]? = some x := ⟨_, List.getElem?_eq_getElem hlt⟩
   obtain ⟨g, v, rfl, hcell, hxin⟩ : ∃ g v, ao = some ⟨g, 0, none⟩ /\ wr.cell? ⟨g, k, none⟩ = some v /\ ExIn w (fun k => k < B) v x := by
    rcases HX.out with ⟨_, e2⟩ | ⟨g, cap', e1, hst, hel⟩
    ·rw [e2] at hlt; exact absurd hlt (Nat.not_lt_zero _)
    ·injection e1 with e3 _ _
     obtain ⟨v, h1, h2⟩ := hel k x hkx
     exact ⟨g, v, e3, by rw [hst wr HBL.out HO.out k]; exact h1, h2⟩
   have hki : (k : Int) < (args.length : Int) := by omega
   have hkii : (0 : Int) <= (k : Int) /\ (k : Int) < (args.length : Int) := by omega
   have hw : IntKind.i64.wrap ((k : Int) + 1) = (k : Int) + 1 := IntWalk.i64_in _ (by omega)
   have htk : args.take (k + 1) = args.take k ++ [x] := by rw [List.take_add_one, hkx]; rfl
   have hAT : eE true (args.take (k + 1)) = eE true (args.take k) ++ ((if k = 0 then [] else [44, 32]) ++ exV 1 x) := by
    rw [htk, s3]
    by_cases hk0 : k = 0
    ·rw [if_pos hk0, if_pos ⟨rfl, by rw [hk0, List.take_zero]⟩]
    ·rw [if_neg hk0, if_neg (fun e => hk0 (by have h7 := congrArg List.length e.2; rw [List.length_take] at h7; have h8 : min k args.length = 0 := h7; omega))]
   have hle := BF args (k + 1) true
   rw [hAT, List.length_append, List.length_append] at hle
   have hmem : x ∈ args := List.mem_of_getElem? hkx
   have HXW := zz (hxin.below HBL.out)
   have HEX := zz (HA.out x hmem)
   have HAT := zz hAT
   have HLE := zz hle
   clear hkx hxin htk hAT hle hmem
   by_cases hk0 : k = 0
   ·subst hk0
    have HE := zz (HEX.out 1 _ wr v HPP.out (Nat.le_trans HB.out HBL.out.size) (HP.out.below HBL.out) HXW.out (by have := HLN.out; have h9 := HLE.out; rw [if_pos rfl] at h9; simp only [List.length_append, List.length_singleton, List.length_nil] at h9 ⊢; omega))
    go_wp2_with fail
    refine HE.out.mono ?_
    rintro e w3 ⟨rfl, h3, hb3, ho3⟩
    have h3' : PC B b (l ++ (name ++ ([40] ++ eE true (args.take (0 + 1))))) w3 := by
     have e : l ++ (name ++ ([40] ++ eE true (args.take (0 + 1)))) = l ++ (name ++ ([40] ++ eE true (args.take 0))) ++ exV 1 x := by
      rw [HAT.out]; simp only [List.append_assoc]; rfl
     rw [e]; exact h3
    have H3 := zz h3'
    have HB3 := zz (HBL.out.trans hb3)
    have HO3 := zz (HO.out.trans ho3)
    clear h3 h3' hb3 ho3
    go_wp2_with fail
    exact ⟨⟨0 + 1, by omega, by simp, H3.out, HB3.out, HO3.out⟩, by simp [intOf]; omega⟩
   ·have hgt : (0 : Int) < (k : Int) := by omega
    have HK0 := zz hk0
    have HPUT2 := zz (bZ B b _ [⟨#[44, 32]⟩] wr HPP.out (Nat.le_trans HB.out HBL.out.size) (by have := HLN.out; have h9 := HLE.out; rw [if_neg HK0.out] at h9; simp only [List.length_append, List.length_nil, List.length_cons] at h9 ⊢; show _ + 2 <= _; omega) (by simp))
    clear hk0
    go_wp2_with fail
    refine HPUT2.out.mono ?_
    rintro e w2 ⟨rfl, h2, hb2, ho2⟩
    have HB2 := zz (HBL.out.trans hb2)
    have HO2 := zz (HO.out.trans ho2)
    have HE := zz (HEX.out 1 _ w2 v h2 (Nat.le_trans HB.out HB2.out.size) (HP.out.below HB2.out) (HXW.out.below hb2) (by have := HLN.out; have h9 := HLE.out; rw [if_neg HK0.out] at h9; simp only [List.length_append, List.length_nil, List.length_cons] at h9 ⊢; show _ + 2 + _ <= _; omega))
    clear h2 hb2 ho2
    go_wp2_with fail
    refine HE.out.mono ?_
    rintro e w3 ⟨rfl, h3, hb3, ho3⟩
    have h3' : PC B b (l ++ (name ++ ([40] ++ eE true (args.take (k + 1))))) w3 := by
     have e : l ++ (name ++ ([40] ++ eE true (args.take (k + 1)))) = l ++ (name ++ ([40] ++ eE true (args.take k))) ++ bU [⟨#[44, 32]⟩] ++ exV 1 x := by
      rw [HAT.out, if_neg HK0.out]; simp only [List.append_assoc]; rfl
     rw [e]; exact h3
    have H3 := zz h3'
    have HB3 := zz (HB2.out.trans hb3)
    have HO3 := zz (HO2.out.trans ho3)
    clear h3 h3' hb3 ho3
    go_wp2_with fail
    exact ⟨⟨k + 1, by omega, by simp, H3.out, HB3.out, HO3.out⟩, by simp [intOf]; omega⟩
  ·have hki : ¬ (k : Int) < (args.length : Int) := by omega
   have hkk : k = args.length := by omega
   have HKK := zz hkk
   have h2 := HPP.out
   rw [hkk, List.take_length] at h2
   have HPUT2 := zz (bZ B b _ [⟨#[41]⟩] wr h2 (Nat.le_trans HB.out HBL.out.size) (by have := HLN.out; simp only [List.length_append, List.length_singleton]; show _ + 1 <= _; omega) (by decide))
   clear hkk h2
   go_wp2_with fail
   refine HPUT2.out.mono ?_
   rintro e w3 ⟨rfl, h3, hb3, ho3⟩
   have h3' : PC B b (l ++ (name ++ ([40] ++ (eE true args ++ [41])))) w3 := by
    have e : l ++ (name ++ ([40] ++ (eE true args ++ [41]))) = l ++ (name ++ ([40] ++ eE true args)) ++ bU [⟨#[41]⟩] := by
     simp only [List.append_assoc]; rfl
    rw [e]; exact h3
   have H3 := zz h3'
   have HB3 := zz (HBL.out.trans hb3)
   have HO3 := zz (HO.out.trans ho3)
   clear h3 h3' hb3 ho3
   go_wp2_with fail
   go_end0
   exact ⟨rfl, H3.out, HB3.out, HO3.out⟩
end Go.Proofs.YtnpapppipccdbaaGreatDoor
