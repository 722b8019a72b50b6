/-
  Arrays of 64 bools: what they hold as a function of the place; loads and stores of whole ones.
-/
import Derived.Test.YtonpbbflloljgaaRows
import Derived.WalkKit
import Derived.WalkSpells
import Derived.WalkLawsBesides
import Derived.Lib.Hide
import Derived.Laws.Rows
import Derived.Laws.Tables
import Derived.Below
import Derived.Deep.RegionWith
import Derived.Deep.DrawnRows
import Derived.Deep.QuietTactic
import Derived.BigQuiet
import Derived.Maps.RangeWalk
namespace Go.Proofs.Ytonpbbflloljgaa
open Go.RowKit

/-- 64 bools in memory: the i-th is f i. -/
def arrV (f : Nat → Bool) : Array Value := ((List.range 64).map fun i => Value.bool (f i)).toArray
theorem arrV_size (f : Nat → Bool) : (arrV f).size = 64 := by simp [arrV]
theorem arrV_get (f : Nat → Bool) (k : Nat) (h : k < 64) : (arrV f)[k]? = some (.bool (f k)) := by simp [arrV, h]
theorem arrV_ext (f g : Nat → Bool) (h : ∀ i, i < 64 → f i = g i) : arrV f = arrV g := by
  unfold arrV
  congr 1
  apply List.map_congr_left
  intro i hi
  rw [h i (List.mem_range.1 hi)]
theorem arrV_set (f g : Nat → Bool) (k : Nat) (b : Bool) (hk : g k = b) (h : ∀ i, i ≠ k → f i = g i) : (arrV f).setIfInBounds k (.bool b) = arrV g := by
  apply Array.ext_getElem?
  intro i
  rw [Array.getElem?_setIfInBounds]
  by_cases hi : i < 64
  · rw [arrV_get _ _ hi, arrV_get _ _ hi, arrV_size]
    by_cases e : k = i
    · subst e; rw [if_pos rfl, if_pos (by omega), hk]
    · rw [if_neg e, h i (Ne.symm e)]
  · have h1 : (arrV f)[i]? = none := Array.getElem?_eq_none (by rw [arrV_size]; omega)
    have h2 : (arrV g)[i]? = none := Array.getElem?_eq_none (by rw [arrV_size]; omega)
    rw [h1, h2, arrV_size]
    by_cases e : k = i
    · rw [if_pos e, if_neg (by omega)]
    · rw [if_neg e]
theorem arrV_one (f : Nat → Bool) : (arrV f).all (·.oneCell') = true := by
  rw [Array.all_eq_true_iff_forall_mem]
  intro x hx
  simp only [arrV, List.mem_toArray, List.mem_map] at hx
  obtain ⟨i, _, rfl⟩ := hx
  rfl
theorem info_arr : (Try.prog.info? 54).map (·.size) = some 64 := by kernel_rfl
theorem info_arrV (f : Nat → Bool) : (Try.prog.info? 54).map (·.size) = some (arrV f).size := by rw [arrV_size]; exact info_arr
def offV : Nat → Bool := fun _ => false
theorem arr_zero : arrV offV = #[Value.bool false, Value.bool false, Value.bool false, Value.bool false, Value.bool false, Value.bool false, Value.bool false, Value.bool false, Value.bool false, Value.bool false, Value.bool false, Value.bool false, Value.bool false, Value.bool false, Value.bool false, Value.bool false, Value.bool false, Value.bool false, Value.bool false, Value.bool false, Value.bool false, Value.bool false, Value.bool false, Value.bool false, Value.bool false, Value.bool false, Value.bool false, Value.bool false, Value.bool false, Value.bool false, Value.bool false, Value.bool false, Value.bool false, Value.bool false, Value.bool false, Value.bool false, Value.bool false, Value.bool false, Value.bool false, Value.bool false, Value.bool false, Value.bool false, Value.bool false, Value.bool false, Value.bool false, Value.bool false, Value.bool false, Value.bool false, Value.bool false, Value.bool false, Value.bool false, Value.bool false, Value.bool false, Value.bool false, Value.bool false, Value.bool false, Value.bool false, Value.bool false, Value.bool false, Value.bool false, Value.bool false, Value.bool false, Value.bool false, Value.bool false] := by rfl

/-- The bits of a number as such an array. -/
def bvV (x : BitVec 64) : Array Value := arrV x.getLsbD
theorem bvV_size (x : BitVec 64) : (bvV x).size = 64 := arrV_size _
theorem bvV_get (x : BitVec 64) (k : Nat) (h : k < 64) : (bvV x)[k]? = some (.bool (x.getLsbD k)) := arrV_get _ _ h
theorem arr_bv (f : Nat → Bool) (x : BitVec 64) (h : ∀ i, i < 64 → f i = x.getLsbD i) : arrV f = bvV x := arrV_ext _ _ h
theorem off_bv : arrV offV = bvV 0 := arr_bv _ _ fun i _ => by simp [offV]

/-- A whole array stored at a block's head: what is known of the world behind it. -/
theorem store_arr_any {ops : Array Oper} {rest : List Oper} {o : Oper} {a : Act} {w : World} {Q : Exit → Act → World → Prop} (hgd : o.guard = none) (x y : Operand) (ho : o.op = .store 54 x y)
    (g : Nat) (f : Nat → Bool) (hx : a.eval x = .pointer (some ⟨g, 0, none⟩)) (hy : a.eval y = .agg (arrV f))
    (t : TypeId) (old : Array Value) (hg : w.heap[g]? = some (.cells old t (0, 0))) (hold : old.size = 64)
    (h : ∀ W : World, W.heap[g]? = some (.cells (arrV f) t (0, 0)) → (∀ k, k ≠ g → W.heap[k]? = w.heap[k]?) → Below g w W → W.heap.size = w.heap.size → wpList Try.prog ops Q rest (a.put o.dst undef) W) : wpList Try.prog ops Q (o :: rest) a w :=
  wpList_store_row hgd 54 x y ho g (arrV f) hx hy t old hg (info_arrV f) (by rw [hold, arrV_size]) (arrV_one f)
    (h _ (setRow_heap _ _ _ _ _ _ hg) (fun k hk => setRow_other w g k _ hk) ⟨rfl, rfl, rfl, by simp, fun k hk => setRow_other w g k _ (by omega)⟩ (by simp))

/-- The row of cells at a block's head; is it an array of 64? -/
def rowAt (w : World) (b : Nat) : Array Value := match w.heap[b]? with
  | some (.cells cs _ _) => cs
  | _ => #[]
def rowOk (w : World) (b : Nat) : Bool := match w.heap[b]? with
  | some (.cells cs _ (0, 0)) => cs.size == 64
  | _ => false
theorem rowAt_of {w : World} {b : Nat} {cs : Array Value} {t : TypeId} {fr : Nat × Nat} (h : w.heap[b]? = some (.cells cs t fr)) : rowAt w b = cs := by unfold rowAt; rw [h]
theorem rowOk_of {w : World} {b : Nat} {cs : Array Value} {t : TypeId} (h : w.heap[b]? = some (.cells cs t (0, 0))) (hs : cs.size = 64) : rowOk w b = true := by unfold rowOk; rw [h]; simp [hs]
def ptrBlock : Value → Nat
  | .pointer (some ⟨b, 0, none⟩) => b
  | _ => 0
def ptrHead : Value → Bool
  | .pointer (some ⟨_, 0, none⟩) => true
  | _ => false
def isArr : Value → Bool
  | .agg cs => cs.size == 64 && cs.all (·.oneCell')
  | _ => false
def arrOf : Value → Array Value
  | .agg cs => cs
  | _ => #[]
@[go_sem] theorem ptrBlock_mk (b : Nat) : ptrBlock (.pointer (some ⟨b, 0, none⟩)) = b := rfl
@[go_sem] theorem ptrHead_mk (b : Nat) : ptrHead (.pointer (some ⟨b, 0, none⟩)) = true := rfl
@[go_sem] theorem isArr_mk (x : BitVec 64) : isArr (.agg (bvV x)) = true := by
  show ((bvV x).size == 64 && (bvV x).all (·.oneCell')) = true
  rw [Bool.and_eq_true]
  exact ⟨by rw [bvV_size]; rfl, arrV_one _⟩
@[go_sem] theorem arrOf_mk (x : BitVec 64) : arrOf (.agg (bvV x)) = bvV x := rfl
theorem wp_load_arr {d : Option Tmp} {x : Operand} {ty : TypeId} {p : String} {af : Array Edge} {g : Option (Nat × Bool)} {a : Act} {w : World} {K : Act → World → Prop} {Q : Exit → Act → World → Prop}
    (h1 : ptrHead (a.eval x) = true) (h2 : rowOk w (ptrBlock (a.eval x)) = true) :
    Oper.wp Try.prog { dst := d, op := .load 54 x, type := ty, pos := p, after := af, guard := g } a w K Q = K (a.put d (.agg (rowAt w (ptrBlock (a.eval x))))) w := by
  generalize hv : a.eval x = v at h1 h2 ⊢
  match v, h1 with
  | .pointer (some ⟨b, 0, none⟩), _ =>
    rw [ptrBlock_mk] at h2 ⊢
    unfold rowOk at h2
    split at h2
    · rename_i cs t hg
      rw [rowAt_of hg]
      unfold Oper.wp execOp
      have hs : cs.size = 64 := by simpa using h2
      simp only [hv, Instr.loadAt, Instr.sureAddr, Sem.run_bind, Sem.run_pure, Result.andThen_ok, run_loadVar_row w b t 54 cs (0, 0) _ hg Try.underlying54 rfl (by rw [info_arr, hs])]
      rfl
    · cases h2
theorem wp_store_arr {d : Option Tmp} {x y : Operand} {ty : TypeId} {p : String} {af : Array Edge} {g : Option (Nat × Bool)} {a : Act} {w : World} {K : Act → World → Prop} {Q : Exit → Act → World → Prop}
    (h1 : ptrHead (a.eval x) = true) (h2 : rowOk w (ptrBlock (a.eval x)) = true) (h3 : isArr (a.eval y) = true) :
    Oper.wp Try.prog { dst := d, op := .store 54 x y, type := ty, pos := p, after := af, guard := g } a w K Q = K (a.put d undef) (w.setRow (ptrBlock (a.eval x)) (arrOf (a.eval y))) := by
  generalize hv : a.eval x = v at h1 h2 ⊢
  generalize hu : a.eval y = u at h3 ⊢
  match v, h1, u, h3 with
  | .pointer (some ⟨b, 0, none⟩), _, .agg cells, h3 =>
    rw [ptrBlock_mk] at h2 ⊢
    unfold rowOk at h2
    unfold isArr at h3
    rw [Bool.and_eq_true] at h3
    have h31 : cells.size = 64 := by simpa using h3.1
    split at h2
    · rename_i cs t hg
      unfold Oper.wp execOp
      have hs : cs.size = 64 := by simpa using h2
      simp only [hv, hu, Instr.storeAt, Instr.sureAddr, Sem.run_bind, Sem.run_pure, Result.andThen_ok, run_storeVar_row w b t 54 cs cells hg (by rw [info_arr, h31]) (by rw [hs, h31]) h3.2]
      rfl
    · cases h2
end Go.Proofs.Ytonpbbflloljgaa
