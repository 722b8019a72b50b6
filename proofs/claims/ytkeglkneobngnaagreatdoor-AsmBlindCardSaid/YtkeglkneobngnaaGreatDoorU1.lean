/-
  Texts of one proof, in build order: 'xs = append(xs, y)' on a row of the call's own, y of whatever type, as a step of a region that draws, and as a step of the walk. Of no chapter. | The walk of package asm's opOf: the table of names loaded whole, its values kept as one row. | The plain mathematics of chapter 15: strings.FieldsFunc at a blank is the words of a line, whatever its bytes. No walk. | The plain mathematics of chapter 15: the lines that have words, one behind the other; how a text is cut at the place of its first line feed. No walk. | strconv.Itoa at this program: a number's text. Of no chapter. | A slice of numbers that came in: what a walk is told of it. Of no chapter. | Slices of numbers: read (IntsAt), and of the call's own, appended to (OwnI). Of no chapter. | Programs of instructions as they lie in memory: to be read. | Errors by their numbers. | The walks of package code's small functions: span, HasN, isOp, mayBe, count, tag. | The walks of package asm's number and numberOf. | Rows of instructions and of numbers of the call's own. Of chapter 14. | A block and its first cells, which may be written. Of no chapter. | The walks of package asm's insOf, localsOf, headOf. | The walks of package asm's localsOf and headOf. | A range over a function, step by step: what a round is, and what the statement is, where whoever walks it says himself what lies where. Of no chapter. | The reader of package asm in its block, with the rows of its own; what a new function, a new instruction make of it. No walk. | The walks of package asm's readGlobals, readHead, readIns, read.
-/
import Derived.Test.YtkeglkneobngnaaGreatDoorU0
import Derived.Maps.AppendAt
import Derived.Lib.Hide
import Derived.Deep.RegionHeld
import Derived.Deep.DeepCutAuto
import Derived.Deep.MidRow
import Derived.Deep.DrawnRows
import Derived.Lib.FieldsP
import Derived.Lib.IndexLaws
import Derived.Test.YtkeglkneobngnaaGreatDoorUShelf
import Derived.Lib.LaidTab
import Derived.Test.YtkeglkneobngnaaGreatDoorRows
import Derived.WalkKit
import Derived.ProofKit
import Derived.Below
import Derived.Carry
import Derived.Deep.SlicePairs
import Derived.Deep.QuietTactic
import Derived.BigQuiet
import Derived.RangeFuncNested
import Derived.RangeFuncBound
import Derived.RangeFuncLeaves
import Derived.OwnWalkIn
import Derived.Deep.RegionHeld3
namespace Go.Proofs.YtkeglkneobngnaaGreatDoor
open Go.RowKit

theorem slice_of_own {w : World} {B : Nat} {e : TypeId} {size n : Nat} {v : Value} {xs : List Value} (h : w.ownsRow B e size v n xs) : ∃ ao cap, v = .slice ao n cap := by
  rcases h.2 with ⟨rfl, h0⟩ | ⟨g, cap, cur, rfl, _⟩
  · exact ⟨none, 0, by rw [h0]⟩
  · exact ⟨_, _, rfl⟩
theorem own_below {w w' : World} {B : Nat} {e : TypeId} {size n : Nat} {v : Value} {xs : List Value} (h : w.ownsRow B e size v n xs) (hb : Below w.heap.size w w') : w'.ownsRow B e size v n xs :=
  (Keeps.of_new (S := fun _ => False) hb).row h fun _ _ => id
theorem tinfoA {i : Option TypeInfo} {z : Value} {n m : Nat} (h : i.map (fun i => (i.zero, i.size, i.bytes)) = some (some z, n, m)) : ∃ i0, i = some i0 ∧ i0.zero = some z ∧ i0.size = n ∧ i0.bytes = m := by
  cases i with
  | none => cases h
  | some i0 =>
    simp only [Option.map_some, Option.some.injEq, Prod.mk.injEq] at h
    exact ⟨i0, rfl, h.1, h.2.1, h.2.2⟩
theorem step_append1 {ops : Array Oper} {o : Oper} {a : Act} {w : World} {K : Act → World → Prop} {Q : Exit → Act → World → Prop} {F : Prop} (hgd : o.guard = none) (s x : Operand) (t e : TypeId) (z : Value) (size bytes : Nat)
    (ho : o.op = .call { callee := .builtin .append, args := #[s, x], argTypes := #[t, t] }) (ht : Tryz.prog.underlying t = some (.slice e)) (hinfo : (Tryz.prog.info? e).map (fun i => (i.zero, i.size, i.bytes)) = some (some z, size, bytes)) (hz : z.cells.size = size) (hsz : 0 < size) (hby : bytes ≤ 100)
    (B : Nat) (v : Value) (n : Nat) (xs news : List Value) (g c : Nat) (hown : w.ownsRow B e size v n xs) (hn : n ≤ 1000000) (hnl : news.length = size) (hcell : ∀ j u, news[j]? = some u → w.cell? ⟨g, j, none⟩ = some u) (hone : ∀ u ∈ news, u.oneCell' = true) (hB : B ≤ w.heap.size)
    (hs : a.eval s = v) (hx : a.eval x = .slice (some ⟨g, 0, none⟩) 1 c)
    (h : ∀ ao cap w', w'.ownsRow B e size (.slice ao (n + 1) cap) (n + 1) (xs ++ news) → Keeps (fun b => v.ownBlock = some b) w w' → K (a.put o.dst (.slice ao (n + 1) cap)) w') :
    if Region.wanted o (yielded ops a.tmps) = true then Oper.wp Tryz.prog o a w K Q else F := by
  have hw : Region.wanted o (yielded ops a.tmps) = true := by simp [Region.wanted, hgd]
  rw [if_pos hw]
  obtain ⟨i0, hi, hz0, hz1, hz2⟩ := tinfoA hinfo
  have hb3 : (n + 1) * bytes ≤ 140737488355328 := Nat.le_trans (Nat.mul_le_mul (show n + 1 ≤ 1000001 by omega) hby) (by decide)
  obtain ⟨v', w', hr, h1, h2, _, _⟩ := run_append_own_at (P := Tryz.prog) w B t o.type e i0 z size bytes ht hi hz0 hz1 hz2 hz hsz v n xs hown ⟨g, 0, none⟩ 1 c news (by rw [hnl, Nat.one_mul])
    (fun j u hj => by rw [show (⟨g, 0, none⟩ : Addr).add j = ⟨g, j, none⟩ by unfold Addr.add; split <;> simp_all]; exact hcell j u hj) hone (by unfold maxLen; omega) hb3 hB
  obtain ⟨ao', cap', rfl⟩ := slice_of_own h1
  unfold Oper.wp
  simp [execOp, ho, resolve, invoke, builtin, hs, hx, hr, Result.andThen]
  exact h ao' cap' w' h1 (Keeps.of_grownBy h2 fun k _ e => e)
/-- Where the new row lies is told, too. -/
theorem step_append2 {ops : Array Oper} {o : Oper} {a : Act} {w : World} {K : Act → World → Prop} {Q : Exit → Act → World → Prop} {F : Prop} (hgd : o.guard = none) (s x : Operand) (t e : TypeId) (z : Value) (size bytes : Nat)
    (ho : o.op = .call { callee := .builtin .append, args := #[s, x], argTypes := #[t, t] }) (ht : Tryz.prog.underlying t = some (.slice e)) (hinfo : (Tryz.prog.info? e).map (fun i => (i.zero, i.size, i.bytes)) = some (some z, size, bytes)) (hz : z.cells.size = size) (hsz : 0 < size) (hby : bytes ≤ 100)
    (B : Nat) (v : Value) (n : Nat) (xs news : List Value) (g c : Nat) (hown : w.ownsRow B e size v n xs) (hn : n ≤ 1000000) (hnl : news.length = size) (hcell : ∀ j u, news[j]? = some u → w.cell? ⟨g, j, none⟩ = some u) (hone : ∀ u ∈ news, u.oneCell' = true) (hB : B ≤ w.heap.size)
    (hs : a.eval s = v) (hx : a.eval x = .slice (some ⟨g, 0, none⟩) 1 c)
    (h : ∀ ao cap w', w'.ownsRow B e size (.slice ao (n + 1) cap) (n + 1) (xs ++ news) → Keeps (fun b => v.ownBlock = some b) w w' → (∀ k, (Value.slice ao (n + 1) cap).ownBlock = some k → v.ownBlock = some k ∨ w.heap.size ≤ k) → K (a.put o.dst (.slice ao (n + 1) cap)) w') :
    if Region.wanted o (yielded ops a.tmps) = true then Oper.wp Tryz.prog o a w K Q else F := by
  have hw : Region.wanted o (yielded ops a.tmps) = true := by simp [Region.wanted, hgd]
  rw [if_pos hw]
  obtain ⟨i0, hi, hz0, hz1, hz2⟩ := tinfoA hinfo
  have hb3 : (n + 1) * bytes ≤ 140737488355328 := Nat.le_trans (Nat.mul_le_mul (show n + 1 ≤ 1000001 by omega) hby) (by decide)
  obtain ⟨v', w', hr, h1, h2, _, h4⟩ := run_append_own_at (P := Tryz.prog) w B t o.type e i0 z size bytes ht hi hz0 hz1 hz2 hz hsz v n xs hown ⟨g, 0, none⟩ 1 c news (by rw [hnl, Nat.one_mul])
    (fun j u hj => by rw [show (⟨g, 0, none⟩ : Addr).add j = ⟨g, j, none⟩ by unfold Addr.add; split <;> simp_all]; exact hcell j u hj) hone (by unfold maxLen; omega) hb3 hB
  obtain ⟨ao', cap', rfl⟩ := slice_of_own h1
  unfold Oper.wp
  simp [execOp, ho, resolve, invoke, builtin, hs, hx, hr, Result.andThen]
  exact h ao' cap' w' h1 (Keeps.of_grownBy h2 fun k _ e => e) fun k hk => by
    rcases h4 with h4 | h4
    · exact Or.inl (h4 ▸ hk)
    · rw [h4] at hk
      cases hk
      exact Or.inr (Nat.le_refl _)
theorem wpList_append1 {ops : Array Oper} {rest : List Oper} {o : Oper} {a : Act} {w : World} {Q : Exit → Act → World → Prop} (hgd : o.guard = none) (s x : Operand) (t e : TypeId) (z : Value) (size bytes : Nat)
    (ho : o.op = .call { callee := .builtin .append, args := #[s, x], argTypes := #[t, t] }) (ht : Tryz.prog.underlying t = some (.slice e)) (hinfo : (Tryz.prog.info? e).map (fun i => (i.zero, i.size, i.bytes)) = some (some z, size, bytes)) (hz : z.cells.size = size) (hsz : 0 < size) (hby : bytes ≤ 100)
    (B : Nat) (v : Value) (n : Nat) (xs news : List Value) (g c : Nat) (hown : w.ownsRow B e size v n xs) (hn : n ≤ 1000000) (hnl : news.length = size) (hcell : ∀ j u, news[j]? = some u → w.cell? ⟨g, j, none⟩ = some u) (hone : ∀ u ∈ news, u.oneCell' = true) (hB : B ≤ w.heap.size)
    (hs : a.eval s = v) (hx : a.eval x = .slice (some ⟨g, 0, none⟩) 1 c)
    (h : ∀ ao cap w', w'.ownsRow B e size (.slice ao (n + 1) cap) (n + 1) (xs ++ news) → Keeps (fun b => v.ownBlock = some b) w w' → wpList Tryz.prog ops Q rest (a.put o.dst (.slice ao (n + 1) cap)) w') :
    wpList Tryz.prog ops Q (o :: rest) a w := by
  obtain ⟨i0, hi, hz0, hz1, hz2⟩ := tinfoA hinfo
  have hb3 : (n + 1) * bytes ≤ 140737488355328 := Nat.le_trans (Nat.mul_le_mul (show n + 1 ≤ 1000001 by omega) hby) (by decide)
  obtain ⟨v', w', hr, h1, h2, _, _⟩ := run_append_own_at (P := Tryz.prog) w B t o.type e i0 z size bytes ht hi hz0 hz1 hz2 hz hsz v n xs hown ⟨g, 0, none⟩ 1 c news (by rw [hnl, Nat.one_mul])
    (fun j u hj => by rw [show (⟨g, 0, none⟩ : Addr).add j = ⟨g, j, none⟩ by unfold Addr.add; split <;> simp_all]; exact hcell j u hj) hone (by unfold maxLen; omega) hb3 hB
  obtain ⟨ao', cap', rfl⟩ := slice_of_own h1
  refine wpList_plain hgd fun K hK => ?_
  unfold Oper.wp
  simp [execOp, ho, resolve, invoke, builtin, hs, hx, hr, Result.andThen]
  exact hK _ _ (h ao' cap' w' h1 (Keeps.of_grownBy h2 fun k _ e => e))
end Go.Proofs.YtkeglkneobngnaaGreatDoor

namespace Go.Proofs.YtkeglkneobngnaaGreatDoor
open Go.RowKit Cd As

theorem firstB_yes {w x : B} {r : List B} {a : Nat} (h : x = w) : firstB w (x :: r) a = a := if_pos h
theorem firstB_no {w x : B} {r : List B} {a : Nat} (h : x ≠ w) : firstB w (x :: r) a = firstB w r (a + 1) := if_neg h
theorem names_cnt : namesB.length = 27 := rfl
theorem names_drop {k : Nat} (h : k < 27) : namesB.drop k = namesB.getD k [] :: namesB.drop (k + 1) := by
  have hl : k < namesB.length := by rw [names_cnt]; exact h
  rw [List.drop_eq_getElem_cons hl, List.getD_eq_getElem?_getD, List.getElem?_eq_getElem hl]
  rfl
def namesV : Array Value := (namesB.map fun z => Value.string (stB z)).toArray
theorem namesV_get (k : Nat) (h : k < 27) : namesV[k]? = some (.string ⟨(namesB.getD k []).toArray⟩) := by
  unfold namesV
  rw [List.getElem?_toArray, List.getElem?_map, List.getD_eq_getElem?_getD, List.getElem?_eq_getElem (by rw [names_cnt]; exact h)]
  rfl
theorem namesV_size : namesV.size = 27 := rfl
theorem namesV_range (w : World) (h : NamesW w) : w.rangeAt 1 0 namesV.toList := by
  intro j v hv
  have hj : j < 27 := by
    have := (List.getElem?_eq_some_iff.1 hv).1
    rw [Array.length_toList, namesV_size] at this
    exact this
  rw [Nat.zero_add, h j hj, ← hv, Array.getElem?_toList, namesV_get j hj]
  rfl
theorem info_strN : (Tryz.prog.info? 9).map (fun i => (i.zero, i.size, i.bytes)) = some (some (.string ByteArray.empty), 1, 16) := by kernel_rfl
theorem index_name (X : Array Value) (k : Nat) (z : ByteArray) (hk : k < 27) (hg : X[k]? = some (.string z)) (w : World) :
    (Instr.index 161 (.agg X) (.int .i64 k)).run Tryz.prog w = .ok (.string z) w := by
  obtain ⟨i0, hi, hz0, hz1, hz2⟩ := tinfoA info_strN
  have hkii : (0 : Int) ≤ (k : Int) ∧ (k : Int) < 27 := by omega
  simp [Instr.index, run_underlying Tryz.underlying161, asIntOf, hkii, hk, hg, go_sem]

set_option maxRecDepth 100000 in
set_option maxHeartbeats 3200000 in
theorem opOf_any (s : ByteArray) (w : World) (hv : AsmVars w) :
    Calls Tryz.prog 140 #[.string s] w fun e w' => e = .returned (.int .i64 (opB s.toList : Nat)) ∧ w' = w := by
  have HR := Lib.hid (namesV_range w hv.names)
  have hsi : (Tryz.prog.info? 161).map (·.size) = some namesV.toList.length := by kernel_rfl
  have HSI := Lib.hid hsi
  clear hv hsi
  obtain ⟨X, hX⟩ : ∃ X, X = namesV := ⟨_, rfl⟩
  have HG : Hid (∀ k, k < 27 → X[k]? = some (.string ⟨(namesB.getD k []).toArray⟩)) := Lib.hid (by rw [hX]; exact namesV_get)
  have hsz : X.size = 27 := by rw [hX]; rfl
  rw [← hX] at HR HSI
  clear hX
  obtain ⟨R, hR⟩ : ∃ R, R = opB s.toList := ⟨_, rfl⟩
  rw [← hR]
  have HE : Hid (firstB s.toList (namesB.drop 0) 0 = R) := Lib.hid (by rw [hR]; rfl)
  clear hR
  go_enter Tryz.func140, Tryz.ntmps140
  go_wp2_with (refine wpList_load_mid rfl 161 (.global 1) rfl 1 0 rfl X.toList _ HR.out Tryz.underlying161 rfl HSI.out ?_)
  go_loop [6] (fun iv => ∃ k : Nat, k ≤ 27 ∧ iv = .int .i64 k ∧ firstB s.toList (namesB.drop k) k = R) (fun iv => 27 - (intOf iv).toNat)
  case atStart => exact ⟨0, Nat.zero_le _, rfl, HE.out⟩
  case round =>
    obtain ⟨k, hk, rfl, hf⟩ := hrel
    have HF := Lib.hid hf
    clear hf HE
    by_cases hkn : k < 27
    · have hg := HG.out k hkn
      have hki : (k : Int) < 27 := by omega
      have hkii : (0 : Int) ≤ (k : Int) ∧ (k : Int) < 27 := by omega
      have HD : Hid (firstB s.toList (namesB.getD k [] :: namesB.drop (k + 1)) k = R) := Lib.hid (by rw [← names_drop hkn]; exact HF.out)
      generalize namesB.getD k [] = nm at *
      have hix := index_name X k ⟨nm.toArray⟩ hkn hg
      clear HF hg
      go_wp2_with fail
      · have hh : (nm == s.toList) = true := by assumption
        have e : R = k := by rw [← HD.out, firstB_yes (LawfulBEq.eq_of_beq hh)]
        subst e
        go_ret
        exact ⟨rfl, rfl⟩
      · have hh : (nm == s.toList) = false := by assumption
        go_round
        case rel => exact ⟨k + 1, by omega, by go_num, by rw [← HD.out, firstB_no (fun e => by rw [e] at hh; simp at hh)]⟩
        case measure => simp [intOf]; omega
    · obtain rfl : k = 27 := by omega
      have e : R = 0 := HF.out.symm
      subst e
      clear HF
      go_wp2_with fail
      go_ret
      exact ⟨rfl, rfl⟩
end Go.Proofs.YtkeglkneobngnaaGreatDoor

namespace Go.Proofs.YtkeglkneobngnaaGreatDoor
namespace As
open Cd

theorem dec_hi {n b0 b1 b2 b3 : Nat} (h : 128 ≤ b0) : (Lib.decodeN n b0 b1 b2 b3).1 ≠ 32 ∧ (2 ≤ (Lib.decodeN n b0 b1 b2 b3).2 → 1 < n ∧ 128 ≤ b1) ∧ (3 ≤ (Lib.decodeN n b0 b1 b2 b3).2 → 2 < n ∧ 128 ≤ b2) ∧
    (4 ≤ (Lib.decodeN n b0 b1 b2 b3).2 → 3 < n ∧ 128 ≤ b3) ∧ (Lib.decodeN n b0 b1 b2 b3).2 ≤ 4 := by
  unfold Lib.decodeN
  repeat' split
  all_goals (simp only; omega)
theorem dec_lo {n b0 b1 b2 b3 : Nat} (h : b0 < 128) : Lib.decodeN n b0 b1 b2 b3 = (b0, 1) := by
  unfold Lib.decodeN
  rw [if_pos h]
theorem words_cons' {w : B} (h0 : w ≠ []) (h : ∀ c ∈ w, c ≠ 32) (r : B) : words (w ++ 32 :: r) = w :: words r := by
  unfold words
  rw [cutAt_append r h]
  cases w with
  | nil => exact absurd rfl h0
  | cons c l => rfl
theorem words_one' {w : B} (h0 : w ≠ []) (h : ∀ c ∈ w, c ≠ 32) : words w = [w] := by
  unfold words
  rw [cutAt_none h]
  cases w with
  | nil => exact absurd rfl h0
  | cons c l => rfl
theorem get_at (s : ByteArray) (i : Nat) (h : i < s.size) : s.data.toList[i]? = some (s.get! i) := by
  have h2 : i < s.data.toList.length := h
  rw [List.getElem?_eq_getElem h2]
  congr 1
  rw [ByteArray.get!, getElem!_pos s.data i h]
  rfl
theorem drop_at (s : ByteArray) (i : Nat) (h : i < s.size) : s.data.toList.drop i = s.get! i :: s.data.toList.drop (i + 1) := by
  have h2 : i < s.data.toList.length := h
  rw [List.drop_eq_getElem_cons h2]
  have := get_at s i h
  rw [List.getElem?_eq_getElem h2] at this
  injection this with this
  rw [this]
theorem piece_at (s : ByteArray) (a b : Nat) : (s.extract a b).data.toList = (s.data.toList.drop a).take (b - a) := by
  rw [ByteArray.data_extract, Array.toList_extract, List.extract_eq_take_drop]
/-- What stands from a on is what stands up to b, and what stands behind. -/
theorem cut_two (l : B) {a b : Nat} (h : a ≤ b) : l.drop a = (l.drop a).take (b - a) ++ l.drop b := by
  conv => lhs; rw [← List.take_append_drop (b - a) (l.drop a)]
  rw [List.drop_drop, show a + (b - a) = b by omega]
/-- No blank from a up to b. -/
def NoBlank (s : ByteArray) (a b : Nat) : Prop := ∀ i, a ≤ i → i < b → (s.get! i).toNat ≠ 32
theorem NoBlank.piece {s : ByteArray} {a b : Nat} (h : NoBlank s a b) (hb : b ≤ s.size) : ∀ c ∈ (s.data.toList.drop a).take (b - a), c ≠ 32 := fun c hc => by
  obtain ⟨i, hi⟩ := List.mem_iff_getElem?.1 hc
  rw [List.getElem?_take] at hi
  split at hi
  · rename_i h1
    rw [List.getElem?_drop, get_at s _ (by omega)] at hi
    injection hi with hi
    have := h (a + i) (by omega) (by omega)
    rintro rfl
    rw [hi] at this
    exact this rfl
  · cases hi
theorem piece_ne (s : ByteArray) {a b : Nat} (h : a < b) (hb : b ≤ s.size) : (s.data.toList.drop a).take (b - a) ≠ [] := by
  intro e
  have h2 : s.data.toList.length = s.size := rfl
  have := congrArg List.length e
  rw [List.length_take, List.length_drop, List.length_nil, h2] at this
  omega
def isBl (r : Nat) : Bool := r == 32
theorem spans_words (s : ByteArray) : ∀ (f pos : Nat) (st : Option Nat) (acc : List (Nat × Nat)), s.size ≤ pos + f → pos ≤ s.size → (∀ a, st = some a → a < pos ∧ NoBlank s a pos) →
    (Lib.closeSpans s (Lib.spansFromP isBl s f pos st acc)).map (fun x => (s.extract x.1 x.2).data.toList) = acc.map (fun x => (s.extract x.1 x.2).data.toList) ++ words (s.data.toList.drop (st.getD pos)) := by
  have hend : ∀ (f pos : Nat) (st : Option Nat) (acc : List (Nat × Nat)), ¬ pos < s.size → pos ≤ s.size → (∀ a, st = some a → a < pos ∧ NoBlank s a pos) →
      (Lib.closeSpans s (Lib.spansFromP isBl s f pos st acc)).map (fun x => (s.extract x.1 x.2).data.toList) = acc.map (fun x => (s.extract x.1 x.2).data.toList) ++ words (s.data.toList.drop (st.getD pos)) := by
    intro f pos st acc hlt hp hst
    obtain rfl : pos = s.size := by omega
    rw [Lib.spansFromP_end _ _ _ _ _ _ hlt]
    cases st with
    | none =>
      have : s.data.toList.drop s.size = [] := List.drop_eq_nil_of_le (Nat.le_refl _)
      show acc.map _ = _
      rw [Option.getD_none, this, words_nil, List.append_nil]
    | some a =>
      obtain ⟨h1, h2⟩ := hst a rfl
      have e : s.data.toList.drop a = (s.data.toList.drop a).take (s.size - a) := by
        rw [List.take_of_length_le]
        rw [List.length_drop]
        exact Nat.le_refl _
      show (acc ++ [(a, s.size)]).map _ = _
      rw [List.map_append, Option.getD_some, e, words_one' (piece_ne s h1 (Nat.le_refl _)) (h2.piece (Nat.le_refl _))]
      simp only [List.map_cons, List.map_nil, piece_at]
  intro f
  induction f with
  | zero =>
    intro pos st acc hf hp hst
    exact hend 0 pos st acc (by omega) hp hst
  | succ f ih =>
    intro pos st acc hf hp hst
    by_cases hlt : pos < s.size
    · unfold Lib.spansFromP
      rw [if_pos hlt]
      rw [Lib.decode_at]
      by_cases hb : (s.get! pos).toNat < 128
      · rw [dec_lo hb]
        dsimp only
        by_cases h32 : (s.get! pos).toNat = 32
        · rw [if_pos (by unfold isBl; rw [h32]; rfl)]
          have h32' : s.get! pos = 32 := UInt8.toNat_inj.1 h32
          have hd := drop_at s pos hlt
          rw [h32'] at hd
          cases st with
          | none =>
            dsimp only
            rw [ih (pos + 1) none acc (by omega) (by omega) (fun a h => by cases h), Option.getD_none, Option.getD_none, hd, words_blank]
          | some a =>
            obtain ⟨h1, h2⟩ := hst a rfl
            dsimp only
            rw [ih (pos + 1) none _ (by omega) (by omega) (fun a h => by cases h), Option.getD_none, Option.getD_some, cut_two s.data.toList (Nat.le_of_lt h1), hd,
              words_cons' (piece_ne s h1 hp) (h2.piece hp), List.map_append, List.append_assoc]
            simp only [List.map_cons, List.map_nil, piece_at, List.singleton_append]
        · rw [if_neg (by unfold isBl; simpa using h32)]
          have key : ∀ a, a ≤ pos → NoBlank s a pos → NoBlank s a (pos + 1) := fun a _ h i h1 h2 => by
            by_cases e : i = pos
            · rw [e]; exact h32
            · exact h i h1 (by omega)
          cases st with
          | none =>
            dsimp only
            rw [ih (pos + 1) (some pos) acc (by omega) (by omega) (fun a h => by cases h; exact ⟨by omega, key pos (Nat.le_refl _) (fun i h1 h2 => by omega)⟩)]
            rfl
          | some a =>
            obtain ⟨h1, h2⟩ := hst a rfl
            dsimp only
            rw [ih (pos + 1) (some a) acc (by omega) (by omega) (fun b h => by cases h; exact ⟨by omega, key a (by omega) h2⟩)]
            rfl
      · obtain ⟨d1, d2, d3, d4, d5⟩ := dec_hi (n := s.size - pos) (b1 := (s.get! (pos + 1)).toNat) (b2 := (s.get! (pos + 2)).toNat) (b3 := (s.get! (pos + 3)).toNat) (Nat.le_of_not_lt hb)
        have d0 := Lib.decodeN_ge1 (s.size - pos) (s.get! pos).toNat (s.get! (pos + 1)).toNat (s.get! (pos + 2)).toNat (s.get! (pos + 3)).toNat
        generalize Lib.decodeN (s.size - pos) (s.get! pos).toNat (s.get! (pos + 1)).toNat (s.get! (pos + 2)).toNat (s.get! (pos + 3)).toNat = d at *
        obtain ⟨r, K⟩ := d
        dsimp only at d0 d1 d2 d3 d4 d5 ⊢
        rw [if_neg (by unfold isBl; simpa using d1)]
        have key : ∀ a, a ≤ pos → NoBlank s a pos → NoBlank s a (pos + K) := fun a _ h i h1 h2 => by
          by_cases e : i < pos
          · exact h i h1 e
          · rcases (show i = pos ∨ i = pos + 1 ∨ i = pos + 2 ∨ i = pos + 3 by omega) with rfl | rfl | rfl | rfl
            · omega
            · have := d2 (by omega); omega
            · have := d3 (by omega); omega
            · have := d4 (by omega); omega
        have hK : pos + K ≤ s.size := by
          rcases (show K = 1 ∨ K = 2 ∨ K = 3 ∨ K = 4 by omega) with rfl | rfl | rfl | rfl
          · omega
          · have := d2 (by omega); omega
          · have := d3 (by omega); omega
          · have := d4 (by omega); omega
        cases st with
        | none =>
          dsimp only
          rw [ih (pos + K) (some pos) acc (by omega) hK (fun a h => by cases h; exact ⟨by omega, key pos (Nat.le_refl _) (fun i h1 h2 => by omega)⟩)]
          rfl
        | some a =>
          obtain ⟨h1, h2⟩ := hst a rfl
          dsimp only
          rw [ih (pos + K) (some a) acc (by omega) hK (fun b h => by cases h; exact ⟨by omega, key a (by omega) h2⟩)]
          rfl
    · exact hend (f + 1) pos st acc hlt hp hst
/-- strings.FieldsFunc at a blank. -/
theorem fields_words (s : ByteArray) : (Lib.goFieldsP isBl s).map (fun x => x.data.toList) = words s.data.toList := by
  have := spans_words s s.size 0 none [] (by omega) (by omega) (fun a h => by cases h)
  unfold Lib.goFieldsP Lib.spansOfP
  rw [List.map_map]
  exact this
end As
end Go.Proofs.YtkeglkneobngnaaGreatDoor

namespace Go.Proofs.YtkeglkneobngnaaGreatDoor
namespace As
open Cd

/-- The lines that have words, with their numbers. -/
def linesW : List B → Nat → List (Nat × List B)
  | [], _ => []
  | l :: r, k => if words l = [] then linesW r (k + 1) else (k, words l) :: linesW r (k + 1)
def runW : List (Nat × List B) → St → Except Nat St
  | [], s => .ok s
  | x :: r, s => match rdLine x.2 s with
    | none => .error x.1
    | some s => runW r s
theorem lnsR_run : ∀ (ls : List B) (k : Nat) (s : St), lnsR ls k s = runW (linesW ls k) s
  | [], _, _ => rfl
  | l :: r, k, s => by
    unfold lnsR linesW
    split
    · exact lnsR_run r (k + 1) s
    · unfold runW
      dsimp only
      cases rdLine (words l) s with
      | none => rfl
      | some s2 => exact lnsR_run r (k + 1) s2
theorem runW_append : ∀ (a b : List (Nat × List B)) (s : St), runW (a ++ b) s = match runW a s with
    | .error k => .error k
    | .ok s => runW b s
  | [], b, s => rfl
  | x :: a, b, s => by
    show runW (x :: (a ++ b)) s = _
    rw [runW, runW]
    cases rdLine x.2 s with
    | none => rfl
    | some s2 => exact runW_append a b s2
theorem runW_next {xs : List (Nat × List B)} {j : Nat} {x : Nat × List B} {s s2 s3 : St} (h : runW (xs.take j) s = .ok s2) (hx : xs[j]? = some x) (hr : rdLine x.2 s2 = some s3) : runW (xs.take (j + 1)) s = .ok s3 := by
  rw [List.take_add_one, hx, runW_append, h]
  show runW [x] s2 = _
  unfold runW
  rw [hr]
  rfl
theorem runW_stop {xs : List (Nat × List B)} {j : Nat} {x : Nat × List B} {s s2 : St} (h : runW (xs.take j) s = .ok s2) (hx : xs[j]? = some x) (hr : rdLine x.2 s2 = none) : runW xs s = .error x.1 := by
  have hj := (List.getElem?_eq_some_iff.1 hx).1
  have e : xs = xs.take j ++ x :: xs.drop (j + 1) := by
    conv => lhs; rw [← List.take_append_drop j xs]
    rw [List.drop_eq_getElem_cons hj]
    rw [List.getElem?_eq_getElem hj] at hx
    injection hx with hx
    rw [hx]
  rw [e, runW_append, h]
  dsimp only
  unfold runW
  rw [hr]
theorem linesW_append : ∀ (a b : List B) (k : Nat), linesW (a ++ b) k = linesW a k ++ linesW b (k + a.length)
  | [], b, k => rfl
  | l :: a, b, k => by
    show linesW (l :: (a ++ b)) k = _
    rw [linesW, linesW]
    rw [linesW_append a b (k + 1), List.length_cons, show k + 1 + a.length = k + (a.length + 1) by omega]
    split <;> rfl
/-- So many lines over: those of them that have words. -/
theorem linesW_snoc {L : List B} {j : Nat} {l : B} (h : L[j]? = some l) : linesW (L.take (j + 1)) 0 = linesW (L.take j) 0 ++ (if words l = [] then [] else [(j, words l)]) := by
  have hj := (List.getElem?_eq_some_iff.1 h).1
  rw [List.take_add_one, h, linesW_append]
  congr 1
  have e : (List.take j L).length = j := by rw [List.length_take]; omega
  show linesW [l] _ = _
  rw [e, Nat.zero_add]
  unfold linesW
  split <;> rfl
theorem linesW_pre (L : List B) (j : Nat) : ∃ r, linesW L 0 = linesW (L.take j) 0 ++ r := by
  have h := linesW_append (L.take j) (L.drop j) 0
  rw [List.take_append_drop] at h
  exact ⟨_, h⟩
/-- The line that is to come has words: it is the next of those that have. -/
theorem linesW_at {L : List B} {j : Nat} {l : B} (h : L[j]? = some l) (hw : words l ≠ []) : (linesW L 0)[(linesW (L.take j) 0).length]? = some (j, words l) := by
  obtain ⟨r, hr⟩ := linesW_pre L (j + 1)
  rw [hr, linesW_snoc h, if_neg hw, List.append_assoc, List.getElem?_append_right (Nat.le_refl _), Nat.sub_self]
  rfl
theorem linesW_len {L : List B} : ∀ k, (linesW L k).length ≤ L.length := by
  induction L with
  | nil => intro k; exact Nat.le_refl _
  | cons l L ih =>
    intro k
    have := ih (k + 1)
    unfold linesW
    split <;> simp only [List.length_cons] <;> omega
/-! The first line feed. -/
theorem cut_none {l : B} (h : Lib.indexByte l 10 = -1) : cutAt 10 l = [l] := by
  refine cutAt_none fun c hc e => ?_
  obtain ⟨k, hk⟩ := List.mem_iff_getElem?.1 hc
  rw [e] at hk
  exact Lib.indexByte_none h k hk
theorem cut_some {l : B} {o : Nat} (h : Lib.indexByte l 10 = o) : o < l.length ∧ cutAt 10 l = l.take o :: cutAt 10 (l.drop (o + 1)) := by
  obtain ⟨h1, h2⟩ := Lib.indexByte_some h
  have ho := (List.getElem?_eq_some_iff.1 h1).1
  refine ⟨ho, ?_⟩
  have e : l = l.take o ++ 10 :: l.drop (o + 1) := by
    conv => lhs; rw [← List.take_append_drop o l]
    rw [List.drop_eq_getElem_cons ho]
    rw [List.getElem?_eq_getElem ho] at h1
    injection h1 with h1
    rw [h1]
  conv => lhs; rw [e]
  refine cutAt_append _ fun c hc e2 => ?_
  obtain ⟨k, hk⟩ := List.mem_iff_getElem?.1 hc
  rw [List.getElem?_take] at hk
  split at hk
  · rename_i hlt
    rw [e2] at hk
    exact h2 k hlt hk
  · cases hk
theorem count_cut (s : B) : (cutAt 10 s).length = s.count 10 + 1 := by
  induction s with
  | nil => rfl
  | cons c r ih =>
    unfold cutAt
    by_cases h : c = 10
    · rw [if_pos h, h, List.length_cons, ih, List.count_cons_self]
    · rw [if_neg h, List.count_cons_of_ne h]
      cases hc : cutAt 10 r with
      | nil => exact absurd hc (cutAt_ne 10 r)
      | cons p ps => rw [hc] at ih; simpa using ih
end As
end Go.Proofs.YtkeglkneobngnaaGreatDoor

namespace Go.Proofs.YtkeglkneobngnaaGreatDoor
open Go.RowKit

/-- The library's table of powers of ten. -/
abbrev Pow (w : World) : Prop := Lib.TabIs Tryz.prog w "internal/strconv.uint64pow10" .u64 Lib.pow10Tab
theorem gPow : Tryz.prog.globalNamed "internal/strconv.uint64pow10" = some 7 := by kernel_rfl
theorem tPow : (Tryz.prog.globals[7]?).map (·.type) = some 239 := by kernel_rfl
theorem cells_u64 : Tryz.prog.cellsOf 58 = 1 := by kernel_rfl
theorem cells_pow : Tryz.prog.cellsOf 239 = 20 := by kernel_rfl
theorem Pow.at {w : World} (h : Pow w) : 7 < w.heap.size := by
  unfold Pow Lib.TabIs World.var? at h
  rw [gPow] at h
  simp only [Option.bind_some] at h
  rcases Nat.lt_or_ge 7 w.heap.size with h' | h'
  · exact h'
  · rw [Array.getElem?_eq_none h'] at h; cases h
theorem Pow.keeps {S : Nat → Prop} {w w' : World} (h : Pow w) (hk : Keeps S w w') (hS : ¬ S 7) : Pow w' := by
  have hlt := h.at
  unfold Pow Lib.TabIs World.var? at h ⊢
  rw [gPow] at h ⊢
  simp only [Option.bind_some] at h ⊢
  rw [hk.block _ hlt hS]
  exact h
theorem Pow.below {w w' : World} (h : Pow w) (hb : Below w.heap.size w w') : Pow w' := h.keeps (S := fun _ => False) (Keeps.of_new hb) id
/-- A number's text. -/
def sOf (x : Int) : ByteArray := ⟨(Lib.itoa x).toArray⟩
theorem itoa_any (n : Int) (h0 : -9223372036854775808 ≤ n) (h1 : n ≤ 9223372036854775807) (w : World) (h : Pow w) : Calls Tryz.prog 53 #[.int .i64 n] w fun e w' =>
    e = .returned (.string (sOf n)) ∧ Below w.heap.size w w' := by
  refine (Tryz.strconv_Itoa n h0 h1 w h).mono ?_
  rintro e w' ⟨rfl, k, os, rfl⟩
  exact ⟨rfl, ⟨rfl, rfl, rfl, by simp [Sort.grow, World.drewN], fun k hk => by simp [Sort.grow, World.drewN, Array.getElem?_append, hk]⟩⟩
end Go.Proofs.YtkeglkneobngnaaGreatDoor

namespace Go.Proofs.YtkeglkneobngnaaGreatDoor
open Go.RowKit Go.ChangeShapes Go.WideShapes Go.ChangeAt

/-- A slice of numbers of kind k: as many as l has; if there is any, they stand side by side. -/
def NumsAt (k : IntKind) (w : World) (v : Value) (l : List Int) : Prop :=
  ∃ ao n cap, v = .slice ao n cap ∧ n = l.length ∧ n ≤ cap ∧ cap ≤ maxLen ∧ (0 < n → ∃ b o, ao = some ⟨b, o, none⟩ ∧ b < w.heap.size ∧ ∀ i, i < n → w.cell? ⟨b, o + i, none⟩ = some (.int k (l.getD i 0))) ∧ ∀ x ∈ l, (Lit.int k x).wf = true

theorem NumsAt.below {k : IntKind} {w w' : World} {v : Value} {l : List Int} (h : NumsAt k w v l) (hb : Below w.heap.size w w') : NumsAt k w' v l := by
  obtain ⟨ao, n, cap, hv, hn, hc, hm, hx, hw⟩ := h
  refine ⟨ao, n, cap, hv, hn, hc, hm, fun h0 => ?_, hw⟩
  obtain ⟨b, o, h1, h2, h3⟩ := hx h0
  refine ⟨b, o, h1, Nat.lt_of_lt_of_le h2 hb.size, fun i hi => ?_⟩
  rw [hb.cell (p := ⟨b, o + i, none⟩) h2]; exact h3 i hi

theorem numsAt_open {H : Type} {enc : TypeId × Value → H} {P : Program} {W : World} {base : Nat} {spare : Nat → Bool} {held : Bool} {t e : TypeId} {k : IntKind} {ao : Option Addr} {len cap : Nat} {d : DataW H} {p : List MemPlace}
    (ht : P.underlying t = some (.slice e)) (he : P.underlying e = some (.int k)) (hc : P.cellsOf e = 1) (h : DataW.Trod enc P W base spare held t (.slice ao len cap) d p) : ∃ l, NumsAt k W (.slice ao len cap) l := by
  obtain ⟨fuel, hf⟩ := h
  rcases open_ints ht he hc hf with ⟨hcs, _⟩ | ⟨x, l, c, zs, hcs, _, hl, hm, hz, _, hcell, hwz⟩
  · simp [Value.cells] at hcs
    obtain ⟨rfl, rfl, rfl⟩ := hcs
    exact ⟨[], _, _, _, rfl, rfl, Nat.le_refl _, Nat.zero_le _, fun h => absurd h (Nat.lt_irrefl _), fun x hx => by cases hx⟩
  · simp [Value.cells] at hcs
    obtain ⟨rfl, rfl, rfl⟩ := hcs
    have hlz : len ≤ zs.length := by rw [hz]; split <;> omega
    refine ⟨zs.take len, _, _, _, rfl, by rw [List.length_take]; omega, hl, hm, fun h0 => ?_, fun x hx => hwz x (List.mem_of_mem_take hx)⟩
    obtain ⟨b, o, sp⟩ := x
    have h1 := hcell 0 (by omega)
    have hspot : sp = none := by simpa [Addr.add] using World.cell?_spot h1
    subst hspot
    refine ⟨b, o, rfl, World.block_lt_of_cell? _ _ (hcell 0 (by omega)), fun i hi => ?_⟩
    have := hcell i (by omega)
    rw [add_plain] at this
    rw [this]
    simp [List.getD_eq_getElem?_getD, hi]
end Go.Proofs.YtkeglkneobngnaaGreatDoor

namespace Go.Proofs.YtkeglkneobngnaaGreatDoor
open Go.RowKit

/-- A slice that reads as these numbers. -/
def IntsAt (w : World) (v : Value) (xs : List Int) : Prop :=
  ∃ ao n cap, v = .slice ao n cap ∧ n = xs.length ∧ n ≤ cap ∧ cap ≤ maxLen ∧ (0 < n → ∃ b o, ao = some ⟨b, o, none⟩ ∧ b < w.heap.size ∧ ∀ i, i < n → w.cell? ⟨b, o + i, none⟩ = some (.int .i64 (xs.getD i 0)))
theorem NumsAt.ints {w : World} {v : Value} {l : List Int} (h : NumsAt .i64 w v l) : IntsAt w v l := by
  obtain ⟨ao, n, cap, h1, h2, h3, h4, h5, _⟩ := h
  exact ⟨ao, n, cap, h1, h2, h3, h4, h5⟩
theorem intsAt_nil (w : World) : IntsAt w (.slice none 0 0) [] := ⟨none, 0, 0, rfl, rfl, Nat.le_refl _, Nat.zero_le _, fun h => absurd h (Nat.lt_irrefl _)⟩
theorem IntsAt.below {w w' : World} {v : Value} {l : List Int} (h : IntsAt w v l) (hb : Below w.heap.size w w') : IntsAt w' v l := by
  obtain ⟨ao, n, cap, hv, hn, hc, hm, hx⟩ := h
  refine ⟨ao, n, cap, hv, hn, hc, hm, fun h0 => ?_⟩
  obtain ⟨b, o, h1, h2, h3⟩ := hx h0
  refine ⟨b, o, h1, Nat.lt_of_lt_of_le h2 hb.size, fun i hi => ?_⟩
  rw [hb.cell (p := ⟨b, o + i, none⟩) h2]; exact h3 i hi
/-- Where it lies. -/
def Off (v : Value) (S : Nat → Prop) : Prop := ∀ k, v.ownBlock = some k → ¬ S k
theorem IntsAt.keeps {S : Nat → Prop} {w w' : World} {v : Value} {l : List Int} (h : IntsAt w v l) (hk : Keeps S w w') (ho : Off v S) : IntsAt w' v l := by
  obtain ⟨ao, n, cap, hv, hn, hc, hm, hx⟩ := h
  refine ⟨ao, n, cap, hv, hn, hc, hm, fun h0 => ?_⟩
  obtain ⟨b, o, h1, h2, h3⟩ := hx h0
  refine ⟨b, o, h1, Nat.lt_of_lt_of_le h2 hk.size, fun i hi => ?_⟩
  exact hk.cell_of (h3 i hi) (ho b (by rw [hv, h1]; rfl))

/-- A slice of the call's own, with its array's head, in a block from B on. -/
def OwnI (w : World) (B : Nat) (v : Value) (xs : List Int) : Prop := w.ownsRow B 3 1 v xs.length (xs.map (Value.int .i64))
theorem ownI_nil (w : World) (B : Nat) : OwnI w B (.slice none 0 0) [] := World.ownsRow_nil _ _ _ _
theorem OwnI.off {w : World} {B : Nat} {v : Value} {xs : List Int} (h : OwnI w B v xs) {S : Nat → Prop} (hs : ∀ k, S k → k < B) : Off v S := fun k hk e => by
  have := (World.ownsRow.lt h k hk).1
  have := hs k e
  omega
theorem OwnI.keeps {w w' : World} {B : Nat} {v : Value} {xs : List Int} {S : Nat → Prop} (h : OwnI w B v xs) (hk : Keeps S w w') (hs : Off v S) : OwnI w' B v xs := hk.row h hs
theorem OwnI.ints {w : World} {B : Nat} {v : Value} {xs : List Int} (h : OwnI w B v xs) : IntsAt w v xs := by
  have hc := h
  rcases h.2 with ⟨rfl, h0⟩ | ⟨g, cap, cur, rfl, hb, hg, h3, h4, h5, h6⟩
  · obtain rfl : xs = [] := List.eq_nil_of_length_eq_zero h0
    exact intsAt_nil w
  · refine ⟨_, _, _, rfl, rfl, h3, h4, fun _ => ⟨g, 0, rfl, (Array.getElem?_eq_some_iff.1 hg).1, fun i hi => ?_⟩⟩
    have := World.ownsRow.cells hc (g := g) rfl i (.int .i64 (xs.getD i 0)) (by simp [List.getD_eq_getElem?_getD, hi])
    have ha : (⟨g, 0, none⟩ : Addr).add i = ⟨g, 0 + i, none⟩ := by unfold Addr.add; split <;> simp_all
    rw [ha] at this
    exact this
theorem OwnI.mk {w : World} {B : Nat} {v : Value} {xs : List Int} (n : Nat) (x : Int) (hn : n = xs.length) (h : w.ownsRow B 3 1 v (n + 1) (xs.map (Value.int .i64) ++ [Value.int .i64 x])) : OwnI w B v (xs ++ [x]) := by
  subst hn
  unfold OwnI
  rw [List.map_append, List.length_append]
  exact h
theorem OwnI.le {w : World} {B : Nat} {v : Value} {xs : List Int} (h : OwnI w B v xs) : ∀ k, v.ownBlock = some k → B ≤ k := fun k hk => (World.ownsRow.lt h k hk).1
theorem OwnI.slice {w : World} {B : Nat} {v : Value} {xs : List Int} (h : OwnI w B v xs) : ∃ ao cap, v = .slice ao xs.length cap := by
  rcases h.2 with ⟨rfl, h0⟩ | ⟨g, cap, cur, rfl, _⟩
  · exact ⟨none, 0, by rw [h0]⟩
  · exact ⟨_, _, rfl⟩
/-- What an append has turned: the one-cell block, and the slice's own row. -/
theorem keeps_append {w w' : World} {o : Obj} {v : Value} {S : Nat → Prop} (hg : (w.alloc o).grownBy w' v.ownBlock) (hs : ∀ k, v.ownBlock = some k → S k) : Keeps S w w' :=
  ((Keeps.refl S w).alloc o).trans' (Keeps.of_grownBy hg fun k _ e => hs k e) fun _ _ e => e

theorem info_int : (Tryz.prog.info? 3).map (fun i => (i.zero, i.size, i.bytes)) = some (some (.int .i64 0), 1, 8) := by kernel_rfl

/-- 'xs = append(xs, y)' on a slice of the call's own: what has turned is its own row; the new one lies there, or in a new block. -/
theorem wpList_appendI {ops : Array Oper} {rest : List Oper} {o : Oper} {a : Act} {Q : Exit → Act → World → Prop} (hgd : o.guard = none) (s x : Operand)
    (ho : o.op = .call { callee := .builtin .append, args := #[s, x], argTypes := #[69, 69] }) (w : World) (B : Nat) (v : Value) (xs : List Int) (y : Int) (hown : OwnI w B v xs) (hs : a.eval s = v)
    (hx : a.eval x = .slice (some ⟨w.heap.size, 0, none⟩) 1 1) (hl : xs.length ≤ 1000000) (hB : B ≤ w.heap.size)
    (h : ∀ ao' cap' w', OwnI w' B (.slice ao' (xs.length + 1) cap') (xs ++ [y]) → Keeps (fun b => v.ownBlock = some b) w w' → (∀ k, (Value.slice ao' (xs.length + 1) cap').ownBlock = some k → v.ownBlock = some k ∨ w.heap.size ≤ k) →
      wpList Tryz.prog ops Q rest (a.put o.dst (.slice ao' (xs.length + 1) cap')) w') : wpList Tryz.prog ops Q (o :: rest) a (w.alloc (.cells #[.int .i64 y] 3)) := by
  obtain ⟨i0, hi, hz0, hz1, hz2⟩ := info_parts info_int
  refine wpList_append_own_at _ hgd s x 69 ho B 3 i0 (.int .i64 0) 1 8 Tryz.underlying69 hi hz0 hz1 hz2 rfl (by decide) v xs.length (xs.map (Value.int .i64)) hs (World.ownsRow.alloc hown _) ⟨w.heap.size, 0, none⟩ 1 1 [.int .i64 y] hx rfl
    (cell_one_new _ _ _) (fun u hu => by simp at hu; subst hu; rfl) (by unfold maxLen; omega) (by omega) (by simp; omega) ?_
  intro v' w' h1 h2 _ h4
  have hO : OwnI w' B v' (xs ++ [y]) := OwnI.mk _ y rfl h1
  obtain ⟨ao', cap', e⟩ := hO.slice
  rw [List.length_append] at e
  have e' : v' = .slice ao' (xs.length + 1) cap' := e
  subst e'
  refine h _ _ _ hO (keeps_append h2 fun k e => e) fun k hk => ?_
  rcases h4 with h4 | h4
  · exact Or.inl (h4 ▸ hk)
  · rw [h4] at hk
    cases hk
    exact Or.inr (by simp)

/-- How many a slice has. -/
def lenI : Value → Nat | .slice _ n _ => n | _ => 0
/-- Two slices that lie in no block together. -/
def ApartI (v u : Value) : Prop := ∀ k, v.ownBlock = some k → u.ownBlock ≠ some k
theorem ApartI.symm {v u : Value} (h : ApartI v u) : ApartI u v := fun k hk e => h k e hk
theorem apartI_nil (u : Value) : ApartI (.slice none 0 0) u := fun k hk => by cases hk
theorem ApartI.append {w : World} {v u v' : Value} (h : ApartI v u) {B : Nat} {ys : List Int} (hu : OwnI w B u ys) (hn : ∀ k, v'.ownBlock = some k → v.ownBlock = some k ∨ w.heap.size ≤ k) : ApartI v' u := fun k hk e => by
  have hlt := (World.ownsRow.lt hu k e).2
  rcases hn k hk with h1 | h1
  · exact h k h1 e
  · omega
theorem ApartI.off {v u : Value} (h : ApartI v u) : Off u (fun b => v.ownBlock = some b) := fun k hk e => h k e hk
end Go.Proofs.YtkeglkneobngnaaGreatDoor

namespace Go.Proofs.YtkeglkneobngnaaGreatDoor
open Go.RowKit Cd

/-- A slice that reads as these instructions. -/
def InsAt (w : World) (v : Value) (l : List In) : Prop :=
  ∃ ao n cap, v = .slice ao n cap ∧ n = l.length ∧ n ≤ cap ∧ cap ≤ maxLen ∧ (0 < n → ∃ b o, ao = some ⟨b, o, none⟩ ∧ b < w.heap.size ∧ ∀ i x, l[i]? = some x → w.cell? ⟨b, o + i * 2, none⟩ = some (.int .i64 x.1) ∧ w.cell? ⟨b, o + i * 2 + 1, none⟩ = some (.int .i64 x.2))
theorem insAt_nil (w : World) : InsAt w (.slice none 0 0) [] := ⟨none, 0, 0, rfl, rfl, Nat.le_refl _, Nat.zero_le _, fun h => absurd h (Nat.lt_irrefl _)⟩
theorem InsAt.keeps {S : Nat → Prop} {w w' : World} {v : Value} {l : List In} (h : InsAt w v l) (hk : Keeps S w w') (ho : Off v S) : InsAt w' v l := by
  obtain ⟨ao, n, cap, hv, hn, hc, hm, hx⟩ := h
  refine ⟨ao, n, cap, hv, hn, hc, hm, fun h0 => ?_⟩
  obtain ⟨b, o, h1, h2, h3⟩ := hx h0
  have hs : ¬ S b := ho b (by rw [hv, h1]; rfl)
  exact ⟨b, o, h1, Nat.lt_of_lt_of_le h2 hk.size, fun i x hi => ⟨hk.cell_of (h3 i x hi).1 hs, hk.cell_of (h3 i x hi).2 hs⟩⟩
theorem off_none (v : Value) : Off v fun _ => False := fun _ _ => id
theorem keeps_none {w w' : World} (h : Below w.heap.size w w') : Keeps (fun _ => False) w w' := Keeps.of_new h
theorem InsAt.below {w w' : World} {v : Value} {l : List In} (h : InsAt w v l) (hb : Below w.heap.size w w') : InsAt w' v l := h.keeps (keeps_none hb) (off_none _)
/-- A function, in four cells. -/
def FnAt (w : World) (b o : Nat) (f : FnV) : Prop :=
  w.cell? ⟨b, o, none⟩ = some (.int .i64 f.params) ∧ (∃ v, w.cell? ⟨b, o + 1, none⟩ = some v ∧ IntsAt w v f.locals) ∧ w.cell? ⟨b, o + 2, none⟩ = some (.int .i64 f.kind) ∧ ∃ v, w.cell? ⟨b, o + 3, none⟩ = some v ∧ InsAt w v f.code
theorem FnAt.below {w w' : World} {b o : Nat} {f : FnV} (h : FnAt w b o f) (hb : Below w.heap.size w w') : FnAt w' b o f := by
  obtain ⟨h1, ⟨v, h2, h3⟩, h4, u, h5, h6⟩ := h
  have k := keeps_none hb
  exact ⟨k.cell_of h1 id, ⟨v, k.cell_of h2 id, h3.below hb⟩, k.cell_of h4 id, u, k.cell_of h5 id, h6.below hb⟩
/-- A slice that reads as these functions. -/
def FnsAt (w : World) (v : Value) (l : List FnV) : Prop :=
  ∃ ao n cap, v = .slice ao n cap ∧ n = l.length ∧ n ≤ cap ∧ cap ≤ maxLen ∧ (0 < n → ∃ b o, ao = some ⟨b, o, none⟩ ∧ b < w.heap.size ∧ ∀ i f, l[i]? = some f → FnAt w b (o + i * 4) f)
theorem fnsAt_nil (w : World) : FnsAt w (.slice none 0 0) [] := ⟨none, 0, 0, rfl, rfl, Nat.le_refl _, Nat.zero_le _, fun h => absurd h (Nat.lt_irrefl _)⟩
theorem FnsAt.below {w w' : World} {v : Value} {l : List FnV} (h : FnsAt w v l) (hb : Below w.heap.size w w') : FnsAt w' v l := by
  obtain ⟨ao, n, cap, hv, hn, hc, hm, hx⟩ := h
  refine ⟨ao, n, cap, hv, hn, hc, hm, fun h0 => ?_⟩
  obtain ⟨b, o, h1, h2, h3⟩ := hx h0
  exact ⟨b, o, h1, Nat.lt_of_lt_of_le h2 hb.size, fun i x hi => (h3 i x hi).below hb⟩
/-- A program, as a value. -/
def ProgAt (w : World) (v : Value) (p : Pg) : Prop := ∃ vf, v = .agg #[.int .i64 p.globals, vf] ∧ FnsAt w vf p.fns
theorem ProgAt.below {w w' : World} {v : Value} {p : Pg} (h : ProgAt w v p) (hb : Below w.heap.size w w') : ProgAt w' v p := by
  obtain ⟨vf, h1, h2⟩ := h
  exact ⟨vf, h1, h2.below hb⟩
theorem progAt_zero (w : World) : ProgAt w (.agg #[.int .i64 0, .slice none 0 0]) ⟨0, []⟩ := ⟨_, rfl, fnsAt_nil w⟩
end Go.Proofs.YtkeglkneobngnaaGreatDoor

namespace Go.Proofs.YtkeglkneobngnaaGreatDoor
open Go.RowKit

/-- An error by its number: nil for 0. -/
def errV (re : Nat) : Value := if re = 0 then .nilIface else .iface 24 (.int .i64 re)
theorem errV_0 : errV 0 = .nilIface := rfl
theorem errV_2 : errV 2 = .iface 24 (.int .i64 2) := rfl
theorem errV_3 : errV 3 = .iface 24 (.int .i64 3) := rfl
end Go.Proofs.YtkeglkneobngnaaGreatDoor

namespace Go.Proofs.YtkeglkneobngnaaGreatDoor
open Go.RowKit Cd

set_option maxRecDepth 100000 in
set_option maxHeartbeats 800000 in
theorem span_1 (w : World) : Calls Tryz.prog 125 #[.int .i64 1] w fun e w' => e = .returned (.tuple #[.int .i64 (-9223372036854775808), .int .i64 9223372036854775807]) ∧ w' = w := by
  go_enter Tryz.func125, Tryz.ntmps125
  go_wp2_with fail
  go_ret2
  exact ⟨rfl, rfl⟩
set_option maxRecDepth 100000 in
set_option maxHeartbeats 800000 in
theorem span_2 (w : World) : Calls Tryz.prog 125 #[.int .i64 2] w fun e w' => e = .returned (.tuple #[.int .i64 (0), .int .i64 1]) ∧ w' = w := by
  go_enter Tryz.func125, Tryz.ntmps125
  go_wp2_with fail
  go_ret2
  exact ⟨rfl, rfl⟩
set_option maxRecDepth 100000 in
set_option maxHeartbeats 800000 in
theorem span_8 (w : World) : Calls Tryz.prog 125 #[.int .i64 8] w fun e w' => e = .returned (.tuple #[.int .i64 (1), .int .i64 16]) ∧ w' = w := by
  go_enter Tryz.func125, Tryz.ntmps125
  go_wp2_with fail
  go_ret2
  exact ⟨rfl, rfl⟩
set_option maxRecDepth 100000 in
set_option maxHeartbeats 800000 in
theorem span_9 (w : World) : Calls Tryz.prog 125 #[.int .i64 9] w fun e w' => e = .returned (.tuple #[.int .i64 (17), .int .i64 19]) ∧ w' = w := by
  go_enter Tryz.func125, Tryz.ntmps125
  go_wp2_with fail
  go_ret2
  exact ⟨rfl, rfl⟩
set_option maxRecDepth 100000 in
set_option maxHeartbeats 800000 in
theorem span_4 (w : World) : Calls Tryz.prog 125 #[.int .i64 4] w fun e w' => e = .returned (.tuple #[.int .i64 (0), .int .i64 9223372036854775807]) ∧ w' = w := by
  go_enter Tryz.func125, Tryz.ntmps125
  go_wp2_with fail
  go_ret2
  exact ⟨rfl, rfl⟩
set_option maxRecDepth 100000 in
set_option maxHeartbeats 800000 in
theorem span_5 (w : World) : Calls Tryz.prog 125 #[.int .i64 5] w fun e w' => e = .returned (.tuple #[.int .i64 (0), .int .i64 9223372036854775807]) ∧ w' = w := by
  go_enter Tryz.func125, Tryz.ntmps125
  go_wp2_with fail
  go_ret2
  exact ⟨rfl, rfl⟩
set_option maxRecDepth 100000 in
set_option maxHeartbeats 800000 in
theorem span_6 (w : World) : Calls Tryz.prog 125 #[.int .i64 6] w fun e w' => e = .returned (.tuple #[.int .i64 (0), .int .i64 9223372036854775807]) ∧ w' = w := by
  go_enter Tryz.func125, Tryz.ntmps125
  go_wp2_with fail
  go_ret2
  exact ⟨rfl, rfl⟩
set_option maxRecDepth 100000 in
set_option maxHeartbeats 800000 in
theorem span_7 (w : World) : Calls Tryz.prog 125 #[.int .i64 7] w fun e w' => e = .returned (.tuple #[.int .i64 (0), .int .i64 9223372036854775807]) ∧ w' = w := by
  go_enter Tryz.func125, Tryz.ntmps125
  go_wp2_with fail
  go_ret2
  exact ⟨rfl, rfl⟩
set_option maxRecDepth 100000 in
set_option maxHeartbeats 800000 in
theorem span_11 (w : World) : Calls Tryz.prog 125 #[.int .i64 11] w fun e w' => e = .returned (.tuple #[.int .i64 (0), .int .i64 9223372036854775807]) ∧ w' = w := by
  go_enter Tryz.func125, Tryz.ntmps125
  go_wp2_with fail
  go_ret2
  exact ⟨rfl, rfl⟩
set_option maxRecDepth 100000 in
set_option maxHeartbeats 800000 in
theorem span_12 (w : World) : Calls Tryz.prog 125 #[.int .i64 12] w fun e w' => e = .returned (.tuple #[.int .i64 (0), .int .i64 9223372036854775807]) ∧ w' = w := by
  go_enter Tryz.func125, Tryz.ntmps125
  go_wp2_with fail
  go_ret2
  exact ⟨rfl, rfl⟩
set_option maxRecDepth 100000 in
set_option maxHeartbeats 800000 in
theorem span_13 (w : World) : Calls Tryz.prog 125 #[.int .i64 13] w fun e w' => e = .returned (.tuple #[.int .i64 (0), .int .i64 9223372036854775807]) ∧ w' = w := by
  go_enter Tryz.func125, Tryz.ntmps125
  go_wp2_with fail
  go_ret2
  exact ⟨rfl, rfl⟩
set_option maxRecDepth 100000 in
set_option maxHeartbeats 800000 in
theorem span_15 (w : World) : Calls Tryz.prog 125 #[.int .i64 15] w fun e w' => e = .returned (.tuple #[.int .i64 (0), .int .i64 9223372036854775807]) ∧ w' = w := by
  go_enter Tryz.func125, Tryz.ntmps125
  go_wp2_with fail
  go_ret2
  exact ⟨rfl, rfl⟩
set_option maxRecDepth 100000 in
set_option maxHeartbeats 800000 in
theorem span_23 (w : World) : Calls Tryz.prog 125 #[.int .i64 23] w fun e w' => e = .returned (.tuple #[.int .i64 (0), .int .i64 9223372036854775807]) ∧ w' = w := by
  go_enter Tryz.func125, Tryz.ntmps125
  go_wp2_with fail
  go_ret2
  exact ⟨rfl, rfl⟩
set_option maxRecDepth 100000 in
set_option maxHeartbeats 800000 in
theorem span_24 (w : World) : Calls Tryz.prog 125 #[.int .i64 24] w fun e w' => e = .returned (.tuple #[.int .i64 (0), .int .i64 9223372036854775807]) ∧ w' = w := by
  go_enter Tryz.func125, Tryz.ntmps125
  go_wp2_with fail
  go_ret2
  exact ⟨rfl, rfl⟩
set_option maxRecDepth 100000 in
set_option maxHeartbeats 800000 in
theorem span_25 (w : World) : Calls Tryz.prog 125 #[.int .i64 25] w fun e w' => e = .returned (.tuple #[.int .i64 (0), .int .i64 9223372036854775807]) ∧ w' = w := by
  go_enter Tryz.func125, Tryz.ntmps125
  go_wp2_with fail
  go_ret2
  exact ⟨rfl, rfl⟩
set_option maxRecDepth 100000 in
set_option maxHeartbeats 800000 in
theorem span_26 (w : World) : Calls Tryz.prog 125 #[.int .i64 26] w fun e w' => e = .returned (.tuple #[.int .i64 (0), .int .i64 9223372036854775807]) ∧ w' = w := by
  go_enter Tryz.func125, Tryz.ntmps125
  go_wp2_with fail
  go_ret2
  exact ⟨rfl, rfl⟩
set_option maxRecDepth 100000 in
set_option maxHeartbeats 1600000 in
theorem span_else (op : Int) (w : World) (h1 : op ≠ 1) (h2 : op ≠ 2) (h8 : op ≠ 8) (h9 : op ≠ 9) (h4 : op ≠ 4) (h5 : op ≠ 5) (h6 : op ≠ 6) (h7 : op ≠ 7) (h11 : op ≠ 11) (h12 : op ≠ 12) (h13 : op ≠ 13) (h15 : op ≠ 15) (h23 : op ≠ 23) (h24 : op ≠ 24) (h25 : op ≠ 25) (h26 : op ≠ 26) : Calls Tryz.prog 125 #[.int .i64 op] w fun e w' => e = .returned (.tuple #[.int .i64 0, .int .i64 0]) ∧ w' = w := by
  go_enter Tryz.func125, Tryz.ntmps125
  go_wp2_with fail
  go_ret2
  exact ⟨rfl, rfl⟩
theorem span_any (op : Int) (w : World) : Calls Tryz.prog 125 #[.int .i64 op] w fun e w' => e = .returned (.tuple #[.int .i64 (leastI op), .int .i64 (mostI op)]) ∧ w' = w := by
  by_cases h1 : op = 1
  · subst h1; exact span_1 w
  by_cases h2 : op = 2
  · subst h2; exact span_2 w
  by_cases h8 : op = 8
  · subst h8; exact span_8 w
  by_cases h9 : op = 9
  · subst h9; exact span_9 w
  by_cases h4 : op = 4
  · subst h4; exact span_4 w
  by_cases h5 : op = 5
  · subst h5; exact span_5 w
  by_cases h6 : op = 6
  · subst h6; exact span_6 w
  by_cases h7 : op = 7
  · subst h7; exact span_7 w
  by_cases h11 : op = 11
  · subst h11; exact span_11 w
  by_cases h12 : op = 12
  · subst h12; exact span_12 w
  by_cases h13 : op = 13
  · subst h13; exact span_13 w
  by_cases h15 : op = 15
  · subst h15; exact span_15 w
  by_cases h23 : op = 23
  · subst h23; exact span_23 w
  by_cases h24 : op = 24
  · subst h24; exact span_24 w
  by_cases h25 : op = 25
  · subst h25; exact span_25 w
  by_cases h26 : op = 26
  · subst h26; exact span_26 w
  have e1 : leastI op = 0 := by unfold leastI; rw [if_neg h1, if_neg h8, if_neg h9]
  have e3 : manyB op = false := by unfold manyB; simp [*]
  have e2 : mostI op = 0 := by unfold mostI; rw [if_neg h1, if_neg h2, if_neg h8, if_neg h9, e3]; rfl
  rw [e1, e2]
  exact span_else op w h1 h2 h8 h9 h4 h5 h6 h7 h11 h12 h13 h15 h23 h24 h25 h26

set_option maxRecDepth 100000 in
set_option maxHeartbeats 800000 in
theorem hasN_any (op : Int) (w : World) : Calls Tryz.prog 97 #[.int .i64 op] w fun e w' => e = .returned (.bool (hasN op)) ∧ w' = w := by
  have hh : hasN op = (decide (leastI op < 0) || decide (0 < mostI op)) := rfl
  rw [hh]
  clear hh
  go_enter Tryz.func97, Tryz.ntmps97
  go_wp2_with fail
  refine (span_any op _).mono ?_
  rintro e w1 ⟨rfl, rfl⟩
  by_cases h1 : leastI op < 0
  · go_wp2_with fail
    go_ret
    exact ⟨congrArg (fun b => Ending.returned (Value.bool b)) (Bool.eq_iff_iff.2 (by simp <;> omega)), rfl⟩
  · by_cases h2 : 0 < mostI op
    · go_wp2_with fail
      go_ret
      exact ⟨congrArg (fun b => Ending.returned (Value.bool b)) (Bool.eq_iff_iff.2 (by simp <;> omega)), rfl⟩
    · go_wp2_with fail
      go_ret
      exact ⟨congrArg (fun b => Ending.returned (Value.bool b)) (Bool.eq_iff_iff.2 (by simp <;> omega)), rfl⟩

set_option maxRecDepth 100000 in
set_option maxHeartbeats 800000 in
theorem isOp_any (op : Int) (w : World) : Calls Tryz.prog 131 #[.int .i64 op] w fun e w' => e = .returned (.bool (decide (1 ≤ op) && decide (op ≤ 26))) ∧ w' = w := by
  by_cases h1 : 1 ≤ op
  · by_cases h2 : op ≤ 26
    · go_enter Tryz.func131, Tryz.ntmps131
      go_wp2_with fail
      go_ret
      exact ⟨congrArg (fun b => Ending.returned (Value.bool b)) (Bool.eq_iff_iff.2 (by simp <;> omega)), rfl⟩
    · go_enter Tryz.func131, Tryz.ntmps131
      go_wp2_with fail
      go_ret
      exact ⟨congrArg (fun b => Ending.returned (Value.bool b)) (Bool.eq_iff_iff.2 (by simp <;> omega)), rfl⟩
  · go_enter Tryz.func131, Tryz.ntmps131
    go_wp2_with fail
    go_ret
    exact ⟨congrArg (fun b => Ending.returned (Value.bool b)) (Bool.eq_iff_iff.2 (by simp <;> omega)), rfl⟩

set_option maxRecDepth 100000 in
set_option maxHeartbeats 1600000 in
theorem mayBe_ins (op n : Int) (w : World) : Calls Tryz.prog 112 #[.agg #[.int .i64 op, .int .i64 n]] w fun e w' => e = .returned (.bool (mayB (op, n))) ∧ Below w.heap.size w w' := by
  have hh : mayB (op, n) = (decide (1 ≤ op) && decide (op ≤ 26) && decide (leastI op ≤ n) && decide (n ≤ mostI op)) := rfl
  rw [hh]
  clear hh
  have hb := (Below.refl w.heap.size w).alloc (Nat.le_refl _) (.cells #[.int .i64 op, .int .i64 n] 75)
  go_enter Tryz.func112, Tryz.ntmps112
  go_wp2_with fail
  refine (isOp_any op _).mono ?_
  rintro e w1 ⟨rfl, rfl⟩
  cases h0 : (decide (1 ≤ op) && decide (op ≤ 26)) with
  | false =>
    have H0 : Hid (¬ (1 ≤ op ∧ op ≤ 26)) := Lib.hid (by simpa using h0)
    clear h0
    go_wp2_with fail
    go_ret
    exact ⟨congrArg (fun b => Ending.returned (Value.bool b)) (Bool.eq_iff_iff.2 (by have := H0.out; simp <;> omega)), hb⟩
  | true =>
    have H0 : Hid (1 ≤ op ∧ op ≤ 26) := Lib.hid (by simpa using h0)
    clear h0
    go_wp2_with fail
    refine (span_any op _).mono ?_
    rintro e w1 ⟨rfl, rfl⟩
    by_cases h1 : leastI op ≤ n
    · by_cases h2 : n ≤ mostI op
      · go_wp2_with fail
        go_ret
        exact ⟨congrArg (fun b => Ending.returned (Value.bool b)) (Bool.eq_iff_iff.2 (by have := H0.out; simp <;> omega)), hb⟩
      · go_wp2_with fail
        go_ret
        exact ⟨congrArg (fun b => Ending.returned (Value.bool b)) (Bool.eq_iff_iff.2 (by have := H0.out; simp <;> omega)), hb⟩
    · go_wp2_with fail
      go_ret
      exact ⟨congrArg (fun b => Ending.returned (Value.bool b)) (Bool.eq_iff_iff.2 (by have := H0.out; simp <;> omega)), hb⟩

end Go.Proofs.YtkeglkneobngnaaGreatDoor

namespace Go.Proofs.YtkeglkneobngnaaGreatDoor
open Go.RowKit Cd As

def IfaceAt (w : World) (g : Nat) : Prop := ∃ tp p, w.cell? ⟨g, 0, none⟩ = some (.iface tp p)
theorem IfaceAt.below {w w' : World} {g : Nat} (h : IfaceAt w g) (hb : Below w.heap.size w w') : IfaceAt w' g := by
  obtain ⟨tp, p, hc⟩ := h
  exact ⟨tp, p, (Keeps.of_new (S := fun _ => False) hb).cell_of hc id⟩
/-- What asm's reader reads of the package's variables. -/
structure RdEnv (w : World) : Prop where
  tabs : AsmVars w
  pow : Pow w
  errR : IfaceAt w 10
  errS : IfaceAt w 9
theorem RdEnv.below {w w' : World} (h : RdEnv w) (hb : Below w.heap.size w w') : RdEnv w' := ⟨h.tabs.below hb, h.pow.below hb, h.errR.below hb, h.errS.below hb⟩
theorem below_bytes {w w' : World} {t : TypeId} (h : w' = w ∨ ∃ s, w' = Lib.bytesWorld w t s) : Below w.heap.size w w' := by
  rcases h with rfl | ⟨t, rfl⟩
  · exact Below.refl _ _
  · exact Lib.bytesWorld_below _ _ _
/-- Atoi, at whatever text: what it tells, and whether there is an error. -/
theorem atoi_any (s : ByteArray) (hs : s.size ≤ 100000) (w : World) (hE : RdEnv w) :
    Calls Tryz.prog 137 #[.string s] w fun e w' => (∃ n v, e = .returned (.tuple #[.int .i64 n, v]) ∧ ((v = .nilIface ∧ Lib.atoiAll s.toList = .ok n) ∨ ((∃ tp p, v = .iface tp p) ∧ ∀ n, Lib.atoiAll s.toList ≠ .ok n))) ∧ Below w.heap.size w w' := by
  rw [ByteArray.toList_eq]
  cases h : Lib.atoiAll s.data.toList with
  | ok n =>
    refine (Tryz.strconv_Atoi_ok s (by omega) n h w).mono ?_
    rintro e w' ⟨rfl, hw⟩
    exact ⟨⟨n, _, rfl, Or.inl ⟨rfl, rfl⟩⟩, below_bytes hw⟩
  | range =>
    obtain ⟨tp, p, hc⟩ := hE.errR
    refine (Tryz.strconv_Atoi_range s (by omega) h _ w hc (Or.inr ⟨tp, p, rfl⟩)).mono ?_
    rintro e w' ⟨N, rfl, _, _, hb⟩
    exact ⟨⟨_, _, rfl, Or.inr ⟨⟨_, _, rfl⟩, fun n e => (by cases e)⟩⟩, hb⟩
  | _ =>
    obtain ⟨tp, p, hc⟩ := hE.errS
    refine (Any.strconv_Atoi_syntax Tryz.laysC172 s (by omega) h _ w hc (Or.inr ⟨tp, p, rfl⟩)).mono ?_
    rintro e w' ⟨N, rfl, _, _, hb⟩
    exact ⟨⟨_, _, rfl, Or.inr ⟨⟨_, _, rfl⟩, fun n e => (by cases e)⟩⟩, hb⟩

theorem itoaL_any (n : Int) (h0 : -9223372036854775808 ≤ n) (h1 : n ≤ 9223372036854775807) (w : World) (h : Pow w) : Calls Tryz.prog 53 #[.int .i64 n] w fun e w' =>
    e = .returned (.string ⟨(Lib.itoa n).toArray⟩) ∧ Below w.heap.size w w' := itoa_any n h0 h1 w h

set_option maxRecDepth 100000 in
set_option maxHeartbeats 1600000 in
theorem number_any (s : ByteArray) (hs : s.size ≤ 100000) (w : World) (hE : RdEnv w) :
    Calls Tryz.prog 119 #[.string s] w fun e w' => e = .returned (.tuple #[.int .i64 ((numB s.toList).getD 0), .bool (numB s.toList).isSome]) ∧ Below w.heap.size w w' := by
  have HA := Lib.hid (atoi_any s hs w hE)
  have HE := Lib.hid hE
  have HN : Hid (numB s.toList = match Lib.atoiAll s.toList with
    | .ok v => if Lib.itoa v = s.toList then some v else none
    | _ => none) := Lib.hid rfl
  have HB : Hid (∀ n, Lib.atoiAll s.toList = .ok n → -9223372036854775808 ≤ n ∧ n ≤ 9223372036854775807) := Lib.hid fun n h => Lib.atoiAll_bounds h
  obtain ⟨R, hR⟩ : ∃ R, R = numB s.toList := ⟨_, rfl⟩
  rw [← hR] at HN ⊢
  clear hE hR hs
  go_enter Tryz.func119, Tryz.ntmps119
  go_wp2_with fail
  refine HA.out.mono ?_
  rintro e w1 ⟨⟨n, v, rfl, hv⟩, hb1⟩
  have HB1 := Lib.hid hb1
  clear hb1
  rcases hv with ⟨rfl, hok⟩ | ⟨⟨tp, p, rfl⟩, hno⟩
  · have hn := HB.out n hok
    obtain ⟨l, hl⟩ : ∃ l, l = Lib.itoa n := ⟨_, rfl⟩
    have HL := Lib.hid hl
    have HI : Hid (Calls Tryz.prog 53 #[.int .i64 n] w1 fun e w' => e = .returned (.string ⟨l.toArray⟩) ∧ Below w1.heap.size w1 w') := Lib.hid (by rw [hl]; exact itoaL_any n hn.1 hn.2 w1 (HE.out.below HB1.out).pow)
    have HO := Lib.hid hok
    clear hl hok
    by_cases he : l = s.toList
    · have hR : R = some n := by rw [HN.out, HO.out]; show (if _ then _ else _) = _; rw [if_pos (by rw [← HL.out]; exact he)]
      subst hR
      have hh : (l == s.toList) = true := by rw [he]; simp
      clear he
      go_wp2_with fail
      refine HI.out.mono ?_
      rintro e w2 ⟨rfl, hb2⟩
      have HB2 := Lib.hid (HB1.out.trans (hb2.mono HB1.out.size))
      clear hb2
      go_wp2_with fail
      go_ret2
      exact ⟨rfl, HB2.out⟩
    · have hR : R = none := by rw [HN.out, HO.out]; show (if _ then _ else _) = _; rw [if_neg (by rw [← HL.out]; exact he)]
      subst hR
      have hh : (l == s.toList) = false := by rw [beq_eq_false_iff_ne]; exact he
      clear he
      go_wp2_with fail
      refine HI.out.mono ?_
      rintro e w2 ⟨rfl, hb2⟩
      have HB2 := Lib.hid (HB1.out.trans (hb2.mono HB1.out.size))
      clear hb2
      go_wp2_with fail
      go_ret2
      exact ⟨rfl, HB2.out⟩
  · have hR : R = none := by
      rw [HN.out]
      split
      · rename_i v h
        exact absurd h (hno v)
      · rfl
    subst hR
    clear hno
    go_wp2_with fail
    go_ret2
    exact ⟨rfl, HB1.out⟩

theorem twoB_writ (l : B) : twoB l = writV l 16 1 := by
  unfold twoB
  have key : ∀ (n a : Nat), a + n ≤ 20 → writV l n a = firstB l ((sgB.drop a).take n) a := by
    intro n
    induction n with
    | zero => intro a _; rw [List.take_zero]; rfl
    | succ n ih =>
      intro a ha
      have hl : a < sgB.length := by show a < 20; omega
      rw [List.drop_eq_getElem_cons hl, List.take_succ_cons]
      have e : sgB[a] = signL a := by
        unfold signL
        rw [List.getD_eq_getElem?_getD, show signsL = sgB from rfl, List.getElem?_eq_getElem hl]; rfl
      rw [e]
      by_cases h : l = signL a
      · rw [writV_yes h, firstB_yes h.symm]
      · rw [writV_no h, firstB_no (fun h2 => h h2.symm), ih (a + 1) (by omega)]
  exact (key 16 1 (by omega)).symm
theorem oneB_writ (l : B) : oneB l = writV l 3 17 := by
  unfold oneB
  have key : ∀ (n a : Nat), a + n = 20 → writV l n a = firstB l (sgB.drop a) a := by
    intro n
    induction n with
    | zero => intro a ha; obtain rfl : a = 20 := by omega
              rfl
    | succ n ih =>
      intro a ha
      have hl : a < sgB.length := by show a < 20; omega
      rw [List.drop_eq_getElem_cons hl]
      have e : sgB[a] = signL a := by
        unfold signL
        rw [List.getD_eq_getElem?_getD, show signsL = sgB from rfl, List.getElem?_eq_getElem hl]; rfl
      rw [e]
      by_cases h : l = signL a
      · rw [writV_yes h, firstB_yes h.symm]
      · rw [writV_no h, firstB_no (fun h2 => h h2.symm), ih (a + 1) (by omega)]
  exact (key 3 17 (by omega)).symm

set_option maxRecDepth 100000 in
set_option maxHeartbeats 1600000 in
theorem numberOf_any (op : Nat) (hop : op ≤ 26) (s : ByteArray) (hs : s.size ≤ 100000) (w : World) (hE : RdEnv w) :
    Calls Tryz.prog 141 #[.int .i64 (op : Int), .string s] w fun e w' => e = .returned (.tuple #[.int .i64 ((numOf op s.toList).getD 0), .bool (numOf op s.toList).isSome]) ∧ Below w.heap.size w w' := by
  have HT : Hid (Calls Tryz.prog 158 #[.string s] w fun e w' => e = .returned (.int .i64 (twoB s.toList : Nat)) ∧ w = w') := Lib.hid (by rw [twoB_writ]; exact two_any s w hE.tabs.signs)
  have HO : Hid (Calls Tryz.prog 159 #[.string s] w fun e w' => e = .returned (.int .i64 (oneB s.toList : Nat)) ∧ w = w') := Lib.hid (by rw [oneB_writ]; exact one_any s w hE.tabs.signs)
  have HN := Lib.hid (number_any s hs w hE)
  obtain ⟨R, hR⟩ : ∃ R, R = numOf op s.toList := ⟨_, rfl⟩
  rw [← hR]
  unfold numOf at hR
  generalize twoB s.toList = t at *
  generalize oneB s.toList = u at *
  have HR := Lib.hid hR
  clear hE hR hs
  by_cases h8 : op = 8
  · subst h8
    go_enter Tryz.func141, Tryz.ntmps141
    go_wp2_with (go_at_call 158; refine HT.out.mono ?_; rintro e w1 ⟨rfl, rfl⟩)
    have hR : R = if t = 0 then none else some (t : Int) := by rw [HR.out]; simp
    subst hR
    by_cases h0 : t = 0
    · subst h0
      go_ret2
      exact ⟨rfl, Below.refl _ _⟩
    · rw [if_neg h0]
      have h1 : ((t : Int) != 0) = true := by simp; omega
      go_ret2
      exact ⟨by simp [h1], Below.refl _ _⟩
  · have h8i : ¬ (op : Int) = 8 := by omega
    by_cases h9 : op = 9
    · subst h9
      go_enter Tryz.func141, Tryz.ntmps141
      go_wp2_with (go_at_call 159; refine HO.out.mono ?_; rintro e w1 ⟨rfl, rfl⟩)
      have hR : R = if u = 0 then none else some (u : Int) := by rw [HR.out]; simp
      subst hR
      by_cases h0 : u = 0
      · subst h0
        go_ret2
        exact ⟨rfl, Below.refl _ _⟩
      · rw [if_neg h0]
        have h1 : ((u : Int) != 0) = true := by simp; omega
        go_ret2
        exact ⟨by simp [h1], Below.refl _ _⟩
    · have h9i : ¬ (op : Int) = 9 := by omega
      have hR : R = numB s.toList := by rw [HR.out, if_neg h8, if_neg h9]
      subst hR
      clear HR
      have HN2 := HN
      go_enter Tryz.func141, Tryz.ntmps141
      go_wp2_with (go_at_call 119; refine HN2.out.mono ?_; rintro e w1 ⟨rfl, hb1⟩)
      go_ret2
      exact ⟨rfl, by assumption⟩
end Go.Proofs.YtkeglkneobngnaaGreatDoor

namespace Go.Proofs.YtkeglkneobngnaaGreatDoor
open Go.RowKit Cd

theorem info_ins : (Tryz.prog.info? 75).map (fun i => (i.zero, i.size, i.bytes)) = some (some (.agg #[.int .i64 0, .int .i64 0]), 2, 16) := by kernel_rfl
def cellsL (l : List Int) : List Value := l.map (Value.int .i64)
def cellsN (l : List In) : List Value := l.flatMap fun i => [.int .i64 i.1, .int .i64 i.2]
theorem cellsN_snoc (l : List In) (i : In) : cellsN l ++ [.int .i64 i.1, .int .i64 i.2] = cellsN (l ++ [i]) := by simp [cellsN]
theorem cellsL_snoc (l : List Int) (i : Int) : cellsL l ++ [.int .i64 i] = cellsL (l ++ [i]) := by simp [cellsL]
theorem cellsN_length (l : List In) : (cellsN l).length = l.length * 2 := by
  induction l with
  | nil => rfl
  | cons p ps ih => simp only [cellsN, List.flatMap_cons, List.length_append, List.length_cons, List.length_nil] at ih ⊢; omega
theorem cellsN_get : ∀ (l : List In) (i : Nat) (x : In), l[i]? = some x → (cellsN l)[i * 2]? = some (.int .i64 x.1) ∧ (cellsN l)[i * 2 + 1]? = some (.int .i64 x.2)
  | [], _, _, h => by cases h
  | y :: l, 0, x, h => by cases h; exact ⟨rfl, rfl⟩
  | y :: l, i + 1, x, h => by
    have := cellsN_get l i x (by simpa using h)
    have e : cellsN (y :: l) = .int .i64 y.1 :: .int .i64 y.2 :: cellsN l := rfl
    rw [e]
    refine ⟨?_, ?_⟩
    · rw [show (i + 1) * 2 = i * 2 + 1 + 1 by omega]; simpa using this.1
    · rw [show (i + 1) * 2 + 1 = i * 2 + 1 + 1 + 1 by omega]; simpa using this.2
theorem addr0 (g j : Nat) : (⟨g, 0, none⟩ : Addr).add j = ⟨g, j, none⟩ := by unfold Addr.add; split <;> simp_all
theorem own_ints {w : World} {B n : Nat} {v : Value} {l : List Int} (h : w.ownsRow B 3 1 v n (cellsL l)) : IntsAt w v l := by
  have hl : l.length = n := by simpa [cellsL] using h.1
  subst hl
  exact OwnI.ints (B := B) h
theorem own_ins {w : World} {B n : Nat} {v : Value} {l : List In} (h : w.ownsRow B 75 2 v n (cellsN l)) : InsAt w v l := by
  have hl : l.length = n := by have := h.1; rw [cellsN_length] at this; omega
  have hc := h
  rcases h.2 with ⟨rfl, h0⟩ | ⟨g, cap, cur, rfl, hb, hg, h3, h4, h5, h6⟩
  · obtain rfl : l = [] := List.eq_nil_of_length_eq_zero (by omega)
    exact insAt_nil w
  · refine ⟨_, _, _, rfl, hl.symm, h3, h4, fun _ => ⟨g, 0, rfl, (Array.getElem?_eq_some_iff.1 hg).1, fun i x hi => ?_⟩⟩
    obtain ⟨e1, e2⟩ := cellsN_get l i x hi
    have f1 := World.ownsRow.cells hc (g := g) rfl _ _ e1
    have f2 := World.ownsRow.cells hc (g := g) rfl _ _ e2
    rw [addr0] at f1 f2
    rw [Nat.zero_add]
    exact ⟨f1, f2⟩
theorem own_mono {w : World} {B B' n size : Nat} {e : TypeId} {v : Value} {xs : List Value} (h : w.ownsRow B e size v n xs) (hB : B' ≤ B) : w.ownsRow B' e size v n xs :=
  ⟨h.1, h.2.imp id fun ⟨g, c, cur, e1, e2, e3⟩ => ⟨g, c, cur, e1, Nat.le_trans hB e2, e3⟩⟩

theorem bel_next {w a b : World} (h : Below w.heap.size w a) (k : Below a.heap.size a b) : Below w.heap.size w b := h.trans (k.mono h.size)
end Go.Proofs.YtkeglkneobngnaaGreatDoor

namespace Go.Proofs.YtkeglkneobngnaaGreatDoor
open Go.RowKit

/-- A block and its first cells, which may be written. -/
structure BlkO (w : World) (b : Nat) (vs : List Value) : Prop where
  at_ : ∀ j v, vs[j]? = some v → w.cell? ⟨b, j, none⟩ = some v
  free : ∀ j, w.frozen? ⟨b, j, none⟩ = false
  lt : b < w.heap.size
theorem BlkO.new (w : World) (xs : Array Value) (t : TypeId) : BlkO (w.alloc (.cells xs t)) w.heap.size xs.toList :=
  ⟨fun j v h => by rw [World.cell?_alloc_at _ _ _ _ rfl]; simpa using h, fun j => World.frozen?_alloc_new w _ _ _, by simp⟩
theorem BlkO.keeps {w w' : World} {S : Nat → Prop} {b : Nat} {vs : List Value} (h : BlkO w b vs) (hk : Keeps S w w') (hs : ¬ S b) : BlkO w' b vs :=
  ⟨fun j v hv => hk.cell_of (h.at_ j v hv) hs, fun j => by rw [hk.frozen (p := ⟨b, j, none⟩) h.lt hs]; exact h.free j, Nat.lt_of_lt_of_le h.lt hk.size⟩
theorem BlkO.below {w w' : World} {b : Nat} {vs : List Value} (h : BlkO w b vs) (hb : Below w.heap.size w w') : BlkO w' b vs := h.keeps (S := fun _ => False) (Keeps.of_new hb) id
theorem BlkO.set {w : World} {b : Nat} {vs : List Value} (h : BlkO w b vs) (i : Nat) (u : Value) (hi : i < vs.length) : BlkO (w.setCell ⟨b, i, none⟩ u) b (vs.set i u) := by
  refine ⟨fun j v hv => ?_, fun j => by rw [World.frozen?_setCell]; exact h.free j, by simpa [World.setCell] using h.lt⟩
  by_cases hij : i = j
  · subst hij
    rw [List.getElem?_set_self hi] at hv
    cases hv
    exact World.cell?_setCell_same _ _ _ (h.at_ i _ (List.getElem?_eq_getElem hi))
  · rw [List.getElem?_set_ne hij] at hv
    rw [World.cell?_setCell_other _ _ _ _ (by intro e; injection e with _ e2; exact hij e2)]
    exact h.at_ j v hv
theorem own_set (w : World) (b i : Nat) (u : Value) : Keeps (fun j => j = b) w (w.setCell ⟨b, i, none⟩ u) := (Keeps.refl (fun j => j = b) w).setCell (p := ⟨b, i, none⟩) (Or.inl rfl) u
end Go.Proofs.YtkeglkneobngnaaGreatDoor

namespace Go.Proofs.YtkeglkneobngnaaGreatDoor
open Go.RowKit Cd As

/-- A slice that reads as these texts. -/
def StrsAt (w : World) (v : Value) (l : List ByteArray) : Prop :=
  ∃ ao n cap, v = .slice ao n cap ∧ n = l.length ∧ n ≤ cap ∧ cap ≤ maxLen ∧ (0 < n → ∃ b o, ao = some ⟨b, o, none⟩ ∧ b < w.heap.size ∧ ∀ i x, l[i]? = some x → w.cell? ⟨b, o + i, none⟩ = some (.string x))
theorem StrsAt.below {w w' : World} {v : Value} {l : List ByteArray} (h : StrsAt w v l) (hb : Below w.heap.size w w') : StrsAt w' v l := by
  obtain ⟨ao, n, cap, hv, hn, hc, hm, hx⟩ := h
  refine ⟨ao, n, cap, hv, hn, hc, hm, fun h0 => ?_⟩
  obtain ⟨b, o, h1, h2, h3⟩ := hx h0
  exact ⟨b, o, h1, Nat.lt_of_lt_of_le h2 hb.size, fun i x hi => (Keeps.of_new (S := fun _ => False) hb).cell_of (h3 i x hi) id⟩
/-- The bytes of texts. -/
def wsL (l : List ByteArray) : List B := l.map (·.toList)
/-- Texts that a line of the reader may have. -/
def Fit (l : List ByteArray) : Prop := l.length ≤ 100000 ∧ ∀ x ∈ l, x.size ≤ 100000
theorem Fit.at {l : List ByteArray} (h : Fit l) {i : Nat} {x : ByteArray} (hx : l[i]? = some x) : x.size ≤ 100000 := h.2 x (List.mem_of_getElem? hx)

/-- insOf's answer. -/
def InsSays (e : Ending) (r : Option In) : Prop := ∃ x y : Int, e = .returned (.tuple #[.agg #[.int .i64 x, .int .i64 y], .bool r.isSome]) ∧ ∀ i, r = some i → x = i.1 ∧ y = i.2

set_option maxRecDepth 100000 in
set_option maxHeartbeats 3200000 in
theorem insOf_any (v : Value) (x : ByteArray) (l : List ByteArray) (w : World) (hv : StrsAt w v (x :: l)) (hl : Fit (x :: l)) (hE : RdEnv w) :
    Calls Tryz.prog 121 #[v] w fun e w' => InsSays e (insI (wsL (x :: l))) ∧ Below w.heap.size w w' := by
  obtain ⟨ao, n, cap, rfl, hn, hnc, hcm, hx⟩ := hv
  obtain ⟨b, o, rfl, hbl, hc⟩ := hx (by rw [hn]; exact Nat.succ_pos _)
  have c0 : w.cell? ⟨b, o, none⟩ = some (.string x) := by have := hc 0 x rfl; rwa [Nat.add_zero] at this
  have HOP : Hid (∀ W, Below w.heap.size w W → Calls Tryz.prog 140 #[.string x] W fun e w' => e = .returned (.int .i64 (opB x.toList : Nat)) ∧ w' = W) := Lib.hid fun W hb => opOf_any x W (hE.below hb).tabs
  have hop : opB x.toList ≤ 26 := by
    unfold opB
    have key : ∀ (r : List B) (a : Nat), firstB x.toList r a = 0 ∨ firstB x.toList r a < a + r.length := by
      intro r
      induction r with
      | nil => intro a; exact Or.inl rfl
      | cons y r ih =>
        intro a
        by_cases h : y = x.toList
        · rw [firstB_yes h]; right; simp
        · rw [firstB_no h]
          rcases ih (a + 1) with h | h
          · exact Or.inl h
          · right; rw [List.length_cons]; omega
    rcases key namesB 0 with h | h
    · omega
    · rw [names_cnt] at h; omega
  have HI : Hid (insI (wsL (x :: l)) = if hasN (opB x.toList) then (match wsL l with
      | [x2] => (numOf (opB x.toList) x2).map fun n => (((opB x.toList : Nat) : Int), n)
      | _ => none)
    else if opB x.toList = 0 ∨ wsL l ≠ [] then none else some (((opB x.toList : Nat) : Int), (0 : Int))) := Lib.hid rfl
  obtain ⟨R, hR⟩ : ∃ R, R = insI (wsL (x :: l)) := ⟨_, rfl⟩
  rw [← hR] at HI ⊢
  generalize opB x.toList = op at *
  have HB1 : Hid (Below w.heap.size w (w.alloc (.cells #[.int .i64 0, .int .i64 0] 75))) := Lib.hid ((Below.refl _ w).alloc (Nat.le_refl _) _)
  have HC : Hid (∀ W, Below w.heap.size w W → W.cell? ⟨b, o, none⟩ = some (.string x) ∧ ∀ y, l[0]? = some y → W.cell? ⟨b, o + 1, none⟩ = some (.string y)) := Lib.hid fun W hb =>
    ⟨(Keeps.of_new (S := fun _ => False) hb).cell_of c0 id, fun y hy => (Keeps.of_new (S := fun _ => False) hb).cell_of (hc 1 y (by simpa using hy)) id⟩
  have HZ : Hid (BlkO (w.alloc (.cells #[.int .i64 0, .int .i64 0] 75)) w.heap.size [.int .i64 0, .int .i64 0]) := Lib.hid (BlkO.new w #[.int .i64 0, .int .i64 0] 75)
  have HE := Lib.hid hE
  have HL := Lib.hid hl
  have hni : (0 : Int) ≤ 0 ∧ (0 : Int) < (n : Int) := by simp at hn; omega
  simp only [List.length_cons] at hn
  clear hE hl hc c0 hR hx
  have c1 := (HC.out _ HB1.out).1
  go_enter Tryz.func121, Tryz.ntmps121
  go_wp2_with fail
  refine (HOP.out _ HB1.out).mono ?_
  rintro e w1 ⟨rfl, rfl⟩
  have z0 := HZ.out.at_ 0 _ rfl
  have z1 := HZ.out.at_ 1 _ rfl
  have y0 := HZ.out.free 0
  have y1 := HZ.out.free 1
  obtain ⟨W1, hW1⟩ : ∃ W1, W1 = w.alloc (.cells #[.int .i64 0, .int .i64 0] 75) := ⟨_, rfl⟩
  have HW1 := Lib.hid hW1
  rw [← hW1] at HB1 HZ c1 z0 z1 y0 y1 ⊢
  clear hW1
  -- what is handed back, and where
  have HEND : Hid (∀ (p q : Int), (BlkO ((W1.setCell ⟨w.heap.size, 0, none⟩ (.int .i64 p)).setCell ⟨w.heap.size, 1, none⟩ (.int .i64 q)) w.heap.size [.int .i64 p, .int .i64 q]) ∧ Below w.heap.size w ((W1.setCell ⟨w.heap.size, 0, none⟩ (.int .i64 p)).setCell ⟨w.heap.size, 1, none⟩ (.int .i64 q))) := Lib.hid fun p q =>
    ⟨(HZ.out.set 0 (.int .i64 p) (show 0 < 2 by decide)).set 1 (.int .i64 q) (show 1 < 2 by decide), (HB1.out.setCell (p := ⟨w.heap.size, 0, none⟩) (Nat.le_refl _) _).setCell (p := ⟨w.heap.size, 1, none⟩) (Nat.le_refl _) _⟩
  go_wp2_with fail
  refine (hasN_any _ _).mono ?_
  rintro e w2 ⟨rfl, hw2⟩
  have hw3 := hw2.symm
  subst hw3
  clear hw2
  cases hh : hasN op with
  | false =>
    rw [hh] at HI
    have HI2 : Hid (R = if op = 0 ∨ wsL l ≠ [] then none else some ((op : Int), (0 : Int))) := Lib.hid (by have := HI.out; simpa using this)
    clear HI hh
    by_cases h0 : op = 0
    · have hR : R = none := by rw [HI2.out, if_pos (Or.inl h0)]
      subst hR
      have h0b : ((op : Int) != 0) = false := by simp [h0]
      have h0i : (op : Int) = 0 ↔ True := by simp [h0]
      have H0 := Lib.hid h0
      clear HI2 h0
      obtain ⟨r, hb⟩ := HEND.out op 0
      have r0 := r.at_ 0 _ rfl
      have r1 := r.at_ 1 _ rfl
      have H0I := Lib.hid h0i
      clear h0i
      go_wp2_with fail
      refine bodyPost_ret (v := .tuple #[.agg #[.int .i64 op, .int .i64 0], .bool false]) (by simp [results, Tryz.results121, go_sem, r0, r1] <;> first | rfl | omega) rfl ?_
      exact ⟨⟨_, _, rfl, fun i h => (by cases h)⟩, hb⟩
    · have h0i : ¬ (op : Int) = 0 := by omega
      have h0b : ((op : Int) != 0) = true := by simp; omega
      obtain ⟨r, hb⟩ := HEND.out op 0
      have r0 := r.at_ 0 _ rfl
      have r1 := r.at_ 1 _ rfl
      cases l with
      | nil =>
        have hR : R = some ((op : Int), (0 : Int)) := by
          rw [HI2.out, if_neg]
          rintro (h | h)
          · exact h0 h
          · exact h rfl
        subst hR
        have hn2 : ((n : Int) == 1) = true := by simp at hn; simp [hn]
        clear HI2 hn
        go_wp2_with fail
        refine bodyPost_ret (v := .tuple #[.agg #[.int .i64 op, .int .i64 0], .bool true]) (by simp [results, Tryz.results121, go_sem, r0, r1] <;> first | rfl | omega) rfl ?_
        exact ⟨⟨_, _, rfl, fun i h => by cases h; exact ⟨rfl, rfl⟩⟩, hb⟩
      | cons y l =>
        have hR : R = none := by rw [HI2.out, if_pos (Or.inr (by simp [wsL]))]
        subst hR
        have hn1 : ¬ (n : Int) = 1 := by simp at hn; omega
        have hn2 : ((n : Int) == 1) = false := by rw [beq_eq_false_iff_ne]; exact hn1
        clear HI2
        go_wp2_with fail
        refine bodyPost_ret (v := .tuple #[.agg #[.int .i64 op, .int .i64 0], .bool false]) (by simp [results, Tryz.results121, go_sem, r0, r1] <;> first | rfl | omega) rfl ?_
        exact ⟨⟨_, _, rfl, fun i h => (by cases h)⟩, hb⟩
  | true =>
    rw [hh] at HI
    have HI2 : Hid (R = (match wsL l with
      | [x2] => (numOf op x2).map fun n => ((op : Int), n)
      | _ => none)) := Lib.hid (by have := HI.out; simpa using this)
    clear HI hh
    have HBAD : Hid (n ≠ 2 → R = none) := Lib.hid (by
      rw [HI2.out]
      intro hne
      cases l with
      | nil => rfl
      | cons y l =>
        cases l with
        | nil => exact absurd (by simpa using hn) hne
        | cons z l => rfl)
    by_cases h2 : n = 2
    · obtain ⟨y, rfl⟩ : ∃ y, l = [y] := by
        cases l with
        | nil => simp at hn; omega
        | cons y l =>
          cases l with
          | nil => exact ⟨y, rfl⟩
          | cons z l => simp at hn; omega
      subst h2
      have hR : R = (numOf op y.toList).map fun n => ((op : Int), n) := HI2.out
      have HR := Lib.hid hR
      have hcy := (HC.out _ HB1.out).2 y rfl
      have HNO : Hid (Calls Tryz.prog 141 #[.int .i64 (op : Int), .string y] W1 fun e w' => e = .returned (.tuple #[.int .i64 ((numOf op y.toList).getD 0), .bool (numOf op y.toList).isSome]) ∧ Below W1.heap.size W1 w') :=
        Lib.hid (numberOf_any op hop y (HL.out.2 y (by simp)) W1 (HE.out.below HB1.out))
      clear hR HI2 HBAD
      generalize numOf op y.toList = no at *
      go_wp2_with fail
      refine HNO.out.mono ?_
      rintro e w3 ⟨rfl, hb3⟩
      have HZ3 := Lib.hid (HZ.out.below hb3)
      have HB3 := Lib.hid (HB1.out.trans (hb3.mono HB1.out.size))
      obtain ⟨q, hq⟩ : ∃ q, q = no.getD 0 := ⟨_, rfl⟩
      have HQ := Lib.hid hq
      rw [← hq]
      obtain ⟨bo, hbo⟩ : ∃ bo, bo = no.isSome := ⟨_, rfl⟩
      have HBO := Lib.hid hbo
      rw [← hbo]
      clear hb3 hq hbo z0 z1 y0 y1 c1 hcy
      have z0 := HZ3.out.at_ 0 _ rfl
      have z1 := HZ3.out.at_ 1 _ rfl
      have y0 := HZ3.out.free 0
      have y1 := HZ3.out.free 1
      have HF := Lib.hid ((HZ3.out.set 0 (.int .i64 op) (show 0 < 2 by decide)).set 1 (.int .i64 q) (show 1 < 2 by decide))
      have r0 := HF.out.at_ 0 _ rfl
      have r1 := HF.out.at_ 1 _ rfl
      go_wp2_with fail
      refine bodyPost_ret (v := .tuple #[.agg #[.int .i64 op, .int .i64 q], .bool bo]) (by simp [results, Tryz.results121, go_sem, r0, r1] <;> first | rfl | omega) rfl ?_
      refine ⟨⟨_, _, by rw [HBO.out, HR.out, Option.isSome_map], fun i h => ?_⟩, (HB3.out.setCell (p := ⟨w.heap.size, 0, none⟩) (Nat.le_refl _) _).setCell (p := ⟨w.heap.size, 1, none⟩) (Nat.le_refl _) _⟩
      rw [HR.out] at h
      obtain ⟨m, hm, rfl⟩ := Option.map_eq_some_iff.1 h
      refine ⟨rfl, ?_⟩
      rw [HQ.out, hm]
      rfl
    · have hn1 : ¬ (n : Int) = 2 := by omega
      have hn2 : ((n : Int) != 2) = true := by simp; omega
      have hR := HBAD.out h2
      subst hR
      clear HI2 HBAD h2
      obtain ⟨r, hb⟩ := HEND.out 0 0
      have r0 := r.at_ 0 _ rfl
      have r1 := r.at_ 1 _ rfl
      go_wp2_with fail
      refine bodyPost_ret (v := .tuple #[.agg #[.int .i64 0, .int .i64 0], .bool false]) (by simp [results, Tryz.results121, go_sem, r0, r1] <;> first | rfl | omega) rfl ?_
      exact ⟨⟨_, _, rfl, fun i h => (by cases h)⟩, hb⟩
end Go.Proofs.YtkeglkneobngnaaGreatDoor

namespace Go.Proofs.YtkeglkneobngnaaGreatDoor
open Go.RowKit Cd As

theorem wsL_drop {l : List ByteArray} {k : Nat} {x : ByteArray} (h : l[k]? = some x) : (wsL l).drop k = x.toList :: (wsL l).drop (k + 1) := by
  have hk := (List.getElem?_eq_some_iff.1 h).1
  have h2 : k < (wsL l).length := by unfold wsL; rw [List.length_map]; exact hk
  have h3 : (wsL l)[k]? = some x.toList := by unfold wsL; rw [List.getElem?_map, h]; rfl
  have e := List.getElem?_eq_getElem h2
  rw [h3] at e
  injection e with e
  rw [List.drop_eq_getElem_cons h2, ← e]
/-- So many kinds read. -/
def LocJ (ws : List B) (k : Nat) (ls : List Int) : Prop := ls.length = k ∧ localsI ws = (localsI (ws.drop k)).map (ls ++ ·)
theorem locJ_zero (ws : List B) : LocJ ws 0 [] := ⟨rfl, by
  show localsI ws = (localsI ws).map _
  cases localsI ws <;> rfl⟩
theorem locJ_bad {ws : List B} {k : Nat} {ls : List Int} {x : B} {r : List B} (h : LocJ ws k ls) (hd : ws.drop k = x :: r) (hx : kindI x = none ∨ kindI x = some 0) : localsI ws = none := by
  rw [h.2, hd]
  unfold localsI
  rcases hx with hx | hx <;> rw [hx] <;> rfl
theorem locJ_next {ws : List B} {k : Nat} {ls : List Int} {x : B} {q : Int} (h : LocJ ws k ls) (hd : ws.drop k = x :: ws.drop (k + 1)) (hx : kindI x = some q) (hq : q ≠ 0) : LocJ ws (k + 1) (ls ++ [q]) := by
  refine ⟨by rw [List.length_append, h.1]; rfl, ?_⟩
  rw [h.2, hd, localsI, hx]
  dsimp only
  rw [if_neg hq]
  cases localsI (ws.drop (k + 1)) with
  | none => rfl
  | some l => simp
theorem locJ_end {ws : List B} {k : Nat} {ls : List Int} (h : LocJ ws k ls) (hk : ws.length ≤ k) : localsI ws = some ls := by
  rw [h.2, List.drop_eq_nil_of_le hk]
  show some (ls ++ []) = _
  rw [List.append_nil]
theorem kindI_range {x : B} {q : Int} (h : kindI x = some q) : 0 ≤ q ∧ q ≤ 3 := by
  unfold kindI at h
  split at h
  · cases h; decide
  split at h
  · cases h; decide
  split at h
  · cases h; decide
  split at h
  · cases h; decide
  · cases h

theorem info_intA : (Tryz.prog.info? 3).map (fun i => (i.zero, i.size, i.bytes)) = some (some (.int .i64 0), 1, 8) := by kernel_rfl
set_option maxRecDepth 100000 in
set_option maxHeartbeats 3200000 in
theorem localsOf_any (v : Value) (l : List ByteArray) (w : World) (hv : StrsAt w v l) (hl : l.length ≤ 100000) (hE : RdEnv w) :
    Calls Tryz.prog 139 #[v] w fun e w' => (∃ vl n, e = .returned (.tuple #[vl, .bool (localsI (wsL l)).isSome]) ∧ w'.ownsRow w.heap.size 3 1 vl n (cellsL ((localsI (wsL l)).getD []))) ∧ Below w.heap.size w w' := by
  obtain ⟨ao, n, cap, rfl, hn, hnc, hcm, hx⟩ := hv
  unfold maxLen at hcm
  have HC : Hid (∀ W, Below w.heap.size w W → ∀ k x, l[k]? = some x → ∃ b o, ao = some ⟨b, o, none⟩ ∧ W.cell? ⟨b, o + k, none⟩ = some (.string x)) := Lib.hid fun W hb k x hk => by
    have h0 := (List.getElem?_eq_some_iff.1 hk).1
    obtain ⟨b, o, h1, h2, h3⟩ := hx (by omega)
    exact ⟨b, o, h1, (Keeps.of_new (S := fun _ => False) hb).cell_of (h3 k x hk) id⟩
  have HKO : Hid (∀ W x, Below w.heap.size w W → Calls Tryz.prog 138 #[.string x] W fun e w' => e = .returned (.tuple #[.int .i64 ((kindI x.toList).getD 0), .bool (kindI x.toList).isSome]) ∧ w' = W) := Lib.hid fun W x hb => kindOf_any x W (hE.below hb).tabs
  obtain ⟨R, hR⟩ : ∃ R, R = localsI (wsL l) := ⟨_, rfl⟩
  have HR := Lib.hid hR
  have HLJ : Hid (LocJ (wsL l) 0 []) := Lib.hid (locJ_zero _)
  have HWL : Hid ((wsL l).length = n) := Lib.hid (by unfold wsL; rw [List.length_map, hn])
  have HNL : Hid (l.length = n) := Lib.hid hn.symm
  have hn5 : n ≤ 100000 := by omega
  rw [← hR]
  clear hR hE hx hn hl
  go_enter Tryz.func139, Tryz.ntmps139
  go_wp2_with fail
  go_loopw [11, 4] (fun iv v wr => ∃ (k : Nat) (ls : List Int), k ≤ n ∧ iv = .int .i64 k ∧ LocJ (wsL l) k ls ∧ wr.ownsRow w.heap.size 3 1 v k (cellsL ls) ∧ Below w.heap.size w wr) (fun iv _ _ => n - (intOf iv).toNat)
  case atStart => exact ⟨0, [], Nat.zero_le _, rfl, HLJ.out, World.ownsRow_nil _ _ _ _, Below.refl _ _⟩
  case round =>
    obtain ⟨k, ls, hk, rfl, hj, ho, hb⟩ := hrel
    rename World => wr
    obtain ⟨a4, c4, hv4⟩ := slice_of_own ho
    subst hv4
    have HJ := Lib.hid hj
    have HO := Lib.hid ho
    have HB := Lib.hid hb
    clear hj ho hb HLJ
    by_cases hkn : k < n
    · have hkl : k < l.length := by rw [HNL.out]; exact hkn
      obtain ⟨x, hx⟩ : ∃ x, l[k]? = some x := ⟨l[k], List.getElem?_eq_getElem hkl⟩
      obtain ⟨b, o, rfl, hc⟩ := HC.out wr HB.out k x hx
      have HD : Hid ((wsL l).drop k = x.toList :: (wsL l).drop (k + 1)) := Lib.hid (wsL_drop hx)
      have HK := Lib.hid (HKO.out wr x HB.out)
      have hi1 : (k : Int) < (n : Int) := by omega
      have hi2 : (0 : Int) ≤ (k : Int) ∧ (k : Int) < (n : Int) := by omega
      clear hx hkl
      cases hki : kindI x.toList with
      | none =>
        rw [hki] at HK
        have HRN : Hid (R = none) := Lib.hid (by rw [HR.out]; exact locJ_bad HJ.out HD.out (Or.inl hki))
        clear hki
        go_wp2_with fail
        refine HK.out.mono ?_
        rintro e w2 ⟨rfl, hw2⟩
        have hw3 := hw2.symm
        subst hw3
        clear hw2
        go_wp2_with fail
        go_ret2
        rw [HRN.out]
        exact ⟨⟨_, 0, rfl, World.ownsRow_nil _ _ _ _⟩, HB.out⟩
      | some q =>
        rw [hki] at HK
        have hq := kindI_range hki
        by_cases h0 : q = 0
        · have HRN : Hid (R = none) := Lib.hid (by rw [HR.out]; exact locJ_bad HJ.out HD.out (Or.inr (by rw [hki, h0])))
          have hq0 : (q == 0) = true := by rw [h0]; rfl
          clear hki h0 hq
          go_wp2_with fail
          refine HK.out.mono ?_
          rintro e w2 ⟨rfl, hw2⟩
          have hw3 := hw2.symm
          subst hw3
          clear hw2
          simp only [Option.getD_some, Option.isSome_some]
          go_wp2_with fail
          go_ret2
          rw [HRN.out]
          exact ⟨⟨_, 0, rfl, World.ownsRow_nil _ _ _ _⟩, HB.out⟩
        · have HJN : Hid (LocJ (wsL l) (k + 1) (ls ++ [q])) := Lib.hid (locJ_next HJ.out HD.out hki h0)
          have hq0 : (q == 0) = false := by rw [beq_eq_false_iff_ne]; exact h0
          have HLS : Hid (ls.length = k) := Lib.hid HJ.out.1
          clear hki hq HJ
          go_wp2_with fail
          refine HK.out.mono ?_
          rintro e w2 ⟨rfl, hw2⟩
          have hw3 := hw2.symm
          subst hw3
          clear hw2
          simp only [Option.getD_some, Option.isSome_some]
          have hal := (Below.refl wr.heap.size wr).alloc (Nat.le_refl _) (.cells #[.int .i64 q] 3)
          have HOV := Lib.hid (own_below HO.out hal)
          have HAL := Lib.hid hal
          have hbs : w.heap.size ≤ (wr.alloc (.cells #[.int .i64 q] 3)).heap.size := Nat.le_trans HB.out.size hal.size
          have hcn : ∀ (j : Nat) u, [Value.int .i64 q][j]? = some u → (wr.alloc (.cells #[.int .i64 q] 3)).cell? ⟨wr.heap.size, j, none⟩ = some u := fun j u hj => by
            rw [cell_of_row _ _ _ _ _ _ (heap_alloc_new _ _), ← Array.getElem?_toList]
            exact hj
          have hon : ∀ u ∈ [Value.int .i64 q], u.oneCell' = true := fun u hu => by rw [List.mem_singleton.1 hu]; rfl
          clear hal
          go_wp2_with (at_builtin; refine wpList_append1 rfl (.tmp 26) (.tmp 28) 69 3 (.int .i64 0) 1 8 rfl Tryz.underlying69 info_intA rfl (by decide) (by decide) w.heap.size _ k _ [.int .i64 q] wr.heap.size 1 HOV.out (by omega) rfl hcn hon hbs (by simp [Act.eval]) (by simp [Act.eval]) ?_)
          intro ao9 cap9 w9 ho9 hk9
          have HO9 : Hid (w9.ownsRow w.heap.size 3 1 (.slice ao9 (k + 1) cap9) (k + 1) (cellsL (ls ++ [q]))) := Lib.hid (by rw [← cellsL_snoc]; exact ho9)
          have HB9 : Hid (Below w.heap.size w w9) := Lib.hid ((HB.out.trans (HAL.out.mono HB.out.size)).trans (hk9.below hbs fun e _ he => (World.ownsRow.lt HOV.out e he).1))
          clear ho9 hk9 hcn hon hbs HOV HAL HO
          go_wp2_with fail
          go_roundw
          case rel => exact ⟨k + 1, _, by omega, by go_num, HJN.out, HO9.out, HB9.out⟩
          case measure => simp [intOf]; omega
    · obtain rfl : k = n := by omega
      have HRS : Hid (R = some ls) := Lib.hid (by rw [HR.out]; exact locJ_end HJ.out (by rw [HWL.out]; exact Nat.le_refl _))
      go_wp2_with fail
      go_ret2
      rw [HRS.out]
      exact ⟨⟨_, _, rfl, HO.out⟩, HB.out⟩

/-- headOf's answer. -/
structure HeadSays (w w' : World) (e : Ending) (r : Option FnV) : Prop where
  ex : ∃ (p q : Int) (vl : Value) (n : Nat) (ls : List Int), e = .returned (.tuple #[.agg #[.int .i64 p, vl, .int .i64 q, .slice none 0 0], .bool r.isSome]) ∧ w'.ownsRow w.heap.size 3 1 vl n (cellsL ls) ∧ ∀ f, r = some f → p = f.params ∧ ls = f.locals ∧ q = f.kind ∧ f.code = []
  bel : Below w.heap.size w w'

set_option maxRecDepth 100000 in
set_option maxHeartbeats 3200000 in
theorem headOf_any (v : Value) (l : List ByteArray) (w : World) (hv : StrsAt w v l) (hl : Fit l) (hE : RdEnv w) :
    Calls Tryz.prog 120 #[v] w fun e w' => HeadSays w w' e (headI (wsL l)) := by
  have HV := Lib.hid hv
  obtain ⟨ao, n, cap, rfl, hn, hnc, hcm, hx⟩ := hv
  have hcm2 := hcm
  unfold maxLen at hcm2
  have HC : Hid (∀ W, Below w.heap.size w W → ∀ k x, l[k]? = some x → ∃ b o, ao = some ⟨b, o, none⟩ ∧ W.cell? ⟨b, o + k, none⟩ = some (.string x)) := Lib.hid fun W hb k x hk => by
    have h0 := (List.getElem?_eq_some_iff.1 hk).1
    obtain ⟨b, o, h1, h2, h3⟩ := hx (by omega)
    exact ⟨b, o, h1, (Keeps.of_new (S := fun _ => False) hb).cell_of (h3 k x hk) id⟩
  have HKO : Hid (∀ W x, Below w.heap.size w W → Calls Tryz.prog 138 #[.string x] W fun e w' => e = .returned (.tuple #[.int .i64 ((kindI x.toList).getD 0), .bool (kindI x.toList).isSome]) ∧ w' = W) := Lib.hid fun W x hb => kindOf_any x W (hE.below hb).tabs
  have HE := Lib.hid hE
  have HL := Lib.hid hl
  have HB1 : Hid (Below w.heap.size w (w.alloc (.cells #[.int .i64 0, .slice none 0 0, .int .i64 0, .slice none 0 0] 72))) := Lib.hid ((Below.refl _ w).alloc (Nat.le_refl _) _)
  have HZ : Hid (BlkO (w.alloc (.cells #[.int .i64 0, .slice none 0 0, .int .i64 0, .slice none 0 0] 72)) w.heap.size [.int .i64 0, .slice none 0 0, .int .i64 0, .slice none 0 0]) := Lib.hid (BlkO.new w #[.int .i64 0, .slice none 0 0, .int .i64 0, .slice none 0 0] 72)
  have hn3 : l.length = n := hn.symm
  have HN := Lib.hid hn3
  clear hE hl hx hn hn3
  have z0 := HZ.out.at_ 0 _ rfl
  have z1 := HZ.out.at_ 1 _ rfl
  have z2 := HZ.out.at_ 2 _ rfl
  have z3 := HZ.out.at_ 3 _ rfl
  have y0 := HZ.out.free 0
  have y1 := HZ.out.free 1
  have y2 := HZ.out.free 2
  have y3 := HZ.out.free 3
  obtain ⟨W1, hW1⟩ : ∃ W1, W1 = w.alloc (.cells #[.int .i64 0, .slice none 0 0, .int .i64 0, .slice none 0 0] 72) := ⟨_, rfl⟩
  have HW1 := Lib.hid hW1
  by_cases h3 : n < 3
  · have hR : headI (wsL l) = none := by
      have : (wsL l).length < 3 := by unfold wsL; rw [List.length_map, HN.out]; exact h3
      match wsL l, this with
      | [], _ => rfl
      | [_], _ => rfl
      | [_, _], _ => rfl
    rw [hR]
    have h3i : (n : Int) < 3 := by omega
    rw [← hW1] at HB1 HZ z0 z1 z2 z3 y0 y1 y2 y3
    have HF := Lib.hid ((((HZ.out.set 0 (.int .i64 0) (show 0 < 4 by decide)).set 1 (.slice none 0 0) (show 1 < 4 by decide)).set 2 (.int .i64 0) (show 2 < 4 by decide)).set 3 (.slice none 0 0) (show 3 < 4 by decide))
    have r0 := HF.out.at_ 0 _ rfl
    have r1 := HF.out.at_ 1 _ rfl
    have r2 := HF.out.at_ 2 _ rfl
    have r3 := HF.out.at_ 3 _ rfl
    have HBF := Lib.hid ((((HB1.out.setCell (p := ⟨w.heap.size, 0, none⟩) (Nat.le_refl _) (.int .i64 0)).setCell (p := ⟨w.heap.size, 1, none⟩) (Nat.le_refl _) (.slice none 0 0)).setCell (p := ⟨w.heap.size, 2, none⟩) (Nat.le_refl _) (.int .i64 0)).setCell (p := ⟨w.heap.size, 3, none⟩) (Nat.le_refl _) (.slice none 0 0))
    go_enter Tryz.func120, Tryz.ntmps120
    go_upto_region 1 with fail
    rw [← hW1]
    clear hW1 hR h3
    go_wp2_with fail
    refine bodyPost_ret (v := .tuple #[.agg #[.int .i64 0, .slice none 0 0, .int .i64 0, .slice none 0 0], .bool false]) (by simp [results, Tryz.results120, go_sem, r0, r1, r2, r3] <;> first | rfl | omega) rfl ?_
    exact ⟨⟨0, 0, _, 0, [], rfl, World.ownsRow_nil _ _ _ _, fun f h => (by cases h)⟩, HBF.out⟩
  · obtain ⟨x0, x1, x2, l, rfl⟩ : ∃ x0 x1 x2 l2, l = x0 :: x1 :: x2 :: l2 := by
      match l, HN.out with
      | [], h => simp at h; omega
      | [_], h => simp at h; omega
      | [_, _], h => simp at h; omega
      | a :: b :: c :: r, _ => exact ⟨a, b, c, r, rfl⟩
    have h3i : ¬ (n : Int) < 3 := by omega
    have hi1 : (0 : Int) ≤ 1 ∧ (1 : Int) < (n : Int) := by omega
    have hi2 : (0 : Int) ≤ 2 ∧ (2 : Int) < (n : Int) := by omega
    have hi3 : (0 : Int) ≤ 3 ∧ (3 : Int) ≤ (n : Int) := by omega
    rw [← hW1] at HB1 HZ z0 z1 z2 z3 y0 y1 y2 y3
    obtain ⟨b, o, rfl, c1⟩ := HC.out W1 HB1.out 1 x1 rfl
    have HK := Lib.hid (HKO.out W1 x1 HB1.out)
    have HR : Hid (headI (wsL (x0 :: x1 :: x2 :: l)) = match kindI x1.toList, numB x2.toList, localsI (wsL l) with
      | some k, some n, some l => some ⟨n, l, k, []⟩
      | _, _, _ => none) := Lib.hid rfl
    obtain ⟨R, hR⟩ : ∃ R, R = headI (wsL (x0 :: x1 :: x2 :: l)) := ⟨_, rfl⟩
    rw [← hR] at HR ⊢
    clear hR
    go_enter Tryz.func120, Tryz.ntmps120
    go_upto_region 1 with fail
    rw [← hW1]
    clear hW1
    go_wp2_with fail
    refine HK.out.mono ?_
    rintro e w2 ⟨rfl, hw2⟩
    have hw3 := hw2.symm
    subst hw3
    clear hw2
    obtain ⟨q, hq⟩ : ∃ q, q = (kindI x1.toList).getD 0 := ⟨_, rfl⟩
    obtain ⟨ok1, hk1⟩ : ∃ b, b = (kindI x1.toList).isSome := ⟨_, rfl⟩
    have HQ1 := Lib.hid hq
    have HO1 := Lib.hid hk1
    rw [← hq, ← hk1]
    clear hq hk1
    obtain ⟨b', o', hao, c2⟩ := HC.out W1 HB1.out 2 x2 rfl
    cases hao
    have HNM := Lib.hid (number_any x2 (HL.out.2 x2 (by simp)) W1 (HE.out.below HB1.out))
    go_wp2_with fail
    refine HNM.out.mono ?_
    rintro e w3 ⟨rfl, hb3⟩
    have HB3 := Lib.hid (HB1.out.trans (hb3.mono HB1.out.size))
    have HZ3 := Lib.hid (HZ.out.below hb3)
    obtain ⟨p, hp⟩ : ∃ p, p = (numB x2.toList).getD 0 := ⟨_, rfl⟩
    obtain ⟨ok2, hk2⟩ : ∃ b, b = (numB x2.toList).isSome := ⟨_, rfl⟩
    have HP2 := Lib.hid hp
    have HO2 := Lib.hid hk2
    rw [← hp, ← hk2]
    clear hp hk2 hb3 z0 z1 z2 z3 y0 y1 y2 y3 c1 c2
    have hN : l.length + 3 = n := by have := HN.out; simpa using this
    have HST : Hid (∀ ao2 n2 c2, n2 = l.length → n2 ≤ c2 → c2 ≤ maxLen → (0 < n2 → ao2 = some (⟨b, o + 3, none⟩ : Addr)) → StrsAt w3 (.slice ao2 n2 c2) l) := Lib.hid fun ao2 n2 c2 h1 h2 h3 h4 => by
      refine ⟨ao2, n2, c2, rfl, h1, h2, h3, fun h0 => ?_⟩
      obtain ⟨b', o', hao, cc⟩ := HC.out w3 HB3.out 2 x2 rfl
      cases hao
      refine ⟨b, o + 3, h4 h0, block_lt_of_cell cc, fun i y hy => ?_⟩
      obtain ⟨b', o', hao, cy⟩ := HC.out w3 HB3.out (i + 3) y (by simpa using hy)
      cases hao
      rw [Nat.add_assoc, Nat.add_comm 3 i]
      exact cy
    have HFT : Hid (l.length ≤ 100000) := Lib.hid (by have := HL.out.1; simp at this; omega)
    have HNN := Lib.hid hN
    clear hN
    by_cases hc3 : cap = 3
    · subst hc3
      have hst : StrsAt w3 (.slice (some ⟨b, o, none⟩) 0 0) l := HST.out _ _ _ (by have := HNN.out; omega) (Nat.le_refl _) (Nat.zero_le _) (fun h => absurd h (Nat.lt_irrefl _))
      have HLO := Lib.hid (localsOf_any _ l w3 hst HFT.out (HE.out.below HB3.out))
      clear hst
      go_wp2_with fail
      refine HLO.out.mono ?_
      rintro e w4 ⟨⟨vl, m, rfl, ho4⟩, hb4⟩
      have HB4 := Lib.hid (HB3.out.trans (hb4.mono HB3.out.size))
      have HZ4 := Lib.hid (HZ3.out.below hb4)
      obtain ⟨ok3, hk3⟩ : ∃ b, b = (localsI (wsL l)).isSome := ⟨_, rfl⟩
      have HO3 := Lib.hid hk3
      obtain ⟨ls, hls⟩ : ∃ ls, ls = (localsI (wsL l)).getD [] := ⟨_, rfl⟩
      have HLS := Lib.hid hls
      rw [← hls] at ho4
      rw [← hk3]
      obtain ⟨a4, c4, hv4⟩ := slice_of_own ho4
      subst hv4
      have HO4 := Lib.hid ho4
      have HSZ3 := Lib.hid HB3.out.size
      clear hk3 hls hb4 ho4
      have z0 := HZ4.out.at_ 0 _ rfl
      have z1 := HZ4.out.at_ 1 _ rfl
      have z2 := HZ4.out.at_ 2 _ rfl
      have z3 := HZ4.out.at_ 3 _ rfl
      have y0 := HZ4.out.free 0
      have y1 := HZ4.out.free 1
      have y2 := HZ4.out.free 2
      have y3 := HZ4.out.free 3
      have HF := Lib.hid ((((HZ4.out.set 0 (.int .i64 p) (show 0 < 4 by decide)).set 1 (.slice a4 m c4) (show 1 < 4 by decide)).set 2 (.int .i64 q) (show 2 < 4 by decide)).set 3 (.slice none 0 0) (show 3 < 4 by decide))
      have r0 := HF.out.at_ 0 _ rfl
      have r1 := HF.out.at_ 1 _ rfl
      have r2 := HF.out.at_ 2 _ rfl
      have r3 := HF.out.at_ 3 _ rfl
      have HKS : Hid (Keeps (fun k => k = w.heap.size) w4 ((((w4.setCell ⟨w.heap.size, 0, none⟩ (.int .i64 p)).setCell ⟨w.heap.size, 1, none⟩ (.slice a4 m c4)).setCell ⟨w.heap.size, 2, none⟩ (.int .i64 q)).setCell ⟨w.heap.size, 3, none⟩ (.slice none 0 0))) := Lib.hid
        (((own_set w4 w.heap.size 0 _).trans (own_set _ w.heap.size 1 _)).trans ((own_set _ w.heap.size 2 _).trans (own_set _ w.heap.size 3 _)))
      have HEND : Hid (∀ W', Keeps (fun k => k = w.heap.size) w4 W' → HeadSays w W' (.returned (.tuple #[.agg #[.int .i64 p, .slice a4 m c4, .int .i64 q, .slice none 0 0], .bool (ok1 && ok2 && ok3)])) R) := Lib.hid fun W' hk => by
        have hlt : w.heap.size < w3.heap.size := HZ3.out.lt
        refine ⟨⟨p, q, _, m, ls, ?_, own_mono (hk.row HO4.out fun b e => by have := (World.ownsRow.lt HO4.out b e).1; omega) (Nat.le_of_lt hlt), ?_⟩, HB4.out.trans (hk.below HB4.out.size fun k _ e => by omega)⟩
        · have e : R.isSome = (ok1 && ok2 && ok3) := by
            rw [HR.out, HO1.out, HO2.out, HO3.out]
            cases kindI x1.toList <;> cases numB x2.toList <;> cases localsI (wsL l) <;> rfl
          rw [e]
        · intro f hf
          rw [HR.out] at hf
          rw [HP2.out, HQ1.out, HLS.out]
          cases h1 : kindI x1.toList with
          | none => rw [h1] at hf; cases hf
          | some a1 =>
            cases h2 : numB x2.toList with
            | none => rw [h1, h2] at hf; cases hf
            | some a2 =>
              cases h3 : localsI (wsL l) with
              | none => rw [h1, h2, h3] at hf; cases hf
              | some a3 => rw [h1, h2, h3] at hf; cases hf; exact ⟨rfl, rfl, rfl, rfl⟩
      clear HQ1 HO1 HP2 HO2 HO3 HLS
      cases ok1 with
      | false =>
        go_wp2_with fail
        refine bodyPost_ret (v := .tuple #[.agg #[.int .i64 p, .slice a4 m c4, .int .i64 q, .slice none 0 0], .bool false]) (by simp [results, Tryz.results120, go_sem, r0, r1, r2, r3] <;> first | rfl | omega) rfl ?_
        exact HEND.out _ HKS.out
      | true =>
        cases ok2 with
        | false =>
          go_wp2_with fail
          refine bodyPost_ret (v := .tuple #[.agg #[.int .i64 p, .slice a4 m c4, .int .i64 q, .slice none 0 0], .bool false]) (by simp [results, Tryz.results120, go_sem, r0, r1, r2, r3] <;> first | rfl | omega) rfl ?_
          exact HEND.out _ HKS.out
        | true =>
          go_wp2_with fail
          refine bodyPost_ret (v := .tuple #[.agg #[.int .i64 p, .slice a4 m c4, .int .i64 q, .slice none 0 0], .bool ok3]) (by simp [results, Tryz.results120, go_sem, r0, r1, r2, r3] <;> first | rfl | omega) rfl ?_
          exact HEND.out _ HKS.out
    · have hst : StrsAt w3 (.slice (some ⟨b, o + 3, none⟩) (n - 3) (cap - 3)) l := HST.out _ _ _ (by have := HNN.out; omega) (by omega) (by omega) (fun _ => rfl)
      have HLO := Lib.hid (localsOf_any _ l w3 hst HFT.out (HE.out.below HB3.out))
      clear hst
      go_wp2_with fail
      refine HLO.out.mono ?_
      rintro e w4 ⟨⟨vl, m, rfl, ho4⟩, hb4⟩
      have HB4 := Lib.hid (HB3.out.trans (hb4.mono HB3.out.size))
      have HZ4 := Lib.hid (HZ3.out.below hb4)
      obtain ⟨ok3, hk3⟩ : ∃ b, b = (localsI (wsL l)).isSome := ⟨_, rfl⟩
      have HO3 := Lib.hid hk3
      obtain ⟨ls, hls⟩ : ∃ ls, ls = (localsI (wsL l)).getD [] := ⟨_, rfl⟩
      have HLS := Lib.hid hls
      rw [← hls] at ho4
      rw [← hk3]
      obtain ⟨a4, c4, hv4⟩ := slice_of_own ho4
      subst hv4
      have HO4 := Lib.hid ho4
      have HSZ3 := Lib.hid HB3.out.size
      clear hk3 hls hb4 ho4
      have z0 := HZ4.out.at_ 0 _ rfl
      have z1 := HZ4.out.at_ 1 _ rfl
      have z2 := HZ4.out.at_ 2 _ rfl
      have z3 := HZ4.out.at_ 3 _ rfl
      have y0 := HZ4.out.free 0
      have y1 := HZ4.out.free 1
      have y2 := HZ4.out.free 2
      have y3 := HZ4.out.free 3
      have HF := Lib.hid ((((HZ4.out.set 0 (.int .i64 p) (show 0 < 4 by decide)).set 1 (.slice a4 m c4) (show 1 < 4 by decide)).set 2 (.int .i64 q) (show 2 < 4 by decide)).set 3 (.slice none 0 0) (show 3 < 4 by decide))
      have r0 := HF.out.at_ 0 _ rfl
      have r1 := HF.out.at_ 1 _ rfl
      have r2 := HF.out.at_ 2 _ rfl
      have r3 := HF.out.at_ 3 _ rfl
      have HKS : Hid (Keeps (fun k => k = w.heap.size) w4 ((((w4.setCell ⟨w.heap.size, 0, none⟩ (.int .i64 p)).setCell ⟨w.heap.size, 1, none⟩ (.slice a4 m c4)).setCell ⟨w.heap.size, 2, none⟩ (.int .i64 q)).setCell ⟨w.heap.size, 3, none⟩ (.slice none 0 0))) := Lib.hid
        (((own_set w4 w.heap.size 0 _).trans (own_set _ w.heap.size 1 _)).trans ((own_set _ w.heap.size 2 _).trans (own_set _ w.heap.size 3 _)))
      have HEND : Hid (∀ W', Keeps (fun k => k = w.heap.size) w4 W' → HeadSays w W' (.returned (.tuple #[.agg #[.int .i64 p, .slice a4 m c4, .int .i64 q, .slice none 0 0], .bool (ok1 && ok2 && ok3)])) R) := Lib.hid fun W' hk => by
        have hlt : w.heap.size < w3.heap.size := HZ3.out.lt
        refine ⟨⟨p, q, _, m, ls, ?_, own_mono (hk.row HO4.out fun b e => by have := (World.ownsRow.lt HO4.out b e).1; omega) (Nat.le_of_lt hlt), ?_⟩, HB4.out.trans (hk.below HB4.out.size fun k _ e => by omega)⟩
        · have e : R.isSome = (ok1 && ok2 && ok3) := by
            rw [HR.out, HO1.out, HO2.out, HO3.out]
            cases kindI x1.toList <;> cases numB x2.toList <;> cases localsI (wsL l) <;> rfl
          rw [e]
        · intro f hf
          rw [HR.out] at hf
          rw [HP2.out, HQ1.out, HLS.out]
          cases h1 : kindI x1.toList with
          | none => rw [h1] at hf; cases hf
          | some a1 =>
            cases h2 : numB x2.toList with
            | none => rw [h1, h2] at hf; cases hf
            | some a2 =>
              cases h3 : localsI (wsL l) with
              | none => rw [h1, h2, h3] at hf; cases hf
              | some a3 => rw [h1, h2, h3] at hf; cases hf; exact ⟨rfl, rfl, rfl, rfl⟩
      clear HQ1 HO1 HP2 HO2 HO3 HLS
      cases ok1 with
      | false =>
        go_wp2_with fail
        refine bodyPost_ret (v := .tuple #[.agg #[.int .i64 p, .slice a4 m c4, .int .i64 q, .slice none 0 0], .bool false]) (by simp [results, Tryz.results120, go_sem, r0, r1, r2, r3] <;> first | rfl | omega) rfl ?_
        exact HEND.out _ HKS.out
      | true =>
        cases ok2 with
        | false =>
          go_wp2_with fail
          refine bodyPost_ret (v := .tuple #[.agg #[.int .i64 p, .slice a4 m c4, .int .i64 q, .slice none 0 0], .bool false]) (by simp [results, Tryz.results120, go_sem, r0, r1, r2, r3] <;> first | rfl | omega) rfl ?_
          exact HEND.out _ HKS.out
        | true =>
          go_wp2_with fail
          refine bodyPost_ret (v := .tuple #[.agg #[.int .i64 p, .slice a4 m c4, .int .i64 q, .slice none 0 0], .bool ok3]) (by simp [results, Tryz.results120, go_sem, r0, r1, r2, r3] <;> first | rfl | omega) rfl ?_
          exact HEND.out _ HKS.out
end Go.Proofs.YtkeglkneobngnaaGreatDoor

namespace Go.Proofs.YtkeglkneobngnaaGreatDoor
open Go.RowKit
variable {F : Fence} {n m : Nat} {P : Program}

/-- The record of a loop, and the block for its rounds' deferred calls. -/
structure LoopAt (W : World) (D : Nat) (rec : LoopState → Option Code → Loop) (st : LoopState) (pe : Option Code) : Prop where
  at_ : W.heap[D + 1]? = some (.loop (rec st pe))
  coll : W.heap[D]? = some (.deferred (some []))
namespace LoopAt
variable {W W' : World} {D : Nat} {rec : LoopState → Option Code → Loop} {st st' : LoopState} {pe pe' : Option Code}
theorem keeps {S : Nat → Prop} (h : LoopAt W D rec st pe) (hk : Keeps S W W') (h0 : ¬ S D) (h1 : ¬ S (D + 1)) : LoopAt W' D rec st pe :=
  ⟨(hk.block _ (Array.getElem?_eq_some_iff.1 h.at_).1 h1).trans h.at_, (hk.block _ (Array.getElem?_eq_some_iff.1 h.coll).1 h0).trans h.coll⟩
theorem lt (h : LoopAt W D rec st pe) : D + 1 < W.heap.size := (Array.getElem?_eq_some_iff.1 h.at_).1
theorem turn (h : LoopAt W D rec st pe) (st' : LoopState) (pe' : Option Code) : LoopAt (W.putObj (D + 1) (.loop (rec st' pe'))) D rec st' pe' :=
  ⟨World.putObj_heap_same h.lt, (World.putObj_heap_other (by omega)).trans h.coll⟩
end LoopAt
theorem keeps_putObj (W : World) (l : Nat) (o : Obj) : Keeps (fun k => k = l) W (W.putObj l o) :=
  Keeps.of_grownBy (grownBy_putObj' W l o) fun k _ e => by cases e; rfl

/-- How a round may be left. -/
def roundPostT (D : Nat) (rec : LoopState → Option Code → Loop) (R : Ending → World → Prop) : Exit → Act → World → Prop
  | .normal, _, W' => LoopAt W' D rec .busy none ∧ R (.returned (.bool true)) (W'.putObj (D + 1) (.loop (rec .ready none)))
  | .ret, _, W' => LoopAt W' D rec .busy none ∧ R (.returned (.bool false)) (W'.putObj (D + 1) (.loop (rec .done (some .ret))))
  | .exit id, _, W' => LoopAt W' D rec .busy none ∧ R (.returned (.bool false)) (W'.putObj (D + 1) (.loop (rec .done (some (.exit id)))))
  | .goto t, _, W' => LoopAt W' D rec .busy none ∧ R (.returned (.bool false)) (W'.putObj (D + 1) (.loop (rec .done (some (.goto t)))))
  | .panic _, _, _ => False
  | .outgrown, _, _ => False

/-- What a loop's record holds. -/
structure RecOf (rec : LoopState → Option Code → Loop) (D : Nat) (fn : FuncId) (tmps : Array Value) (ps : Array Tmp) (assign body : Code) : Prop where
  eq : rec = fun st pe => { state := st, pending := pe, fn, tmps, params := ps, assign, body, defers := D }

/-- ONE ROUND. -/
theorem yield_round {D : Nat} {rec : LoopState → Option Code → Loop} {fn : FuncId} {tmps : Array Value} {ps : Array Tmp} {assign body : Code} (hrec : RecOf rec D fn tmps ps assign body)
    {W : World} (hl : LoopAt W D rec .ready none) (hFn : F.fn fn) {args : Array Value} (hs : args.size = ps.size) {R : Ending → World → Prop}
    (h : assign.wpIn (F.inRound (D + 1)) m P (Exit.then (fun a1 W1 => LoopAt W1 D rec .ready none ∧ body.wpIn (F.inRound (D + 1)) m P (roundPostT D rec R) a1 (W1.putObj (D + 1) (.loop (rec .busy none)))) (fun _ _ _ => False))
      { tmps := (ps.zip args).foldl (fun t (p, v) => t.setIfInBounds p v) tmps, defers := [] } W) :
    YieldAt F m P (D + 1) args W R := by
  obtain ⟨hrec⟩ := hrec
  have hy := run_yield (P := P) (args := args) hl.at_ (by rw [hrec]; exact hs)
  rw [hrec] at hy
  refine ⟨fn, _, assign, body, hy, roundIn_of_wpIn hFn (wpIn_mono h ?_)⟩
  rintro e a1 W1 hp
  cases e with
  | normal =>
    obtain ⟨hl1, hb⟩ := hp
    refine ⟨_, run_beginRound hl1.at_ (by rw [hrec]), ?_⟩
    have e1 : ({ rec .ready none with state := .busy } : Loop) = rec .busy none := by rw [hrec]
    rw [e1]
    refine wpIn_mono hb ?_
    have fin : ∀ (jump : Option Code) (W3 : World), LoopAt W3 D rec .busy none →
        (Instr.endRound (D + 1) jump).run P W3 = .ok (.bool jump.isNone) (W3.putObj (D + 1) (.loop (rec (if jump.isNone then .ready else .done) jump))) := fun jump W3 hl3 => by
      have := run_endRound (P := P) jump hl3.at_
      rw [hrec] at this ⊢
      exact this
    rintro e2 a3 W3 hp
    cases e2 with
    | normal => exact ⟨_, _, fin none W3 hp.1, hp.2⟩
    | ret => exact ⟨_, _, fin (some .ret) W3 hp.1, hp.2⟩
    | exit id => exact ⟨_, _, fin (some (.exit id)) W3 hp.1, hp.2⟩
    | goto t => exact ⟨_, _, fin (some (.goto t)) W3 hp.1, hp.2⟩
    | panic ch => exact hp.elim
    | outgrown => exact hp.elim
  | ret => exact hp.elim
  | exit id => exact hp.elim
  | goto t => exact hp.elim
  | panic ch => exact hp.elim
  | outgrown => exact hp.elim

/-- THE STATEMENT, at an outermost loop. -/
theorem wpIn_range_T {g : Operand} {ps : Array Tmp} {assign body : Code} {Q : Exit → Act → World → Prop} {a : Act} {w : World}
    (hro : F.round = none) (h1 : 1 ≤ n) {gf : Nat} {lb : Array Value} (hg : a.eval g = .func (.func gf) #[] lb) (hFg : F.fn gf) (eg : ∀ args w, (callFunc gf args).run P w = .ok (.enter gf args) w)
    (hcall : ∀ (fn : FuncId) (rec : LoopState → Option Code → Loop) (W1 : World), F.fn fn → RecOf rec w.heap.size fn a.tmps ps assign body → LoopAt W1 w.heap.size rec .ready none → Keeps (fun _ => False) w W1 → W1.heap.size = w.heap.size + 2 →
      CallsIn F (n - 1) P gf (#[.func (.yield (w.heap.size + 1)) #[] #[]] ++ lb) W1 fun e W2 => (∃ v, e = .returned v) ∧
        ((LoopAt W2 w.heap.size rec .ready none ∧ Q .normal { a with defers := { target := .collected w.heap.size, args := #[] } :: a.defers } (W2.putObj (w.heap.size + 1) (.loop (rec .exhausted none)))) ∨
         ∃ c, LoopAt W2 w.heap.size rec .done (some c) ∧ c.wpIn F n P Q { a with defers := { target := .collected w.heap.size, args := #[] } :: a.defers } (W2.putObj (w.heap.size + 1) (.loop (rec .exhausted (some c)))))) :
    (Code.rangeFunc g ps assign body).wpIn F n P Q a w := by
  refine wpIn_rangeFunc ?_
  intro fn hfn
  rw [hro]
  obtain ⟨rec, hrec⟩ : ∃ rec : LoopState → Option Code → Loop, rec = fun st pe => { state := st, pending := pe, fn, tmps := a.tmps, params := ps, assign, body, defers := w.heap.size } := ⟨_, rfl⟩
  obtain ⟨W1, hW1⟩ : ∃ W1, (w.alloc (.deferred (some []))).alloc (.loop (rec .ready none)) = W1 := ⟨_, rfl⟩
  have hL1 : LoopAt W1 w.heap.size rec .ready none := by
    constructor
    · rw [← hW1]; have := World.alloc_heap_new (w.alloc (.deferred (some []))) (.loop (rec .ready none)); rwa [World.size_alloc] at this
    · rw [← hW1]; exact (Below.heap_alloc _ _ _ (by simp)).trans (World.alloc_heap_new w _)
  refine ⟨w.heap.size + 1, [{ target := .collected w.heap.size, args := #[] }], W1, { target := .fn (.func gf) lb, args := #[.func (.yield (w.heap.size + 1)) #[] #[]] }, W1, gf,
    #[.func (.yield (w.heap.size + 1)) #[] #[]] ++ lb, W1, ?_, ?_, ?_, ?_, fun _ => h1, ?_⟩
  · rw [← hW1, hrec]; exact run_enterLoop_outer _ _ _ _ _
  · simp only [resolve, hg]
    simp [go_sem]
  · intro f' hf'; simp [Target.leads] at hf'; subst hf'; exact hFg
  · simp [invoke, go_sem, eg]
  · refine (hcall fn rec W1 hfn ⟨hrec⟩ hL1 (by rw [← hW1]; exact ((Keeps.refl _ w).alloc _).alloc _) (by rw [← hW1]; simp)).mono ?_
    rintro e W2 ⟨⟨v, rfl⟩, (⟨hl, hq⟩ | ⟨c, hl, hq⟩)⟩
    · refine ⟨none, _, ?_, hq⟩
      have := run_endLoop (P := P) hl.at_ (by rw [hrec]; simp)
      rw [hrec] at this ⊢
      exact this
    · refine ⟨some c, _, ?_, hq⟩
      have := run_endLoop (P := P) hl.at_ (by rw [hrec]; simp)
      rw [hrec] at this ⊢
      exact this
end Go.Proofs.YtkeglkneobngnaaGreatDoor

namespace Go.Proofs.YtkeglkneobngnaaGreatDoor
open Go.RowKit Cd As

/-- A function with the slices of its locals and its instructions. -/
abbrev Gn := FnV × Value × Value
def cellG (g : Gn) : List Value := [.int .i64 g.1.params, g.2.1, .int .i64 g.1.kind, g.2.2]
def cellsG (gs : List Gn) : List Value := gs.flatMap cellG
theorem cellsG_snoc (gs : List Gn) (g : Gn) : cellsG gs ++ cellG g = cellsG (gs ++ [g]) := by simp [cellsG]
theorem cellsG_length (gs : List Gn) : (cellsG gs).length = gs.length * 4 := by
  induction gs with
  | nil => rfl
  | cons p ps ih => simp only [cellsG, cellG, List.flatMap_cons, List.length_append, List.length_cons, List.length_nil] at ih ⊢; omega
theorem cellsG_get : ∀ (gs : List Gn) (i j : Nat) (g : Gn) (u : Value), gs[i]? = some g → (cellG g)[j]? = some u → (cellsG gs)[i * 4 + j]? = some u
  | [], _, _, _, _, h, _ => by cases h
  | y :: l, 0, j, g, u, h, hu => by
    cases h
    have hj := (List.getElem?_eq_some_iff.1 hu).1
    show (cellG y ++ cellsG l)[0 * 4 + j]? = _
    rw [Nat.zero_mul, Nat.zero_add, List.getElem?_append_left hj, hu]
  | y :: l, i + 1, j, g, u, h, hu => by
    have ih := cellsG_get l i j g u (by simpa using h) hu
    show (cellG y ++ cellsG l)[(i + 1) * 4 + j]? = _
    have e : (cellG y).length = 4 := rfl
    rw [List.getElem?_append_right (by rw [e]; omega), e, show (i + 1) * 4 + j - 4 = i * 4 + j by omega, ih]
theorem cellsG_set : ∀ (gs : List Gn) (g : Gn) (vc : Value), (cellsG (gs ++ [g])).set (gs.length * 4 + 3) vc = cellsG (gs ++ [(⟨g.1.params, g.1.locals, g.1.kind, g.1.code⟩, g.2.1, vc)])
  | gs, g, vc => by
    rw [← cellsG_snoc, ← cellsG_snoc, List.set_append_right _ _ (by rw [cellsG_length]; omega), cellsG_length, show gs.length * 4 + 3 - gs.length * 4 = 3 by omega]
    rfl
theorem cellsG_code (gs : List Gn) (p k : Int) (ls : List Int) (c1 c2 : List In) (vl vc : Value) : cellsG (gs ++ [(⟨p, ls, k, c1⟩, vl, vc)]) = cellsG (gs ++ [(⟨p, ls, k, c2⟩, vl, vc)]) := by
  rw [← cellsG_snoc, ← cellsG_snoc]
  rfl
/-- A cell of a row of the call's own is written. -/
theorem own_setCell {w : World} {B e size n g c i : Nat} {xs : List Value} (h : w.ownsRow B e size (.slice (some ⟨g, 0, none⟩) n c) n xs) (_hi : i < xs.length) (u : Value) : (w.setCell ⟨g, i, none⟩ u).ownsRow B e size (.slice (some ⟨g, 0, none⟩) n c) n (xs.set i u) := by
  obtain ⟨h1, h2⟩ := h
  refine ⟨by rw [List.length_set]; exact h1, ?_⟩
  rcases h2 with ⟨h3, _⟩ | ⟨g', cap, cur, h3, h4, h5, h6, h7, h8, h9⟩
  · cases h3
  · rw [Value.slice.injEq] at h3
    obtain ⟨e1, _, rfl⟩ := h3
    cases e1
    have hlt : g < w.heap.size := (Array.getElem?_eq_some_iff.1 h5).1
    refine Or.inr ⟨g, c, cur.setIfInBounds i u, rfl, h4, heap_setCell_same w g i cur e u h5, h6, h7, by simpa using h8, ?_⟩
    rw [Array.toList_setIfInBounds, List.take_set, h9]
/-- Who a block is. -/
inductive AR where
  | no
  | fns
  | loc (i : Nat)
  | cod (i : Nat)
theorem own_len {w : World} {B e n : Nat} {v : Value} {l : List Int} (h : w.ownsRow B e 1 v n (cellsL l)) : n = l.length := by have := h.1; simp [cellsL] at this; omega

/-- The reader, with the functions that it has. -/
structure RdO (B : Nat) (W : World) (rb : Nat) (vf : Value) (ρ : Nat → AR) (gs : List Gn) (st : St) : Prop where
  blk : BlkO W rb [.int .i64 st.p.globals, vf, .bool st.begun]
  fns : st.p.fns = gs.map (·.1)
  row : W.ownsRow (rb + 1) 72 4 vf gs.length (cellsG gs)
  roF : ∀ b, vf.ownBlock = some b → ρ b = .fns
  loc : ∀ (i : Nat) (g : Gn), gs[i]? = some g → ∃ n, W.ownsRow (rb + 1) 3 1 g.2.1 n (cellsL g.1.locals)
  cod : ∀ (i : Nat) (g : Gn), gs[i]? = some g → ∃ n, W.ownsRow (rb + 1) 75 2 g.2.2 n (cellsN g.1.code)
  roL : ∀ (i : Nat) (g : Gn), gs[i]? = some g → ∀ b, g.2.1.ownBlock = some b → ρ b = .loc i
  roC : ∀ (i : Nat) (g : Gn), gs[i]? = some g → ∀ b, g.2.2.ownBlock = some b → ρ b = .cod i
  dom : ∀ b, W.heap.size ≤ b → ρ b = .no
  rbN : ρ rb = .no
  low : B ≤ rb
/-- What of the reader a call may turn. -/
def RdS (rb : Nat) (ρ : Nat → AR) (b : Nat) : Prop := b = rb ∨ ρ b ≠ .no
namespace RdO
variable {B rb : Nat} {W W' : World} {vf : Value} {ρ : Nat → AR} {gs : List Gn} {st : St}
theorem keeps {S : Nat → Prop} (h : RdO B W rb vf ρ gs st) (hk : Keeps S W W') (h0 : ¬ S rb) (hS : ∀ b, S b → ρ b = .no) : RdO B W' rb vf ρ gs st :=
  ⟨h.blk.keeps hk h0, h.fns, hk.row h.row (fun b e s => (by have := h.roF b e; rw [hS b s] at this; cases this)), h.roF,
    fun i g hg => (h.loc i g hg).imp fun n ho => hk.row ho fun b e s => (by have := h.roL i g hg b e; rw [hS b s] at this; cases this),
    fun i g hg => (h.cod i g hg).imp fun n ho => hk.row ho fun b e s => (by have := h.roC i g hg b e; rw [hS b s] at this; cases this),
    h.roL, h.roC, fun b hb => h.dom b (Nat.le_trans hk.size hb), h.rbN, h.low⟩
theorem fresh (h : RdO B W rb vf ρ gs st) (hk : Keeps (fun _ => False) W W') : RdO B W' rb vf ρ gs st := h.keeps hk id fun _ e => e.elim
theorem below (h : RdO B W rb vf ρ gs st) (hb : Below W.heap.size W W') : RdO B W' rb vf ρ gs st := h.fresh (Keeps.of_new hb)
/-- Globals and the mark are stored. -/
theorem setG (h : RdO B W rb vf ρ gs st) (n : Int) : RdO B ((W.setCell ⟨rb, 0, none⟩ (.int .i64 n)).setCell ⟨rb, 2, none⟩ (.bool true)) rb vf ρ gs ⟨true, ⟨n, st.p.fns⟩⟩ := by
  have hk : Keeps (fun b => b = rb) W ((W.setCell ⟨rb, 0, none⟩ (.int .i64 n)).setCell ⟨rb, 2, none⟩ (.bool true)) := (own_set W rb 0 _).trans (own_set _ rb 2 _)
  have hne : ∀ b, ρ b ≠ .no → ¬ b = rb := fun b hb e => hb (by rw [e]; exact h.rbN)
  exact ⟨(h.blk.set 0 (.int .i64 n) (show 0 < 3 by decide)).set 2 (.bool true) (show 2 < 3 by decide), h.fns, hk.row h.row (fun b e => hne b (by rw [h.roF b e]; intro e; cases e)), h.roF,
    fun i g hg => (h.loc i g hg).imp fun _ ho => hk.row ho fun b e => hne b (by rw [h.roL i g hg b e]; intro e; cases e),
    fun i g hg => (h.cod i g hg).imp fun _ ho => hk.row ho fun b e => hne b (by rw [h.roC i g hg b e]; intro e; cases e),
    h.roL, h.roC, fun b hb => h.dom b (Nat.le_trans hk.size hb), h.rbN, h.low⟩
theorem lt (h : RdO B W rb vf ρ gs st) : rb < W.heap.size := h.blk.lt
/-- The row of functions has grown by one whose locals lie in a block that is nobody's. -/
theorem growF (h : RdO B W rb vf ρ gs st) {vf' vl : Value} {p k : Int} {ls : List Int} {n : Nat} (ho : W'.ownsRow (rb + 1) 72 4 vf' (gs.length + 1) (cellsG (gs ++ [(⟨p, ls, k, []⟩, vl, .slice none 0 0)])))
    (hk : Keeps (fun b => vf.ownBlock = some b) W W') (hn : ∀ b, vf'.ownBlock = some b → vf.ownBlock = some b ∨ W.heap.size ≤ b)
    (hl : W.ownsRow (rb + 1) 3 1 vl n (cellsL ls)) (hlr : ∀ b, vl.ownBlock = some b → ρ b = .no ∧ b ≠ rb) :
    ∃ ρ', RdO B (W'.setCell ⟨rb, 1, none⟩ vf') rb vf' ρ' (gs ++ [(⟨p, ls, k, []⟩, vl, .slice none 0 0)]) ⟨st.begun, ⟨st.p.globals, st.p.fns ++ [⟨p, ls, k, []⟩]⟩⟩ ∧ ∀ b, b < W.heap.size → ρ b = .no → vl.ownBlock ≠ some b → ρ' b = .no := by
  classical
  have hvfr : ∀ b, vf.ownBlock = some b → b ≠ rb := fun b e e2 => by have := h.roF b e; rw [e2, h.rbN] at this; cases this
  have hrb : ¬ vf.ownBlock = some rb := fun e => hvfr rb e rfl
  have hs := own_set W' rb 1 vf'
  have hvf'r : ∀ b, vf'.ownBlock = some b → ρ b = .fns ∨ W.heap.size ≤ b := fun b e => (hn b e).imp (h.roF b) id
  have hvf'rb : ∀ b, vf'.ownBlock = some b → b ≠ rb := fun b e e2 => by
    rcases hn b e with h1 | h1
    · exact hvfr b h1 e2
    · have := h.lt; omega
  have hlt : ∀ b, vl.ownBlock = some b → b < W.heap.size := fun b e => (World.ownsRow.lt hl b e).2
  refine ⟨fun b => if vf'.ownBlock = some b then .fns else if vl.ownBlock = some b then .loc gs.length else ρ b, ⟨?_, ?_, ?_, fun b e => if_pos e, ?_, ?_, ?_, ?_, ?_, ?_, h.low⟩, fun b hb h1 h2 => ?_⟩
  · exact (h.blk.keeps hk hrb).set 1 vf' (show 1 < 3 by decide)
  · rw [List.map_append, h.fns]; rfl
  · rw [List.length_append]
    exact hs.row ho fun b e => hvf'rb b e
  · intro i g hg
    by_cases hi : i < gs.length
    · rw [List.getElem?_append_left hi] at hg
      exact (h.loc i g hg).imp fun _ ho => hs.row (hk.row ho fun b e e2 => by have := h.roL i g hg b e; rw [h.roF b e2] at this; cases this) fun b e e2 => by have := h.roL i g hg b e; rw [e2, h.rbN] at this; cases this
    · rw [List.getElem?_append_right (by omega)] at hg
      obtain ⟨hi2, hg2⟩ := List.getElem?_eq_some_iff.1 hg
      have : g = (⟨p, ls, k, []⟩, vl, .slice none 0 0) := by rw [← hg2]; simp
      subst this
      exact ⟨n, hs.row (hk.row hl fun b e e2 => by have := (hlr b e).1; rw [h.roF b e2] at this; cases this) fun b e => (hlr b e).2⟩
  · intro i g hg
    by_cases hi : i < gs.length
    · rw [List.getElem?_append_left hi] at hg
      exact (h.cod i g hg).imp fun _ ho => hs.row (hk.row ho fun b e e2 => by have := h.roC i g hg b e; rw [h.roF b e2] at this; cases this) fun b e e2 => by have := h.roC i g hg b e; rw [e2, h.rbN] at this; cases this
    · rw [List.getElem?_append_right (by omega)] at hg
      obtain ⟨hi2, hg2⟩ := List.getElem?_eq_some_iff.1 hg
      have : g = (⟨p, ls, k, []⟩, vl, .slice none 0 0) := by rw [← hg2]; simp
      subst this
      exact ⟨0, World.ownsRow_nil _ _ _ _⟩
  · intro i g hg b e
    by_cases hi : i < gs.length
    · rw [List.getElem?_append_left hi] at hg
      have hr := h.roL i g hg b e
      have hlt2 : b < W.heap.size := by
        rcases Nat.lt_or_ge b W.heap.size with h1 | h1
        · exact h1
        · rw [h.dom b h1] at hr; cases hr
      try dsimp only
      rw [if_neg (fun e2 => by
        rcases hvf'r b e2 with h1 | h1
        · rw [h1] at hr; cases hr
        · omega), if_neg (fun e2 => by rw [(hlr b e2).1] at hr; cases hr)]
      exact hr
    · rw [List.getElem?_append_right (by omega)] at hg
      obtain ⟨hi2, hg2⟩ := List.getElem?_eq_some_iff.1 hg
      have hi3 : i = gs.length := by simp at hi2; omega
      have : g = (⟨p, ls, k, []⟩, vl, .slice none 0 0) := by rw [← hg2]; simp
      subst this
      try dsimp only
      rw [if_neg (fun e2 => by
        rcases hvf'r b e2 with h1 | h1
        · rw [(hlr b e).1] at h1; cases h1
        · have := hlt b e; omega), if_pos e, hi3]
  · intro i g hg b e
    by_cases hi : i < gs.length
    · rw [List.getElem?_append_left hi] at hg
      have hr := h.roC i g hg b e
      have hlt2 : b < W.heap.size := by
        rcases Nat.lt_or_ge b W.heap.size with h1 | h1
        · exact h1
        · rw [h.dom b h1] at hr; cases hr
      try dsimp only
      rw [if_neg (fun e2 => by
        rcases hvf'r b e2 with h1 | h1
        · rw [h1] at hr; cases hr
        · omega), if_neg (fun e2 => by rw [(hlr b e2).1] at hr; cases hr)]
      exact hr
    · rw [List.getElem?_append_right (by omega)] at hg
      obtain ⟨hi2, hg2⟩ := List.getElem?_eq_some_iff.1 hg
      have : g = (⟨p, ls, k, []⟩, vl, .slice none 0 0) := by rw [← hg2]; simp
      subst this
      cases e
  · intro b hb
    have hb' : W'.heap.size ≤ b := by simpa [World.setCell] using hb
    have hb2 : W.heap.size ≤ b := Nat.le_trans hk.size hb'
    try dsimp only
    rw [if_neg (fun e => by have := (World.ownsRow.lt ho b e).2; omega), if_neg (fun e => by have := hlt b e; omega)]
    exact h.dom b hb2
  · try dsimp only
    rw [if_neg (fun e => hvf'rb rb e rfl), if_neg (fun e => (hlr rb e).2 rfl)]
    exact h.rbN
  · try dsimp only
    rw [if_neg (fun e => by
      rcases hvf'r b e with h3 | h3
      · rw [h1] at h3; cases h3
      · omega), if_neg h2]
    exact h1
/-- The last function's row of instructions has grown. -/
theorem growC (h : RdO B W rb vf ρ gs st) {gs0 : List Gn} {g : Gn} (hgs : gs = gs0 ++ [g]) {fb n c : Nat} {vc' : Value} {cs : List In} (hvf : vf = .slice (some ⟨fb, 0, none⟩) n c) {m : Nat}
    (ho : W'.ownsRow (rb + 1) 75 2 vc' m (cellsN cs)) (hk : Keeps (fun b => g.2.2.ownBlock = some b) W W') (hn : ∀ b, vc'.ownBlock = some b → g.2.2.ownBlock = some b ∨ W.heap.size ≤ b) :
    ∃ ρ', RdO B (W'.setCell ⟨fb, gs0.length * 4 + 3, none⟩ vc') rb vf ρ' (gs0 ++ [(⟨g.1.params, g.1.locals, g.1.kind, cs⟩, g.2.1, vc')]) ⟨st.begun, ⟨st.p.globals, gs0.map (·.1) ++ [⟨g.1.params, g.1.locals, g.1.kind, cs⟩]⟩⟩ ∧ ∀ b, b < W.heap.size → ρ b = .no → ρ' b = .no := by
  classical
  have hg : gs[gs0.length]? = some g := by rw [hgs, List.getElem?_append_right (Nat.le_refl _), Nat.sub_self]; rfl
  have hfb : ρ fb = .fns := h.roF fb (by rw [hvf]; rfl)
  have hC : ∀ b, g.2.2.ownBlock = some b → ρ b = .cod gs0.length := h.roC _ g hg
  have hs := own_set W' fb (gs0.length * 4 + 3) vc'
  have hvr : ∀ b, vc'.ownBlock = some b → ρ b = .cod gs0.length ∨ W.heap.size ≤ b := fun b e => (hn b e).imp (hC b) id
  have hfbl : fb < W.heap.size := by
    rcases Nat.lt_or_ge fb W.heap.size with h1 | h1
    · exact h1
    · rw [h.dom fb h1] at hfb; cases hfb
  have hvfb : ∀ b, vc'.ownBlock = some b → b ≠ fb := fun b e e2 => by
    rcases hvr b e with h1 | h1
    · rw [e2, hfb] at h1; cases h1
    · omega
  have hrf : rb ≠ fb := fun e => by have := h.rbN; rw [e, hfb] at this; cases this
  have hCr : ¬ g.2.2.ownBlock = some rb := fun e => by have := hC rb e; rw [h.rbN] at this; cases this
  have hCf : ∀ b, vf.ownBlock = some b → ¬ g.2.2.ownBlock = some b := fun b e e2 => by have := hC b e2; rw [h.roF b e] at this; cases this
  -- a row of another function, or this one's locals
  have hoth : ∀ {e : TypeId} {size k : Nat} {v : Value} {xs : List Value}, W.ownsRow (rb + 1) e size v k xs → (∀ b, v.ownBlock = some b → ρ b ≠ .fns ∧ ρ b ≠ .cod gs0.length) → (W'.setCell ⟨fb, gs0.length * 4 + 3, none⟩ vc').ownsRow (rb + 1) e size v k xs := fun ho hb =>
    hs.row (hk.row ho fun b e e2 => (hb b e).2 (hC b e2)) fun b e e2 => (hb b e).1 (by rw [e2]; exact hfb)
  have hlen : (gs0 ++ [(⟨g.1.params, g.1.locals, g.1.kind, cs⟩, g.2.1, vc')] : List Gn).length = gs.length := by rw [hgs]; simp
  have hpick : ∀ (i : Nat) (g2 : Gn), (gs0 ++ [(⟨g.1.params, g.1.locals, g.1.kind, cs⟩, g.2.1, vc')] : List Gn)[i]? = some g2 → (i < gs0.length ∧ gs[i]? = some g2) ∨ (i = gs0.length ∧ g2 = (⟨g.1.params, g.1.locals, g.1.kind, cs⟩, g.2.1, vc')) := fun i g2 h2 => by
    by_cases hi : i < gs0.length
    · rw [List.getElem?_append_left hi] at h2
      exact Or.inl ⟨hi, by rw [hgs, List.getElem?_append_left hi]; exact h2⟩
    · rw [List.getElem?_append_right (by omega)] at h2
      obtain ⟨hi2, hg2⟩ := List.getElem?_eq_some_iff.1 h2
      have hi3 : i = gs0.length := by simp at hi2; omega
      exact Or.inr ⟨hi3, by rw [← hg2]; simp⟩
  have hrole : ∀ b, ρ b ≠ .cod gs0.length → b < W.heap.size → (if vc'.ownBlock = some b then AR.cod gs0.length else ρ b) = ρ b := fun b h1 h2 => if_neg fun e => by
    rcases hvr b e with h3 | h3
    · exact h1 h3
    · omega
  have hltR : ∀ b, ρ b ≠ .no → b < W.heap.size := fun b hb => by
    rcases Nat.lt_or_ge b W.heap.size with h1 | h1
    · exact h1
    · exact absurd (h.dom b h1) hb
  refine ⟨fun b => if vc'.ownBlock = some b then .cod gs0.length else ρ b, ⟨?_, ?_, ?_, fun b e => ?_, ?_, ?_, ?_, ?_, fun b hb => ?_, ?_, h.low⟩, fun b hb h1 => ?_⟩
  · exact (h.blk.keeps hk hCr).keeps hs hrf
  · rw [List.map_append]; rfl
  · rw [hlen]
    have h1 := hk.row h.row hCf
    rw [hvf] at h1 ⊢
    have hnl : n = gs.length := by
      rcases h.row.2 with ⟨h2, _⟩ | ⟨_, _, _, h2, _⟩
      · rw [hvf] at h2; cases h2
      · rw [hvf] at h2; cases h2; rfl
    have h2 := own_setCell (w := W') (i := gs0.length * 4 + 3) (by rw [← hnl] at h1; exact h1) (by rw [cellsG_length, hgs]; simp; omega) vc'
    rw [hnl] at h2 ⊢
    have e : (cellsG gs).set (gs0.length * 4 + 3) vc' = cellsG (gs0 ++ [(⟨g.1.params, g.1.locals, g.1.kind, cs⟩, g.2.1, vc')]) := by
      rw [hgs, cellsG_set]
      exact cellsG_code _ _ _ _ _ _ _ _
    rw [e] at h2
    exact h2
  · have := h.roF b e
    show (if _ then _ else _) = _
    rw [hrole b (by rw [this]; intro e; cases e) (hltR b (by rw [this]; intro e; cases e))]
    exact this
  · intro i g2 h2
    rcases hpick i g2 h2 with ⟨hi, h3⟩ | ⟨hi, rfl⟩
    · exact (h.loc i g2 h3).imp fun _ ho => hoth ho fun b e => (by rw [h.roL i g2 h3 b e]; exact ⟨fun e => (by cases e), fun e => (by cases e)⟩)
    · exact (h.loc _ g hg).imp fun _ ho => hoth ho fun b e => (by rw [h.roL _ g hg b e]; exact ⟨fun e => (by cases e), fun e => (by cases e)⟩)
  · intro i g2 h2
    rcases hpick i g2 h2 with ⟨hi, h3⟩ | ⟨hi, rfl⟩
    · exact (h.cod i g2 h3).imp fun _ ho => hoth ho fun b e => (by rw [h.roC i g2 h3 b e]; exact ⟨fun e => (by cases e), fun e => (by cases e; omega)⟩)
    · exact ⟨m, hs.row ho fun b e => hvfb b e⟩
  · intro i g2 h2 b e
    rcases hpick i g2 h2 with ⟨hi, h3⟩ | ⟨hi, rfl⟩
    · have hr := h.roL i g2 h3 b e
      show (if _ then _ else _) = _
      rw [hrole b (by rw [hr]; intro e; cases e) (hltR b (by rw [hr]; intro e; cases e))]
      exact hr
    · have hr := h.roL _ g hg b e
      show (if _ then _ else _) = _
      rw [hrole b (by rw [hr]; intro e; cases e) (hltR b (by rw [hr]; intro e; cases e)), hi]
      exact hr
  · intro i g2 h2 b e
    rcases hpick i g2 h2 with ⟨hi, h3⟩ | ⟨hi, rfl⟩
    · have hr := h.roC i g2 h3 b e
      show (if _ then _ else _) = _
      rw [hrole b (by rw [hr]; intro e; cases e; omega) (hltR b (by rw [hr]; intro e; cases e))]
      exact hr
    · show (if _ then _ else _) = _
      rw [if_pos e, hi]
  · have hb' : W'.heap.size ≤ b := by simpa [World.setCell] using hb
    show (if _ then _ else _) = _
    rw [if_neg (fun e => by have := (World.ownsRow.lt ho b e).2; omega)]
    exact h.dom b (Nat.le_trans hk.size hb')
  · show (if _ then _ else _) = _
    rw [if_neg (fun e => by
      rcases hvr rb e with h1 | h1
      · rw [h.rbN] at h1; cases h1
      · have := h.lt; omega)]
    exact h.rbN
  · show (if _ then _ else _) = _
    rw [if_neg (fun e => by
      rcases hvr b e with h3 | h3
      · rw [h1] at h3; cases h3
      · omega)]
    exact h1
end RdO
end Go.Proofs.YtkeglkneobngnaaGreatDoor

namespace Go.Proofs.YtkeglkneobngnaaGreatDoor
open Go.RowKit Cd As

/-- What a line makes of the reader: where it may stand, the reader behind it; a new role for what is new alone. -/
structure ReadSays (B : Nat) (W W' : World) (rb : Nat) (ρ : Nat → AR) (e : Ending) (r : Option St) : Prop where
  ret : e = .returned (.bool r.isSome)
  kp : Keeps (RdS rb ρ) W W'
  st : ∀ s, r = some s → ∃ vf' ρ' gs', RdO B W' rb vf' ρ' gs' s ∧ ∀ b, b < W.heap.size → ρ b = .no → ρ' b = .no
variable {B rb : Nat} {W : World} {vf : Value} {ρ : Nat → AR} {gs : List Gn} {st : St}

set_option maxRecDepth 100000 in
set_option maxHeartbeats 3200000 in
theorem readGlobals_any (v : Value) (l : List ByteArray) (hv : StrsAt W v l) (hl : Fit l) (hE : RdEnv W) (h : RdO B W rb vf ρ gs st) :
    Calls Tryz.prog 87 #[.pointer (some ⟨rb, 0, none⟩), v] W fun e w' => ReadSays B W w' rb ρ e ((globI (wsL l)).map fun n => ⟨true, ⟨n, st.p.fns⟩⟩) := by
  obtain ⟨ao, n, cap, rfl, hn, hnc, hcm, hx⟩ := hv
  have HH := Lib.hid h
  have HE := Lib.hid hE
  by_cases h2 : n = 2
  · obtain ⟨x0, x1, rfl⟩ : ∃ x0 x1, l = [x0, x1] := by
      match l, hn with
      | [], h => simp at h; omega
      | [_], h => simp at h; omega
      | [a, b], _ => exact ⟨a, b, rfl⟩
      | _ :: _ :: _ :: _, h => simp at h; omega
    subst h2
    obtain ⟨b, o, rfl, hbl, hc⟩ := hx (by decide)
    have c0 : W.cell? ⟨b, o, none⟩ = some (.string x0) := hc 0 x0 rfl
    have c1 : W.cell? ⟨b, o + 1, none⟩ = some (.string x1) := hc 1 x1 rfl
    have HG : Hid (globI (wsL [x0, x1]) = if x0.toList = globB then numB x1.toList else none) := Lib.hid rfl
    obtain ⟨R, hR⟩ : ∃ R, R = globI (wsL [x0, x1]) := ⟨_, rfl⟩
    rw [← hR] at HG ⊢
    clear hR hn hx hc h hE
    by_cases hg : x0.toList = globB
    · have HRN : Hid (R = numB x1.toList) := Lib.hid (by rw [HG.out, if_pos hg])
      have hgb : (x0.toList == globB) = true := by rw [hg]; rfl
      have hgn : (x0.toList != globB) = false := by rw [hg]; rfl
      have hgc : x0 = ⟨#[103, 108, 111, 98, 97, 108, 115]⟩ := by
        rw [ByteArray.toList_eq] at hg
        exact ByteArray.ext (Array.toList_inj.1 hg)
      have HNM := Lib.hid (number_any x1 (hl.2 x1 (by simp)) W HE.out)
      clear HG hg hl
      subst hgc
      go_enter Tryz.func87, Tryz.ntmps87
      go_wp2_with fail
      refine HNM.out.mono ?_
      rintro e w2 ⟨rfl, hb2⟩
      have HR2 := Lib.hid (HH.out.below hb2)
      have HB2 := Lib.hid hb2
      obtain ⟨q, hq⟩ : ∃ q, q = (numB x1.toList).getD 0 := ⟨_, rfl⟩
      obtain ⟨ok, hok⟩ : ∃ b, b = (numB x1.toList).isSome := ⟨_, rfl⟩
      have HQ := Lib.hid hq
      have HOK := Lib.hid hok
      rw [← hq, ← hok]
      clear hb2 hq hok c0 c1
      have z0 := HR2.out.blk.at_ 0 _ rfl
      have z2 := HR2.out.blk.at_ 2 _ rfl
      have y0 := HR2.out.blk.free 0
      have y2 := HR2.out.blk.free 2
      have HB : Hid (BlkO (w2.setCell ⟨rb, 0, none⟩ (.int .i64 q)) rb [.int .i64 q, vf, .bool st.begun]) := Lib.hid (HR2.out.blk.set 0 (.int .i64 q) (show 0 < 3 by decide))
      have u2 := HB.out.at_ 2 _ rfl
      have t2 := HB.out.free 2
      go_wp2_with fail
      go_ret
      have hkp : Keeps (RdS rb ρ) W ((w2.setCell ⟨rb, 0, none⟩ (.int .i64 q)).setCell ⟨rb, 2, none⟩ (.bool true)) :=
        ((Keeps.of_new (S := RdS rb ρ) HB2.out).setCell (p := ⟨rb, 0, none⟩) (Or.inl (Or.inl rfl)) _).setCell (p := ⟨rb, 2, none⟩) (Or.inl (Or.inl rfl)) _
      refine ⟨by show Ending.returned (.bool ok) = _; rw [HOK.out, HRN.out, Option.isSome_map], hkp, fun s hs => ?_⟩
      obtain ⟨m, hm, rfl⟩ := Option.map_eq_some_iff.1 hs
      rw [HRN.out] at hm
      have e : q = m := by rw [HQ.out, hm]; rfl
      subst e
      exact ⟨vf, ρ, gs, HR2.out.setG q, fun b _ hb => hb⟩
    · have HRN : Hid (R = none) := Lib.hid (by rw [HG.out, if_neg hg])
      have hgb : (x0.toList == globB) = false := by rw [beq_eq_false_iff_ne]; exact hg
      unfold globB at hgb
      have hgn : (x0.toList != [103, 108, 111, 98, 97, 108, 115]) = true := by rw [bne_iff_ne]; exact hg
      have hgc : ¬ x0 = ⟨#[103, 108, 111, 98, 97, 108, 115]⟩ := fun e => hg (by rw [e, ByteArray.toList_eq]; rfl)
      clear HG hg hl
      go_enter Tryz.func87, Tryz.ntmps87
      go_wp2_with fail
      go_ret
      rw [HRN.out]
      exact ⟨rfl, Keeps.refl _ _, fun s hs => (by cases hs)⟩
  · have HRN : Hid (globI (wsL l) = none) := Lib.hid (by
      match l, hn with
      | [], _ => rfl
      | [_], _ => rfl
      | [_, _], h => exact absurd h h2
      | _ :: _ :: _ :: _, _ => rfl)
    have hn2 : ((n : Int) != 2) = true := by simp; omega
    have hn3 : ¬ (n : Int) = 2 := by omega
    clear hn hx h2 h hE hl
    rw [HRN.out]
    go_enter Tryz.func87, Tryz.ntmps87
    go_wp2_with fail
    go_ret
    exact ⟨rfl, Keeps.refl _ _, fun s hs => (by cases hs)⟩

theorem info_fnA : (Tryz.prog.info? 72).map (fun i => (i.zero, i.size, i.bytes)) = some (some (.agg #[.int .i64 0, .slice none 0 0, .int .i64 0, .slice none 0 0]), 4, 64) := by kernel_rfl
theorem own_drew {w : World} {B : Nat} {e : TypeId} {size n : Nat} {v : Value} {xs : List Value} (h : w.ownsRow B e size v n xs) : w.drew.ownsRow B e size v n xs := h
theorem keeps_undrew {S : Nat → Prop} {w w' : World} (h : Keeps S w.drew w') : Keeps S w w' := ⟨h.os, h.tape, h.output, h.size, h.block⟩

set_option maxRecDepth 100000 in
set_option maxHeartbeats 6400000 in
theorem readHead_any (v : Value) (l : List ByteArray) (hv : StrsAt W v l) (hl : Fit l) (hE : RdEnv W) (h : RdO B W rb vf ρ gs st) (hgl : gs.length ≤ 200000) :
    Calls Tryz.prog 88 #[.pointer (some ⟨rb, 0, none⟩), v] W fun e w' => ReadSays B W w' rb ρ e ((headI (wsL l)).map fun f => ⟨st.begun, ⟨st.p.globals, st.p.fns ++ [f]⟩⟩) := by
  have HH := Lib.hid h
  have HHD := Lib.hid (headOf_any v l W hv hl hE)
  obtain ⟨R, hR⟩ : ∃ R, R = headI (wsL l) := ⟨_, rfl⟩
  rw [← hR] at HHD ⊢
  clear hv hl hE h hR
  go_enter Tryz.func88, Tryz.ntmps88
  go_wp2_with fail
  refine HHD.out.mono ?_
  rintro e w2 hs2
  obtain ⟨p, q, vl, n, ls, rfl, hol, hsay⟩ := hs2.ex
  obtain ⟨a1, c1, hv1⟩ := slice_of_own hol
  subst hv1
  obtain ⟨a0, c0, hv0⟩ := slice_of_own HH.out.row
  subst hv0
  have HS2 := Lib.hid hsay
  have HB2 := Lib.hid hs2.bel
  have HR2 := Lib.hid (HH.out.below hs2.bel)
  have HOL := Lib.hid hol
  clear hs2 hol hsay HHD
  obtain ⟨ok, hok⟩ : ∃ b, b = R.isSome := ⟨_, rfl⟩
  have HOK := Lib.hid hok
  rw [← hok]
  clear hok
  have HB3 : Hid (BlkO (w2.alloc (.cells #[.int .i64 p, .slice a1 n c1, .int .i64 q, .slice none 0 0] 72)) w2.heap.size [.int .i64 p, .slice a1 n c1, .int .i64 q, .slice none 0 0]) := Lib.hid (BlkO.new w2 #[.int .i64 p, .slice a1 n c1, .int .i64 q, .slice none 0 0] 72)
  have HK3 : Hid (Keeps (fun _ => False) w2 (w2.alloc (.cells #[.int .i64 p, .slice a1 n c1, .int .i64 q, .slice none 0 0] 72))) := Lib.hid ((Keeps.refl _ w2).alloc _)
  obtain ⟨fb, hfb⟩ : ∃ fb, fb = w2.heap.size := ⟨_, rfl⟩
  rw [← hfb] at HB3
  have HFB := Lib.hid hfb
  go_upto_region 2 with fail
  try rw [← hfb]
  clear hfb
  generalize w2.alloc (.cells #[.int .i64 p, .slice a1 n c1, .int .i64 q, .slice none 0 0] 72) = w3 at *
  have HR3 := Lib.hid (HR2.out.fresh HK3.out)
  have HOL3 := Lib.hid (HK3.out.row HOL.out fun _ _ => id)
  have d0 := HB3.out.at_ 0 _ rfl
  have d1 := HB3.out.at_ 1 _ rfl
  have d2 := HB3.out.at_ 2 _ rfl
  have d3 := HB3.out.at_ 3 _ rfl
  have r1 := HR3.out.blk.at_ 1 _ rfl
  have y1 := HR3.out.blk.free 1
  have hrl := HR3.out.lt
  have hfl := HB3.out.lt
  have hal : Keeps (fun _ => False) w3 (w3.alloc (.cells #[.int .i64 p, .slice a1 n c1, .int .i64 q, .slice none 0 0] 72)).drew := ((Keeps.refl _ w3).alloc _).drew
  have HAL := Lib.hid hal
  have HOWN : Hid ((w3.alloc (.cells #[.int .i64 p, .slice a1 n c1, .int .i64 q, .slice none 0 0] 72)).drew.ownsRow (rb + 1) 72 4 (.slice a0 gs.length c0) gs.length (cellsG gs)) := Lib.hid (hal.row HR3.out.row fun _ _ => id)
  have hcn : ∀ (i : Nat) u, [Value.int .i64 p, .slice a1 n c1, .int .i64 q, .slice none 0 0][i]? = some u → (w3.alloc (.cells #[.int .i64 p, .slice a1 n c1, .int .i64 q, .slice none 0 0] 72)).drew.cell? ⟨w3.heap.size, i, none⟩ = some u := fun i u hj => (cell_of_row _ _ _ _ _ _ (heap_alloc_new _ _)).trans (by simpa using hj)
  have hone : ∀ u ∈ [Value.int .i64 p, .slice a1 n c1, .int .i64 q, .slice none 0 0], u.oneCell' = true := by intro u hu; simp at hu; rcases hu with rfl | rfl | rfl | rfl <;> rfl
  have HCN := Lib.hid hcn
  have HON := Lib.hid hone
  have HSZ : Hid (rb + 1 ≤ (w3.alloc (.cells #[.int .i64 p, .slice a1 n c1, .int .i64 q, .slice none 0 0] 72)).drew.heap.size) := Lib.hid (Nat.le_trans hrl hal.size)
  have hgl2 : gs.length ≤ 1000000 := by omega
  have HFZ : Hid (∀ w5 : World, Keeps (fun b => (Value.slice a0 gs.length c0).ownBlock = some b) (w3.alloc (.cells #[.int .i64 p, .slice a1 n c1, .int .i64 q, .slice none 0 0] 72)).drew w5 → w5.cell? ⟨rb, 1, none⟩ = some (.slice a0 gs.length c0) ∧ w5.frozen? ⟨rb, 1, none⟩ = false) := Lib.hid fun w5 hk => by
    have hb := (HR3.out.blk.keeps HAL.out id).keeps hk (fun e => by have := HR3.out.roF rb e; rw [HR3.out.rbN] at this; cases this)
    exact ⟨hb.at_ 1 _ rfl, hb.free 1⟩
  clear hal hcn hone
  go_region_law (refine step_append2 rfl (.tmp 17) (.tmp 19) 28 72 (.agg #[.int .i64 0, .slice none 0 0, .int .i64 0, .slice none 0 0]) 4 64 rfl Tryz.underlying28 info_fnA rfl (by decide) (by decide) (rb + 1) _ gs.length (cellsG gs) [Value.int .i64 p, .slice a1 n c1, .int .i64 q, .slice none 0 0] w3.heap.size 1 HOWN.out hgl2 rfl HCN.out HON.out HSZ.out (by simp [Act.eval]) (by simp [Act.eval]) ?_; intro ao5 cap5 w5 ho5 hk5 hn5; obtain ⟨c51, z51⟩ := HFZ.out _ hk5; have HK5 := Lib.hid hk5; have HO5 := Lib.hid ho5; have HN5 := Lib.hid hn5; clear hk5 ho5 hn5)
  all_goals
    go_wp2_with fail
    go_ret
    have hrs : ¬ RdS rb ρ fb := fun e => by
      have := HFB.out
      rcases e with e | e
      · have := HR2.out.lt; omega
      · exact e (HR2.out.dom fb (by omega))
    have hk35 : Keeps (fun b => (Value.slice a0 gs.length c0).ownBlock = some b) w3 w5 := (HAL.out.mono fun _ _ e => e.elim).trans HK5.out
    obtain ⟨ρ', hO, hro⟩ := HR3.out.growF (p := p) (k := q) (ls := ls) (vl := .slice a1 n c1) (n := n) (by rw [← cellsG_snoc]; exact HO5.out) hk35 (fun b e => (HN5.out b e).imp id fun h1 => Nat.le_trans HAL.out.size h1)
      (own_mono HOL3.out HH.out.lt) (fun b e => by
        have := (World.ownsRow.lt HOL.out b e).1
        exact ⟨HH.out.dom b this, fun e2 => by have := HH.out.lt; omega⟩)
    have hkp : Keeps (RdS rb ρ) W (w5.setCell ⟨rb, 1, none⟩ (.slice ao5 (gs.length + 1) cap5)) := by
      refine Keeps.setCell (p := ⟨rb, 1, none⟩) ?_ (Or.inl (Or.inl rfl)) _
      exact ((Keeps.of_new (S := RdS rb ρ) HB2.out).trans (HK3.out.mono fun _ _ e => e.elim)).trans (hk35.mono fun b _ e => Or.inr (by rw [HR3.out.roF b e]; intro e; cases e))
    refine ⟨by rw [HOK.out, Option.isSome_map]; rfl, hkp, fun s hs => ?_⟩
    obtain ⟨f, hf, rfl⟩ := Option.map_eq_some_iff.1 hs
    obtain ⟨e1, e2, e3, e4⟩ := HS2.out f hf
    obtain ⟨fp, fl, fk, fc⟩ := f
    dsimp only at e1 e2 e3 e4
    subst e1 e2 e3 e4
    exact ⟨_, ρ', _, hO, fun b hb h0 => hro b (Nat.lt_of_lt_of_le (Nat.lt_of_lt_of_le hb HB2.out.size) HK3.out.size) h0 fun e => by have := (World.ownsRow.lt HOL.out b e).1; omega⟩
end Go.Proofs.YtkeglkneobngnaaGreatDoor
