/-
  The walks of slices.IndexFunc and slices.DeleteFunc at a row of those that wait.
-/
import Derived.Test.YtpehmghnfbkaaaaDoorPipeW3
namespace Go.Proofs.YtpehmghnfbkaaaaDoor
open Go.RowKit Go.Maps Pp

/-- Where a task stands first in a row: x is -1 where it stands nowhere. -/
def FirstIs (task : Int) (r : List (Int × Nat)) (x : Int) : Prop := (x = -1 ∧ ∀ w ∈ r, w.1 ≠ task) ∨ ∃ k : Nat, x = k ∧ ∃ w, r[k]? = some w ∧ w.1 = task ∧ ∀ w ∈ r.take k, w.1 ≠ task
theorem off_none {task : Int} {r : List (Int × Nat)} (h : ∀ w ∈ r, w.1 ≠ task) : off task r = r := List.filter_eq_self.2 fun w hw => by simp [h w hw]
theorem off_take_succ {task : Int} {r : List (Int × Nat)} {k : Nat} {x : Int × Nat} (hx : r[k]? = some x) : off task (r.take (k + 1)) = if x.1 = task then off task (r.take k) else off task (r.take k) ++ [x] := by
  have hk := (List.getElem?_eq_some_iff.1 hx).1
  have e : r[k] = x := (List.getElem?_eq_some_iff.1 hx).2
  rw [List.take_succ_eq_append_getElem hk, e]
  unfold off
  rw [List.filter_append]
  split
  · next h => simp [h]
  · next h => simp [h]

abbrev delF (bx : Nat) : Value := .func (.func 52) #[] #[.pointer (some ⟨bx, 0, none⟩)]
set_option maxRecDepth 100000 in
set_option maxHeartbeats 3200000 in
theorem indexW_any (w : World) (v : Value) (r : List (Int × Nat)) (h : RowW w v r) (task : Int) (bx : Nat) (hb : w.cell? ⟨bx, 0, none⟩ = some (.int .i64 task)) :
    Calls Tryd.prog 62 #[v, delF bx] w fun e w' => ∃ x : Int, e = .returned (.int .i64 x) ∧ FirstIs task r x ∧ Below w.heap.size w w' := by
  obtain ⟨ao, cap, rfl, hcap, hmax⟩ := h.slice
  unfold maxLen at hmax
  have HH := Lib.hid h
  have HB := Lib.hid hb
  obtain ⟨n, hn⟩ : ∃ n, n = r.length := ⟨_, rfl⟩
  rw [← hn] at hcap HH ⊢
  have HN := Lib.hid hn
  clear h hb hn
  go_enter Tryd.func62, Tryd.ntmps62
  go_wp2_with fail
  go_loopw [8] (fun i wr => ∃ k : Nat, k ≤ n ∧ i = .int .i64 k ∧ (∀ w ∈ r.take k, w.1 ≠ task) ∧ Below w.heap.size w wr) (fun i _ => n - (intOf i).toNat)
  case atStart => exact ⟨0, Nat.zero_le _, rfl, (fun w hw => by simp at hw), Below.refl _ _⟩
  case round =>
    obtain ⟨k, hk, rfl, hno, hbw⟩ := hrel
    have HNO := Lib.hid hno
    have HBW := Lib.hid hbw
    clear hno
    by_cases hkn : k < n
    · obtain ⟨x, hx⟩ : ∃ x, r[k]? = some x := ⟨_, List.getElem?_eq_getElem (by have := HN.out; omega)⟩
      have HX := Lib.hid hx
      obtain ⟨g, rfl, -, -, -, hg, -⟩ := HH.out.addr (by have := HN.out; omega)
      obtain ⟨hc1, hc2⟩ := HH.out.cell hx
      rw [← hbw.cell (p := ⟨g, k * 2, none⟩) hg] at hc1
      rw [← hbw.cell (p := ⟨g, k * 2 + 1, none⟩) hg] at hc2
      have HB2 : Hid (wr.cell? ⟨bx, 0, none⟩ = some (.int .i64 task)) := Lib.hid (by
        rw [hbw.cell (p := ⟨bx, 0, none⟩) (block_lt_of_cell HB.out)]; exact HB.out)
      obtain ⟨x1, x2⟩ := x
      simp only at hc1 hc2
      have hki : (0 : Int) ≤ (k : Int) ∧ (k : Int) < (n : Int) := by omega
      clear hbw hx
      by_cases ht : x1 = task
      · have HT := Lib.hid ht
        have HD := Lib.hid (del_any x1 (x2 : Nat) task bx wr HB2.out)
        have hd : decide (x1 = task) = true := by rw [decide_eq_true_eq]; exact ht
        rw [hd] at HD
        clear ht hd
        go_wp2_with fail
        refine HD.out.mono ?_
        rintro e w2 ⟨rfl, hb2⟩
        go_wp2_with fail
        go_ret
        exact ⟨_, rfl, Or.inr ⟨k, rfl, _, HX.out, HT.out, HNO.out⟩, HBW.out.trans (hb2.mono HBW.out.size)⟩
      · have HT := Lib.hid ht
        have HD := Lib.hid (del_any x1 (x2 : Nat) task bx wr HB2.out)
        have hd : decide (x1 = task) = false := by rw [decide_eq_false_iff_not]; exact ht
        rw [hd] at HD
        clear ht hd
        go_wp2_with fail
        refine HD.out.mono ?_
        rintro e w2 ⟨rfl, hb2⟩
        have HB3 := Lib.hid hb2
        clear hb2
        go_wp2_with fail
        go_roundw
        case rel =>
          refine ⟨k + 1, by omega, by go_num, fun y hy => ?_, HBW.out.trans (HB3.out.mono HBW.out.size)⟩
          have hkl := (List.getElem?_eq_some_iff.1 HX.out).1
          rw [List.take_succ_eq_append_getElem hkl, List.mem_append, List.mem_singleton] at hy
          rcases hy with hy | hy
          · exact HNO.out y hy
          · rw [hy, (List.getElem?_eq_some_iff.1 HX.out).2]; exact HT.out
        case measure => simp [intOf]; omega
    · obtain rfl : k = n := by omega
      clear hbw
      go_wp2_with fail
      go_ret
      refine ⟨-1, rfl, Or.inl ⟨rfl, fun y hy => HNO.out y ?_⟩, HBW.out⟩
      rw [HN.out, List.take_length]; exact hy
end Go.Proofs.YtpehmghnfbkaaaaDoor
