/-
  The walk of the reference's Sign: a map's literal of nineteen entries, looked up once; its Signed and its Kinds.
-/
import Derived.Test.YtonpbbflloljgaaDoorSigns
import Derived.MapKept
import Derived.Below
namespace Go.Proofs.YtonpbbflloljgaaDoor
open Go.RowKit

/-- The first n entries of the literal. -/
def entL : Nat → List MapEntry
  | 0 => []
  | n + 1 => entL n ++ [{ key := .int .i64 ((n + 1 : Nat) : Int), val := .string ⟨(signL (n + 1)).toArray⟩, born := n }]
def ents (n : Nat) : Array MapEntry := (entL n).toArray
theorem now_app (k : Int) : ∀ (l l' : List MapEntry) (i : Nat), Instr.findNow (.int .i64) (.int .i64 k) l i = some none → Instr.findNow (.int .i64) (.int .i64 k) (l ++ l') i = Instr.findNow (.int .i64) (.int .i64 k) l' (i + l.length)
  | [], l', i, _ => by simp
  | e :: l, l', i, h => by
    rw [List.cons_append]
    unfold Instr.findNow at h
    conv => lhs; unfold Instr.findNow
    split at h
    · cases h
    · rw [now_app k l l' (i + 1) h, List.length_cons]
      congr 1; omega
    · cases h
theorem now_past (k : Int) : ∀ n : Nat, (n : Int) < k ∨ k < 1 → Instr.findNow (.int .i64) (.int .i64 k) (entL n) 0 = some none
  | 0, _ => rfl
  | n + 1, h => by
    have ih := now_past k n (by omega)
    unfold entL
    rw [now_app k _ _ 0 ih]
    have e : (k == ((n + 1 : Nat) : Int)) = false := by rw [beq_eq_false_iff_ne]; omega
    simp only [Instr.findNow, Instr.sameNow, if_true, e]
theorem now_first (k : Int) (x : Nat × Value) : ∀ (l l' : List MapEntry) (i : Nat), Instr.findNow (.int .i64) (.int .i64 k) l i = some (some x) → Instr.findNow (.int .i64) (.int .i64 k) (l ++ l') i = some (some x)
  | [], _, _, h => by cases h
  | e :: l, l', i, h => by
    rw [List.cons_append]
    unfold Instr.findNow at h
    conv => lhs; unfold Instr.findNow
    split at h
    · exact h
    · exact now_first k x l l' (i + 1) h
    · cases h
theorem now_at (k : Nat) (h1 : 1 ≤ k) : ∀ n : Nat, k ≤ n → ∃ i, Instr.findNow (.int .i64) (.int .i64 (k : Int)) (entL n) 0 = some (some (i, .string ⟨(signL k).toArray⟩))
  | 0, h => absurd h (by omega)
  | n + 1, h => by
    by_cases e : k = n + 1
    · subst e
      have ih := now_past ((n + 1 : Nat) : Int) n (by omega)
      refine ⟨0 + (entL n).length, ?_⟩
      conv => lhs; unfold entL
      rw [now_app _ _ _ 0 ih]
      have e : (((n + 1 : Nat) : Int) == ((n + 1 : Nat) : Int)) = true := beq_self_eq_true _
      simp only [Instr.findNow, Instr.sameNow, if_true, e]
    · obtain ⟨i, hi⟩ := now_at k h1 n (by omega)
      refine ⟨i, ?_⟩
      conv => lhs; unfold entL
      exact now_first _ _ _ _ _ hi
theorem map_run (es : Array MapEntry) (n : Nat) (k : Int) (s : ByteArray) (w : World) (hf : Instr.findNow (.int .i64) (.int .i64 k) es.toList 0 = some none) :
    (Instr.mapUpdate 39 (.map (some w.heap.size)) (.int .i64 k) (.string s)).run Tryd.prog (w.alloc (.map es n)) = .ok () (w.alloc (.map (es.push { key := .int .i64 k, val := .string s, born := n }) (n + 1))) := by
  have hb : (w.alloc (.map es n)).heap[w.heap.size]? = some (.map es n) := heap_alloc_new w _
  have hk : (Instr.checkKey false 10000 3 (.int .i64 k)).run Tryd.prog (w.alloc (.map es n)) = .ok () (w.alloc (.map es n)) := MapKept.run_checkKey Tryd.underlying3 (by simp [MapKept.IsKey]) false 9999
  have hk2 := MapKept.run_findKey (P := Tryd.prog) (w := w.alloc (.map es n)) Tryd.underlying3 hf
  unfold Instr.mapUpdate
  simp only [Sem.run_bind, run_underlying Tryd.underlying39, Result.andThen_ok, MapKept.run_getObj_map hb, hk, hk2, MapKept.run_setObj_map _ hb]
  have e : ∀ A B : Obj, (w.heap.push A).setIfInBounds w.heap.size B = w.heap.push B := fun A B => by
    apply Array.ext_getElem?
    intro i
    rw [Array.getElem?_setIfInBounds, Array.getElem?_push, Array.getElem?_push, Array.size_push]
    by_cases h : w.heap.size = i
    · rw [if_pos h, if_pos (by omega), if_pos h.symm]
    · rw [if_neg h, if_neg (Ne.symm h), if_neg (Ne.symm h)]
  exact congrArg (fun h => Result.ok () ({ w with heap := h } : World)) (e _ _)
theorem ents_push (n : Nat) : (ents n).push { key := .int .i64 ((n + 1 : Nat) : Int), val := .string ⟨(signL (n + 1)).toArray⟩, born := n } = ents (n + 1) := by
  unfold ents
  rw [show entL (n + 1) = entL n ++ [{ key := .int .i64 ((n + 1 : Nat) : Int), val := .string ⟨(signL (n + 1)).toArray⟩, born := n }] from rfl]
  simp
theorem ins_run (n : Nat) (w : World) :
    (Instr.mapUpdate 39 (.map (some w.heap.size)) (.int .i64 ((n + 1 : Nat) : Int)) (.string ⟨(signL (n + 1)).toArray⟩)).run Tryd.prog (w.alloc (.map (ents n) n)) = .ok () (w.alloc (.map (ents (n + 1)) (n + 1))) := by
  rw [map_run (ents n) n _ _ w (now_past _ n (by omega)), ents_push]
theorem zero_string (w : World) : (zeroValue 9).run Tryd.prog w = .ok (.string ByteArray.empty) w := by kernel_rfl
theorem look_run (op : Int) (w : World) :
    (Instr.lookup 39 (.map (some w.heap.size)) (.int .i64 op) false).run Tryd.prog (w.alloc (.map (ents 19) 19)) = .ok (.string ⟨(signV op).toArray⟩) (w.alloc (.map (ents 19) 19)) := by
  have hb : (w.alloc (.map (ents 19) 19)).heap[w.heap.size]? = some (.map (ents 19) 19) := heap_alloc_new w _
  have hk : ∀ em, (Instr.checkKey em 10000 3 (.int .i64 op)).run Tryd.prog (w.alloc (.map (ents 19) 19)) = .ok () (w.alloc (.map (ents 19) 19)) := fun em => MapKept.run_checkKey Tryd.underlying3 (by simp [MapKept.IsKey]) em 9999
  unfold Instr.lookup
  simp only [Sem.run_bind, run_underlying Tryd.underlying39, Result.andThen_ok, MapKept.run_getObj_map hb, Sem.run_pure, hk]
  by_cases h : 1 ≤ op ∧ op ≤ 19
  · obtain ⟨k, rfl⟩ := Int.eq_ofNat_of_zero_le (show 0 ≤ op by omega)
    obtain ⟨i, hi⟩ := now_at k (by omega) 19 (by omega)
    have hk2 := MapKept.run_findKey (P := Tryd.prog) (w := w.alloc (.map (ents 19) 19)) Tryd.underlying3 hi
    have hs : signV (k : Int) = signL k := by unfold signV; rw [if_pos h]; rfl
    simp only [show (ents 19).toList = entL 19 from rfl, hk2, Result.andThen_ok, hs]
    rfl
  · have hk2 := MapKept.run_findKey (P := Tryd.prog) (w := w.alloc (.map (ents 19) 19)) Tryd.underlying3 (now_past op 19 (by omega))
    have hs : signV op = [] := by unfold signV; rw [if_neg h]
    simp only [show (ents 19).toList = entL 19 from rfl, hk2, Result.andThen_ok, Sem.run_pure, Sem.run_bind, zero_string, hs]
    rfl

set_option maxHeartbeats 800000 in
set_option maxRecDepth 100000 in
theorem rsign_any (op : Int) (w : World) :
    Calls Tryd.prog 13 #[.int .i64 op] w fun e w' => e = .returned (.string ⟨(signV op).toArray⟩) ∧ Below w.heap.size w w' := by
  have hmm := @run_makeMap Tryd.prog
  have hlk := look_run op w
  have i1 : (Instr.mapUpdate 39 (.map (some w.heap.size)) (.int .i64 1) (.string ⟨#[43]⟩)).run Tryd.prog (w.alloc (.map #[] 0)) = .ok () (w.alloc (.map (ents 1) 1)) := ins_run 0 w
  have i2 : (Instr.mapUpdate 39 (.map (some w.heap.size)) (.int .i64 2) (.string ⟨#[45]⟩)).run Tryd.prog (w.alloc (.map (ents 1) 1)) = .ok () (w.alloc (.map (ents 2) 2)) := ins_run 1 w
  have i3 : (Instr.mapUpdate 39 (.map (some w.heap.size)) (.int .i64 3) (.string ⟨#[42]⟩)).run Tryd.prog (w.alloc (.map (ents 2) 2)) = .ok () (w.alloc (.map (ents 3) 3)) := ins_run 2 w
  have i4 : (Instr.mapUpdate 39 (.map (some w.heap.size)) (.int .i64 4) (.string ⟨#[47]⟩)).run Tryd.prog (w.alloc (.map (ents 3) 3)) = .ok () (w.alloc (.map (ents 4) 4)) := ins_run 3 w
  have i5 : (Instr.mapUpdate 39 (.map (some w.heap.size)) (.int .i64 5) (.string ⟨#[37]⟩)).run Tryd.prog (w.alloc (.map (ents 4) 4)) = .ok () (w.alloc (.map (ents 5) 5)) := ins_run 4 w
  have i6 : (Instr.mapUpdate 39 (.map (some w.heap.size)) (.int .i64 6) (.string ⟨#[38]⟩)).run Tryd.prog (w.alloc (.map (ents 5) 5)) = .ok () (w.alloc (.map (ents 6) 6)) := ins_run 5 w
  have i7 : (Instr.mapUpdate 39 (.map (some w.heap.size)) (.int .i64 7) (.string ⟨#[124]⟩)).run Tryd.prog (w.alloc (.map (ents 6) 6)) = .ok () (w.alloc (.map (ents 7) 7)) := ins_run 6 w
  have i8 : (Instr.mapUpdate 39 (.map (some w.heap.size)) (.int .i64 8) (.string ⟨#[94]⟩)).run Tryd.prog (w.alloc (.map (ents 7) 7)) = .ok () (w.alloc (.map (ents 8) 8)) := ins_run 7 w
  have i9 : (Instr.mapUpdate 39 (.map (some w.heap.size)) (.int .i64 9) (.string ⟨#[60, 60]⟩)).run Tryd.prog (w.alloc (.map (ents 8) 8)) = .ok () (w.alloc (.map (ents 9) 9)) := ins_run 8 w
  have i10 : (Instr.mapUpdate 39 (.map (some w.heap.size)) (.int .i64 10) (.string ⟨#[62, 62]⟩)).run Tryd.prog (w.alloc (.map (ents 9) 9)) = .ok () (w.alloc (.map (ents 10) 10)) := ins_run 9 w
  have i11 : (Instr.mapUpdate 39 (.map (some w.heap.size)) (.int .i64 11) (.string ⟨#[60]⟩)).run Tryd.prog (w.alloc (.map (ents 10) 10)) = .ok () (w.alloc (.map (ents 11) 11)) := ins_run 10 w
  have i12 : (Instr.mapUpdate 39 (.map (some w.heap.size)) (.int .i64 12) (.string ⟨#[60, 61]⟩)).run Tryd.prog (w.alloc (.map (ents 11) 11)) = .ok () (w.alloc (.map (ents 12) 12)) := ins_run 11 w
  have i13 : (Instr.mapUpdate 39 (.map (some w.heap.size)) (.int .i64 13) (.string ⟨#[62]⟩)).run Tryd.prog (w.alloc (.map (ents 12) 12)) = .ok () (w.alloc (.map (ents 13) 13)) := ins_run 12 w
  have i14 : (Instr.mapUpdate 39 (.map (some w.heap.size)) (.int .i64 14) (.string ⟨#[62, 61]⟩)).run Tryd.prog (w.alloc (.map (ents 13) 13)) = .ok () (w.alloc (.map (ents 14) 14)) := ins_run 13 w
  have i15 : (Instr.mapUpdate 39 (.map (some w.heap.size)) (.int .i64 15) (.string ⟨#[61, 61]⟩)).run Tryd.prog (w.alloc (.map (ents 14) 14)) = .ok () (w.alloc (.map (ents 15) 15)) := ins_run 14 w
  have i16 : (Instr.mapUpdate 39 (.map (some w.heap.size)) (.int .i64 16) (.string ⟨#[33, 61]⟩)).run Tryd.prog (w.alloc (.map (ents 15) 15)) = .ok () (w.alloc (.map (ents 16) 16)) := ins_run 15 w
  have i17 : (Instr.mapUpdate 39 (.map (some w.heap.size)) (.int .i64 17) (.string ⟨#[45]⟩)).run Tryd.prog (w.alloc (.map (ents 16) 16)) = .ok () (w.alloc (.map (ents 17) 17)) := ins_run 16 w
  have i18 : (Instr.mapUpdate 39 (.map (some w.heap.size)) (.int .i64 18) (.string ⟨#[94]⟩)).run Tryd.prog (w.alloc (.map (ents 17) 17)) = .ok () (w.alloc (.map (ents 18) 18)) := ins_run 17 w
  have i19 : (Instr.mapUpdate 39 (.map (some w.heap.size)) (.int .i64 19) (.string ⟨#[33]⟩)).run Tryd.prog (w.alloc (.map (ents 18) 18)) = .ok () (w.alloc (.map (ents 19) 19)) := ins_run 18 w
  go_enter Tryd.func13, Tryd.ntmps13
  go_wp2_with fail
  go_ret
  exact ⟨rfl, (Below.refl _ _).alloc (Nat.le_refl _) _⟩

set_option maxHeartbeats 400000 in
theorem rsigned_any (s : ByteArray) (a b : Nat) (w : World) (ha : 1 ≤ a) (hb : b < 20) :
    Calls Tryd.prog 15 #[.string s, .int .i64 a, .int .i64 b] w fun e w' => e = .returned (.int .i64 (writV s.toList (b + 1 - a) a : Nat)) ∧ Below w.heap.size w w' := by
  obtain ⟨R, hR⟩ : ∃ R : Nat, R = writV s.toList (b + 1 - a) a := ⟨_, rfl⟩
  rw [← hR]
  have HR := Lib.hid hR
  clear hR
  go_enter Tryd.func15, Tryd.ntmps15
  go_wp2_with fail
  go_loopw [7] (fun i wr => ∃ k : Nat, a ≤ k ∧ i = .int .i64 k ∧ R = writV s.toList (b + 1 - k) k ∧ Below w.heap.size w wr) (fun i _ => b + 1 - (intOf i).toNat)
  case atStart => exact ⟨a, Nat.le_refl _, rfl, HR.out, Below.refl _ _⟩
  case round =>
    obtain ⟨k, hk, rfl, hw, hB⟩ := hrel
    have H := Lib.hid hw
    clear hw
    by_cases hlt : k ≤ b
    · have hC : Hid (∀ w : World, Calls Tryd.prog 13 #[.int .i64 (k : Int)] w fun e w' => e = .returned (.string ⟨(signL k).toArray⟩) ∧ Below w.heap.size w w') := Lib.hid fun w => (rsign_any k w).mono fun _ _ ⟨he, hw⟩ => ⟨by rw [he]; unfold signV; rw [if_pos ⟨by omega, by omega⟩]; rfl, hw⟩
      go_wp2_with (go_at_call 13; refine (hC.out _).mono ?_; rintro e w1 ⟨rfl, hb1⟩)
      · have hh : (signL k == s.toList) = true := by assumption
        go_ret
        refine ⟨ret_i64 ?_, hB.trans (hb1.mono hB.size)⟩
        have := H.out
        rw [show b + 1 - k = (b - k) + 1 by omega, writV_yes (LawfulBEq.eq_of_beq hh).symm] at this
        rw [this]
      · have hh : (signL k == s.toList) = false := by assumption
        go_roundw
        case rel =>
          refine ⟨k + 1, by omega, by go_num, ?_, hB.trans (hb1.mono hB.size)⟩
          have := H.out
          rw [show b + 1 - k = (b - k) + 1 by omega, writV_no (fun e => by rw [e] at hh; simp at hh)] at this
          rw [this]; congr 1; omega
        case measure => simp [intOf]; omega
    · go_wp2_with fail
      go_ret
      refine ⟨ret_i64 ?_, hB⟩
      have := H.out
      rw [this, show b + 1 - k = 0 by omega]; rfl

set_option maxHeartbeats 800000 in
theorem rkinds_any (op : Int) (w : World) :
    Calls Tryd.prog 10 #[.int .i64 op] w fun e w' => e = .returned (.tuple #[.int .i64 (takesV op), .int .i64 (makesV op)]) ∧ w = w' := by
  go_enter Tryd.func10, Tryd.ntmps10
  go_wp2_with fail
  all_goals
    go_ret2
    refine ⟨congrArg Ending.returned (congrArg Value.tuple ?_), rfl⟩
    simp only [beq_iff_eq, beq_eq_false_iff_ne, ne_eq] at *
    have e1 : ∀ {x y : Int}, takesV op = x → makesV op = y → #[Value.int .i64 x, Value.int .i64 y] = #[Value.int .i64 (takesV op), Value.int .i64 (makesV op)] := fun h1 h2 => by rw [h1, h2]
    refine e1 ?_ ?_
    · unfold takesV; (repeat' split) <;> omega
    · unfold makesV; (repeat' split) <;> omega
end Go.Proofs.YtonpbbflloljgaaDoor
