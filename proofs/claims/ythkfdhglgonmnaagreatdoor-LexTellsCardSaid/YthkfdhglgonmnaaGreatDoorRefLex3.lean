/-
  The reference's signsOf (a text cut at its blanks) and Good (no error).
-/
import Derived.Test.YthkfdhglgonmnaaGreatDoorRefLex2
import Derived.Lib.SplitLaws
namespace Go.Proofs.YthkfdhglgonmnaaGreatDoor
open Go.RowKit Lx

def signsT : ByteArray := ":= <- << <= < >> >= > && & || | == = != ! + - * / % ^ ( ) { } , :".toUTF8
def signsX : List ByteArray := Lx.sigsL.map (fun l => ⟨l.toArray⟩)
theorem signs_count : Lib.countB signsT ⟨#[32]⟩ = 27 := by decide +kernel
theorem signs_split : Lib.splitB ⟨#[32]⟩ 0 27 signsT = signsX := by decide +kernel

set_option maxRecDepth 100000 in
set_option maxHeartbeats 1600000 in
theorem rSignsOf_any (w : World) (hM : MaxL w) : Calls Tryz.prog 32 #[] w fun e w' =>
    e = .returned (.slice (some ⟨w.heap.size, 0, none⟩) 28 28) ∧ w' = w.alloc (.cells (signsX.map Value.string).toArray 9) := by
  obtain ⟨m, hm⟩ := hM
  have H := Tryz.strings_Split signsT ⟨#[32]⟩ m w (by decide +kernel) hm (by decide +kernel)
  rw [signs_count, signs_split] at H
  have G := Lib.hid H
  clear H hm
  generalize (signsX.map Value.string).toArray = X at *
  go_enter Tryz.func32, Tryz.ntmps32
  go_wp2_with (go_at_call 60; refine G.out.mono ?_; rintro e w2 ⟨rfl, rfl⟩)
  go_ret
  exact ⟨rfl, rfl⟩

set_option maxRecDepth 100000 in
set_option maxHeartbeats 1600000 in
theorem rGood_any (w : World) : Calls Tryz.prog 33 #[] w fun e w' =>
    e = .returned (.agg #[.int .i64 0, .int .i64 (-1)]) ∧ Below w.heap.size w w' := by
  go_enter Tryz.func33, Tryz.ntmps33
  go_wp2_with fail
  refine bodyPost_ret (v := .agg #[.int .i64 0, .int .i64 (-1)]) (by simp [results, go_sem]) rfl ⟨rfl, ?_⟩
  exact (Below.refl _ _).alloc (Nat.le_refl _) _
end Go.Proofs.YthkfdhglgonmnaaGreatDoor
