/-
  The walk of the law PipeOnce.
-/
import Derived.Test.YtpehmghnfbkaaaaPipeNG
import Derived.Test.YtpehmghnfbkaaaaPipeOC
import Derived.Deep.Cut
namespace Go.Proofs.Ytpehmghnfbkaaaa
open Go.RowKit Go.Maps Pp

set_option maxRecDepth 100000 in
set_option maxHeartbeats 1600000 in
theorem pipeOnce_any (v1 v2 : Value) (sizes : List Int) (l : List De) (w : World) (h1 : IntsAt w v1 sizes) (h2 : DealsAt w v2 l) :
    Calls Try.prog 5 #[v1, v2] w fun e w' => e = .returned (.bool true) ∧ Below w.heap.size w w' := by
  have H1 := Lib.hid h1
  have H2 := Lib.hid h2
  clear h1 h2
  go_enter Try.func5, Try.ntmps5
  go_wp2_with fail
  refine (piped_any w).mono ?_
  rintro e w1 ⟨rfl, hb1⟩
  have HB1 := Lib.hid hb1
  clear hb1
  go_wp2_with fail
  refine (fewD_any w1 (H1.out.below HB1.out) (H2.out.below HB1.out)).mono ?_
  rintro e w2 ⟨b, rfl, hb, hb2⟩
  have HB := Lib.hid hb
  have HB2 : Hid (Below w.heap.size w w2) := Lib.hid (HB1.out.trans (hb2.mono HB1.out.size))
  clear hb hb2
  cases b with
  | false =>
    go_wp2_with fail
    go_ret
    exact ⟨rfl, HB2.out⟩
  | true =>
    obtain ⟨q1, q2, q3⟩ := HB.out rfl
    have hmm := @run_makeMap Try.prog
    have hs2 := HB2.out.size
    have hB4 : Below w.heap.size w ((w2.alloc (.map #[] 0)).alloc (.cells #[.map (some w2.heap.size)] 34)) := (HB2.out.alloc hs2 _).alloc (by simp; omega) _
    have HD := Lib.hid (dealsO_any w ((w2.alloc (.map #[] 0)).alloc (.cells #[.map (some w2.heap.size)] 34)) (xb := w2.heap.size + 1) (mb := w2.heap.size) hB4 (by rw [World.cell?_alloc_at _ _ _ _ (by simp)]; rfl)
      ((alloc_new _ _).map (World.ownsMap_made w2 Try.prog 3 (plainElem Try.prog 3)) id) hs2 H1.out H2.out q1 q2 q3)
    clear q1 q2 q3 HB hs2 hB4
    go_wp2_with fail
    refine HD.out.mono ?_
    rintro e w3 ⟨rfl, hb3⟩
    have HB3 := Lib.hid hb3
    clear hb3 hmm
    go_wp2_with fail
    go_ret
    exact ⟨rfl, HB3.out⟩
end Go.Proofs.Ytpehmghnfbkaaaa
