/-
  The walks of package clock: Now, Len, Next, When, Drop, Set.
-/
import Derived.Test.YtonpbbflloljgaaHeapP
namespace Go.Proofs.Ytonpbbflloljgaa
open Go.RowKit Go.Maps

/-- A clock: its time, and what is to come, in blocks of F. -/
structure ClockAt (w : World) (cb : Nat) (F : Nat → Prop) (now : Int) (l : List Hp.E) : Prop where
  c : w.cell? ⟨cb, 0, none⟩ = some (.int .i64 now)
  z : w.frozen? ⟨cb, 0, none⟩ = false
  fc : F cb
  fl : ∀ b, F b → b < w.heap.size
  le : ∀ i, i < l.length → now ≤ (Hp.g l i).1
  q : (l = [] ∧ w.cell? ⟨cb, 1, none⟩ = some (.slice none 0 0) ∧ w.cell? ⟨cb, 2, none⟩ = some (.map none) ∧ w.cell? ⟨cb, 3, none⟩ = some .nilFunc ∧ (∀ o, w.frozen? ⟨cb, o, none⟩ = false)) ∨
    ∃ v mb D, HQ w cb v mb l D ∧ ∀ b, QF cb mb v b → F b
theorem HQ.keeps {S : Nat → Prop} {w w' : World} {cb mb : Nat} {v : Value} {l : List Hp.E} {D : DataW Unit} (h : HQ w cb v mb l D) (k : Keeps S w w') (hs : ∀ b, QF cb mb v b → ¬ S b) : HQ w' cb v mb l D := ⟨h.q.keeps k hs, h.p, h.heap⟩
theorem ClockAt.lt {w : World} {cb : Nat} {F : Nat → Prop} {now : Int} {l : List Hp.E} (h : ClockAt w cb F now l) : cb < w.heap.size := block_lt_of_cell h.c
theorem ClockAt.keeps {S F : Nat → Prop} {w w' : World} {cb : Nat} {now : Int} {l : List Hp.E} (h : ClockAt w cb F now l) (k : Keeps S w w') (hs : ∀ b, F b → ¬ S b) : ClockAt w' cb F now l := by
  have hn := hs _ h.fc
  refine ⟨k.cell_of h.c hn, by rw [k.frozen (p := ⟨cb, 0, none⟩) h.lt hn]; exact h.z, h.fc, fun b hb => Nat.lt_of_lt_of_le (h.fl b hb) k.size, h.le, ?_⟩
  rcases h.q with ⟨e, h1, h2, h3, h4⟩ | ⟨v, mb, D, hq, hf⟩
  · exact Or.inl ⟨e, k.cell_of h1 hn, k.cell_of h2 hn, k.cell_of h3 hn, fun o => by rw [k.frozen (p := ⟨cb, o, none⟩) h.lt hn]; exact h4 o⟩
  · exact Or.inr ⟨v, mb, D, hq.keeps k (fun b hb => hs b (hf b hb)), hf⟩
theorem ClockAt.next {F : Nat → Prop} {w w' : World} {cb : Nat} {now : Int} {l : List Hp.E} (h : ClockAt w cb F now l) (hb : Below w.heap.size w w') : ClockAt w' cb F now l := h.keeps (S := fun _ => False) (Keeps.of_new hb) (fun _ _ e => e)
theorem ClockAt.entries {F : Nat → Prop} {w : World} {cb : Nat} {now : Int} {l : List Hp.E} (h : ClockAt w cb F now l) : ∃ ao cap, w.cell? ⟨cb, 1, none⟩ = some (.slice ao l.length cap) := by
  rcases h.q with ⟨rfl, h1, _⟩ | ⟨v, mb, D, hq, hf⟩
  · exact ⟨none, 0, h1⟩
  · obtain ⟨ao, cap, rfl, _⟩ := hq.q.slice
    exact ⟨ao, cap, hq.q.c0⟩
set_option maxRecDepth 100000 in
set_option maxHeartbeats 1600000 in
theorem cnow_any {F : Nat → Prop} {cb : Nat} {now : Int} {l : List Hp.E} (w : World) (h : ClockAt w cb F now l) :
    Calls Try.prog 11 #[.pointer (some ⟨cb, 0, none⟩)] w fun e w' => e = .returned (.int .i64 now) ∧ w = w' := by
  have c := h.c
  clear h
  go_enter Try.func11, Try.ntmps11
  go_wp2_with fail
  go_ret
  exact ⟨rfl, rfl⟩

set_option maxRecDepth 100000 in
set_option maxHeartbeats 1600000 in
theorem clen_any {F : Nat → Prop} {cb : Nat} {now : Int} {l : List Hp.E} (w : World) (h : ClockAt w cb F now l) :
    Calls Try.prog 13 #[.pointer (some ⟨cb, 0, none⟩)] w fun e w' => e = .returned (.int .i64 l.length) ∧ w = w' := by
  obtain ⟨ao, cap, hc⟩ := h.entries
  clear h
  go_enter Try.func13, Try.ntmps13
  go_wp2_with fail
  refine (qlen_of _ cb _ _ _ hc).mono ?_
  rintro e w1 ⟨rfl, rfl⟩
  go_wp2_with fail
  go_ret
  exact ⟨rfl, rfl⟩

set_option maxRecDepth 100000 in
set_option maxHeartbeats 1600000 in
theorem cnext_none {F : Nat → Prop} {cb : Nat} {now : Int} (w : World) (h : ClockAt w cb F now []) :
    Calls Try.prog 18 #[.pointer (some ⟨cb, 0, none⟩)] w fun e w' => e = .returned (.tuple #[.int .i64 0, .bool false]) ∧ w = w' := by
  obtain ⟨ao, cap, hc⟩ := h.entries
  clear h
  go_enter Try.func18, Try.ntmps18
  go_wp2_with fail
  refine (qlen_of _ cb _ _ _ hc).mono ?_
  rintro e w1 ⟨rfl, rfl⟩
  go_wp2_with fail
  go_ret2
  exact ⟨rfl, rfl⟩

theorem ClockAt.hq {F : Nat → Prop} {w : World} {cb : Nat} {now : Int} {l : List Hp.E} (h : ClockAt w cb F now l) (hl : 0 < l.length) : ∃ eb cap mb D, HQ w cb (.slice (some ⟨eb, 0, none⟩) l.length cap) mb l D ∧ ∀ b, QF cb mb (.slice (some ⟨eb, 0, none⟩) l.length cap) b → F b := by
  rcases h.q with ⟨rfl, _⟩ | ⟨v, mb, D, hq, hf⟩
  · exact absurd hl (by decide)
  · obtain ⟨ao, cap, rfl, hao⟩ := hq.q.slice
    obtain ⟨eb, rfl⟩ := hao hl
    exact ⟨eb, cap, mb, D, hq, hf⟩

set_option maxRecDepth 100000 in
set_option maxHeartbeats 1600000 in
theorem cnext_ok {F : Nat → Prop} {cb : Nat} {now : Int} {l : List Hp.E} (w : World) (h : ClockAt w cb F now l) (hl : 0 < l.length) :
    Calls Try.prog 18 #[.pointer (some ⟨cb, 0, none⟩)] w fun e w' => e = .returned (.tuple #[.int .i64 (Hp.g l 0).1, .bool true]) ∧ w = w' := by
  obtain ⟨eb, cap, mb, D, hq, -⟩ := h.hq hl
  have hc := hq.q.c0
  obtain ⟨p1, -⟩ := hq.q.cells 0 hl
  have p1' : w.cell? ⟨eb, 0, none⟩ = some (.int .i64 (Hp.g l 0).1) := by simpa using p1
  have g0 : ((l.length : Int) == 0) = false := by rw [beq_eq_false_iff_ne]; omega
  have g1 : ¬ ((l.length : Int) = 0) := by omega
  have g2 : (0 : Int) < (l.length : Int) := by omega
  clear h hq p1
  generalize (Hp.g l 0).1 = x at *
  go_enter Try.func18, Try.ntmps18
  go_wp2_with fail
  refine (qlen_of _ cb _ _ _ hc).mono ?_
  rintro e w1 ⟨rfl, rfl⟩
  go_wp2_with fail
  go_ret2
  exact ⟨rfl, rfl⟩
end Go.Proofs.Ytonpbbflloljgaa
