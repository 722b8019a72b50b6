/-
  Texts of one proof, in build order: Halls that are kept beside a room: as long as nobody writes where they lie. | Halls that are kept beside a room: laid anew where another one lay; a law's room, turn by turn. | Plain mathematics: how a room ends. No program. | The walk of the law RoomEnds. | What the listed variable errors.errorType gives the walks. | What the listed variable errors.errorType, listed alone, gives the walks.
-/
import Derived.Test.YtnjdmijcoadidaaGreatDoorR7
import Derived.Test.YtnjdmijcoadidaaGreatDoorTie
import Derived.LaidMore
import Derived.Lib.LaidTab
namespace Go.Proofs.YtnjdmijcoadidaaGreatDoor
open Go.RowKit Go.Maps Pp

/-- What holds, and goes on to hold as long as blocks of F are let be. -/
def Stab (w : World) (F : Nat → Prop) (P : World → Prop) : Prop := P w ∧ ∀ (S : Nat → Prop) w', Keeps S w w' → (∀ b, F b → ¬ S b) → P w'
theorem Stab.keeps {w w' : World} {F S : Nat → Prop} {P : World → Prop} (h : Stab w F P) (hk : Keeps S w w') (hS : ∀ b, F b → ¬ S b) : Stab w' F P :=
 ⟨h.2 S w' hk hS, fun S' w'' hk' hS' => h.2 (fun b => S b ∨ S' b) w'' ((hk.mono fun _ _ e => Or.inl e).trans' (hk'.mono fun _ _ e => e) fun _ _ e => Or.inr e) fun b hb e => e.elim (hS b hb) (hS' b hb)⟩
theorem SeenC.keepsI {w w' : World} {B : Nat} {c : Ch} {v u1 u2 : Value} {S : Nat → Prop} (h : SeenC w B c v u1 u2) (hk : Keeps S w w') (hS : ∀ b, B ≤ b → b < w.heap.size → ¬ S b) : SeenC w' B c v u1 u2 :=
 h.keeps hk (fun b hb => by have h1 := World.ownsRow.lt h.nums b hb; exact hS b h1.1 h1.2) (fun b hb => by have h1 := World.ownsRow.lt h.sends b hb; exact hS b h1.1 h1.2) (fun b hb => by have h1 := World.ownsRow.lt h.recvs b hb; exact hS b h1.1 h1.2)
theorem Looked.keepsI {w w' : World} {B : Nat} {v : Value} {L : List Sn} {S : Nat → Prop} (h : Looked w B v L) (hk : Keeps S w w') (hS : ∀ b, B ≤ b → b < w.heap.size → ¬ S b) : Looked w' B v L :=
 ⟨hk.row h.row fun b hb => by have h1 := World.ownsRow.lt h.row b hb; exact hS b h1.1 h1.2, fun x hx => (h.seen x hx).keepsI hk hS⟩
section
variable {α : Type}
theorem HallSays.keepsI {w w' : World} {B : Nat} {v : Value} {s : Rm.S α} {S : Nat → Prop} (h : HallSays w B v s) (hk : Keeps S w w') (hS : ∀ b, B ≤ b → b < w.heap.size → ¬ S b) : HallSays w' B v s := by
 have hI : ∀ {u : Value} {xs : List Int}, OwnI w B u xs → OwnI w' B u xs := fun hu => hk.row hu fun b hb => by have h1 := World.ownsRow.lt hu b hb; exact hS b h1.1 h1.2
 obtain ⟨vt, vk, vg, vp, vo, e, h1, h2, h3, ⟨ap, kp, e2, L, hL, h4⟩, h5⟩ := h.ex
 exact ⟨vt, vk, vg, vp, vo, e, hI h1, hI h2, hI h3, ⟨ap, kp, e2, L, hL, h4.keepsI hk hS⟩, hI h5⟩
/-- A hall in a block of its own. -/
def HallCells (s : Rm.S α) (hb : Nat) (W : World) : Prop := ∃ arr : Array Value, (∀ j u, arr[j]? = some u → W.cell? ⟨hb, j, none⟩ = some u ∧ W.frozen? ⟨hb, j, none⟩ = false) ∧ ReadH W (.agg arr) s
/-- A hall that was just told, laid into a block. -/
theorem hall_stab {w5 : World} {B : Nat} {arr : Array Value} {s : Rm.S α} (h : HallSays w5 B (.agg arr) s) (hB : B ≤ w5.heap.size) : Stab (w5.alloc (.cells arr 47)) (fun b => B ≤ b ∧ b ≤ w5.heap.size) (HallCells s w5.heap.size) := by
 have hk0 : Keeps (fun _ => False) w5 (w5.alloc (.cells arr 47)) := (Keeps.refl (fun _ => False) w5).alloc _
 have hz : ∀ j, (w5.alloc (.cells arr 47)).frozen? ⟨w5.heap.size, j, none⟩ = false := fun j => by rw [World.frozen?_alloc_at _ _ _ _ rfl]
 refine ⟨⟨arr, fun j u hu => ⟨alloc_cells w5 arr _ j u hu, hz j⟩, (h.keepsI hk0 fun _ _ _ => id).read⟩, fun S w' hk hS => ⟨arr, fun j u hu => ?_, ?_⟩⟩
 ·have hn : ¬ S w5.heap.size := hS _ ⟨hB, Nat.le_refl _⟩
  have h1 := alloc_cells w5 arr 47 j u hu
  refine ⟨hk.cell_of h1 hn, ?_⟩
  rw [hk.frozen (p := ⟨w5.heap.size, j, none⟩) (block_lt_of_cell h1) hn]
  exact hz j
 ·have hk2 : Keeps (fun b => b < w5.heap.size ∧ S b) w5 w' := (hk0.mono fun _ _ e => e.elim).trans' (hk.mono (S' := S) fun _ _ e => e) fun b hb e => ⟨hb, e⟩
  exact (h.keepsI hk2 fun b h1 h2 e => hS b ⟨h1, by omega⟩ e.2).read
theorem wakesV_len (s : Rm.S α) : (wakesV s).length = s.tasks.length := wakesAt_len s _
end
/-- A beginning of numbers. -/
theorem IntsAt.head {w : World} {a : Option Addr} {n cap k : Nat} {l : List Int} (h : IntsAt w (.slice a n cap) l) (hk : k ≤ n) : IntsAt w (.slice a k cap) (l.take k) := by
 obtain ⟨ao, n', cap', e, hn, hc, hm, hx⟩ := h
 injection e with e1 e2 e3
 subst e1 e2 e3
 refine ⟨_, _, _, rfl, by rw [List.length_take]; omega, by omega, hm, fun h0 => ?_⟩
 obtain ⟨b, o, h1, h2, h3⟩ := hx (by omega)
 refine ⟨b, o, h1, h2, fun i hi => ?_⟩
 rw [h3 i (by omega), List.getD_eq_getElem?_getD, List.getD_eq_getElem?_getD, List.getElem?_take, if_pos hi]
end Go.Proofs.YtnjdmijcoadidaaGreatDoor

namespace Go.Proofs.YtnjdmijcoadidaaGreatDoor
open Go.RowKit Go.Maps Pp

section
variable {α : Type} {w0 : World} {C : DoerW α w0}
/-- The cells of a hall. -/
structure HallAt (s : Rm.S α) (hb : Nat) (W : World) (a1 a2 a3 a4 a5 : Option Addr) (k1 k2 k3 k4 k5 : Nat) : Prop where
 c0 : W.cell? ⟨hb, 0, none⟩ = some (.int .i64 s.fin)
 c1 : W.cell? ⟨hb, 1, none⟩ = some (.int .i64 s.now)
 c2 : W.cell? ⟨hb, 2, none⟩ = some (.int .i64 (s.pipes.chs.length : Nat))
 c3 : W.cell? ⟨hb, 3, none⟩ = some (.slice a1 s.tasks.length k1)
 c4 : W.cell? ⟨hb, 4, none⟩ = some (.slice a2 s.tasks.length k2)
 c5 : W.cell? ⟨hb, 5, none⟩ = some (.slice a3 s.globals.length k3)
 c6 : W.cell? ⟨hb, 6, none⟩ = some (.slice a4 s.pipes.chs.length k4)
 c7 : W.cell? ⟨hb, 7, none⟩ = some (.slice a5 s.out.length k5)
 z : ∀ j, j < 8 → W.frozen? ⟨hb, j, none⟩ = false
 tasks : IntsAt W (.slice a1 s.tasks.length k1) s.tasks
 wakes : IntsAt W (.slice a2 s.tasks.length k2) (wakesV s)
 out : IntsAt W (.slice a5 s.out.length k5) s.out
 read : ReadH W (.agg #[.int .i64 s.fin, .int .i64 s.now, .int .i64 (s.pipes.chs.length : Nat), .slice a1 s.tasks.length k1, .slice a2 s.tasks.length k2, .slice a3 s.globals.length k3, .slice a4 s.pipes.chs.length k4, .slice a5 s.out.length k5]) s
theorem HallCells.at {s : Rm.S α} {hb : Nat} {W : World} (h : HallCells s hb W) : ∃ a1 a2 a3 a4 a5 k1 k2 k3 k4 k5, HallAt s hb W a1 a2 a3 a4 a5 k1 k2 k3 k4 k5 := by
 obtain ⟨arr, h1, h2⟩ := h
 have h2' := h2
 obtain ⟨a1, k1, a2, k2, a3, k3, a4, k4, a5, k5, e, g1, g2, g3, g4, g5⟩ := h2.ex
 injection e with e
 subst e
 rw [wakesV_len] at h1 h2' g2
 refine ⟨a1, a2, a3, a4, a5, k1, k2, k3, k4, k5, (h1 0 _ rfl).1, (h1 1 _ rfl).1, (h1 2 _ rfl).1, (h1 3 _ rfl).1, (h1 4 _ rfl).1, (h1 5 _ rfl).1, (h1 6 _ rfl).1, (h1 7 _ rfl).1, fun j hj => ?_, g1, g2, g5, h2'⟩
 match j, hj with
 | 0, _ => exact (h1 0 _ rfl).2
 | 1, _ => exact (h1 1 _ rfl).2
 | 2, _ => exact (h1 2 _ rfl).2
 | 3, _ => exact (h1 3 _ rfl).2
 | 4, _ => exact (h1 4 _ rfl).2
 | 5, _ => exact (h1 5 _ rfl).2
 | 6, _ => exact (h1 6 _ rfl).2
 | 7, _ => exact (h1 7 _ rfl).2
theorem HallCells.below {s : Rm.S α} {hb : Nat} {W W' : World} (h : HallCells s hb W) (hk : Below W.heap.size W W') : HallCells s hb W' := by
 obtain ⟨arr, h1, h2⟩ := h
 refine ⟨arr, fun j u hu => ?_, h2.below hk⟩
 obtain ⟨g1, g2⟩ := h1 j u hu
 have hl := block_lt_of_cell g1
 refine ⟨(hk.cell (p := ⟨hb, j, none⟩) hl).trans g1, ?_⟩
 rw [(Keeps.of_new (S := fun _ => False) hk).frozen (p := ⟨hb, j, none⟩) hl id]
 exact g2
/-- A law's room behind some turns, and a hall that lies beside. -/
structure LoopJ (w : World) (C : DoerW α w) (wr : World) (τ : Nat → RR) (rb i : Nat) (s u : Rm.S α) (hb : Nat) (F : Nat → Prop) : Prop where
 T : RoomT w C wr τ rb i s
 A : Rm.At C.num C.big i s
 H : Stab wr F (HallCells u hb)
 fr : ∀ b, F b → τ b = .free ∧ b < wr.heap.size ∧ w.heap.size ≤ b
 F0 : F hb
theorem LoopJ.new {w wr w' : World} {C : DoerW α w} {τ : Nat → RR} {rb i hb : Nat} {s u : Rm.S α} {F : Nat → Prop} (h : LoopJ w C wr τ rb i s u hb F) (hk : Keeps (fun _ => False) wr w') : LoopJ w C w' τ rb i s u hb F :=
 ⟨h.T.new hk, h.A, h.H.keeps hk fun _ _ => id, fun b hb => ⟨(h.fr b hb).1, Nat.lt_of_lt_of_le (h.fr b hb).2.1 hk.size, (h.fr b hb).2.2⟩, h.F0⟩
theorem LoopJ.turn {w wr : World} {C : DoerW α w} {τ : Nat → RR} {rb i hb : Nat} {s u : Rm.S α} {F : Nat → Prop} (h : LoopJ w C wr τ rb i s u hb F) (hE : ErrT w) (hi : i ≤ 1000) (x y : Int) (hd : -9223372036854775808 ≤ y ∧ y ≤ 9223372036854775807) :
  Calls Tryz.prog 17 #[.pointer (some ⟨rb, 0, none⟩), .agg #[.int .i64 x, .int .i64 y]] wr fun e w' => e = .returned (.bool (decide (Rm.choices s ≠ 0))) ∧ ∃ τ', LoopJ w C w' τ' rb (i + 1) (Rm.turn C.D s x y) u hb F := by
 refine (turn_open h.T h.A hE (by omega) hi x y hd).mono ?_
 rintro e w' ⟨rfl, hg⟩
 obtain ⟨τ', hT, hf⟩ := hg.ex
 exact ⟨rfl, τ', hT, h.A.turn C.bd x y, h.H.keeps hg.keep fun b hb e => e (h.fr b hb).1, fun b hb => ⟨hf b (h.fr b hb).2.1 (h.fr b hb).1, Nat.lt_of_lt_of_le (h.fr b hb).2.1 hg.keep.size, (h.fr b hb).2.2⟩, h.F0⟩
def hallArr (s : Rm.S α) (a1 a2 a3 a4 a5 : Option Addr) (k1 k2 k3 k4 k5 : Nat) : Array Value := #[.int .i64 s.fin, .int .i64 s.now, .int .i64 (s.pipes.chs.length : Nat), .slice a1 s.tasks.length k1, .slice a2 s.tasks.length k2, .slice a3 s.globals.length k3, .slice a4 s.pipes.chs.length k4, .slice a5 s.out.length k5]
/-- What a hall that is told, and laid into a block, leaves. -/
structure Halled (w : World) (C : DoerW α w) (wr w2 : World) (τ : Nat → RR) (rb i : Nat) (s : Rm.S α) (arr : Array Value) : Prop where
 T : RoomT w C (w2.alloc (.cells arr 47)) τ rb i s
 H : Stab (w2.alloc (.cells arr 47)) (fun b => wr.heap.size ≤ b ∧ b ≤ w2.heap.size) (HallCells s w2.heap.size)
 fr : ∀ b, wr.heap.size ≤ b ∧ b ≤ w2.heap.size → τ b = .free ∧ b < (w2.alloc (.cells arr 47)).heap.size ∧ w.heap.size ≤ b
 bel : Below wr.heap.size wr (w2.alloc (.cells arr 47))
 le : wr.heap.size ≤ w2.heap.size
theorem halled_any {w wr : World} {C : DoerW α w} {τ : Nat → RR} {rb i : Nat} {s : Rm.S α} (hT : RoomT w C wr τ rb i s) (hA : Rm.At C.num C.big i s) (hi : i ≤ 1000) :
  Calls Tryz.prog 20 #[.pointer (some ⟨rb, 0, none⟩)] wr fun e w2 => ∃ a1 a2 a3 a4 a5 k1 k2 k3 k4 k5, e = .returned (.agg (hallArr s a1 a2 a3 a4 a5 k1 k2 k3 k4 k5)) ∧ Halled w C wr w2 τ rb i s (hallArr s a1 a2 a3 a4 a5 k1 k2 k3 k4 k5) := by
 refine (hall_open hT hA (by omega) hi).mono ?_
 rintro e w2 ⟨v, rfl, hs, hb⟩
 obtain ⟨a1, k1, a2, k2, a3, k3, a4, k4, a5, k5, rfl, -⟩ := hs.read.ex
 rw [wakesV_len] at hs ⊢
 have hb3 : Below wr.heap.size wr (w2.alloc (.cells (hallArr s a1 a2 a3 a4 a5 k1 k2 k3 k4 k5) 47)) := hb.alloc hb.size _
 refine ⟨a1, a2, a3, a4, a5, k1, k2, k3, k4, k5, rfl, hT.new (Keeps.of_new hb3), hall_stab hs hb.size, fun b h1 => ⟨Classical.byContradiction fun e => ?_, ?_, ?_⟩, hb3, hb.size⟩
 ·have := hT.dom b e; omega
 ·rw [show (w2.alloc (.cells (hallArr s a1 a2 a3 a4 a5 k1 k2 k3 k4 k5) 47)).heap.size = w2.heap.size + 1 by simp]; omega
 ·have := hT.bel.size; omega
end
end Go.Proofs.YtnjdmijcoadidaaGreatDoor

namespace Go.Proofs.YtnjdmijcoadidaaGreatDoor
namespace Rm
open Pp

section
variable {α : Type} {D : Doer α} {s s' : S α} {p : List Int}
theorem resume_st {x : Int} (hx : 0 ≤ x ∧ x.toNat < s.tasks.length) (c n y : Int) : st (resume D s x.toNat c n) y = if y = x then 0 else st s y := by
 have h := st_be (s := s) hx.2 0 y
 rw [Int.toNat_of_nonneg hx.1] at h
 exact h
theorem rise_st : ∀ (l : List Int) {s : S α}, Inv l s → ∀ y, (y ∈ l → st (rise D s l) y = 0) ∧ (st s y = 0 → st (rise D s l) y = 0)
 | [], _, _, _ => ⟨fun h => absurd h List.not_mem_nil, fun h => h⟩
 | x :: l, s, h, y => by
  have hp := h.pend x List.mem_cons_self
  have hx := st_lt (s := s) (x := x) (by omega)
  have h1 := rise_st l (Inv.resume (D := D) h 0 0) y
  have h2 := resume_st (D := D) hx 0 0 y
  refine ⟨fun hy => ?_, fun hy => h1.2 (by rw [h2]; split <;> first | rfl | exact hy)⟩
  rcases List.mem_cons.1 hy with e | e
  ·exact h1.2 (by rw [h2, if_pos e])
  ·exact h1.1 e
structure FinI (s : S α) : Prop where
 going : s.fin = 0 ↔ choices s ≠ 0
 done : s.fin = 1 ↔ s.tasks.getD 0 0 = 3
 stuck : s.fin = 2 → ∀ x ∈ s.tasks, x ≠ 0 ∧ x ≠ 2
theorem choices_fin (h : choices s ≠ 0) : s.fin = 0 := by
 unfold choices at h
 split at h
 ·assumption
 ·exact absurd rfl h
theorem choices_of_ready (hf : s.fin = 0) {t : Nat} (ht : t ∈ ready s) : choices s ≠ 0 := by
 unfold choices
 rw [if_pos hf]
 have := List.length_pos_of_mem ht
 split <;> omega
theorem fin_numberA (hf : s.fin = 0) (t : Nat) (a : Ask) : (numberA s t a).1.fin = 0 ∧ (numberA s t a).2.2 ≠ 1 ∧ (numberA s t a).2.2 ≠ 2 := by
 unfold Rm.numberA
 split
 ·refine ⟨hf, ?_⟩
  unfold lent
  split <;> exact ⟨by simp, by simp⟩
 split
 ·split
  ·exact ⟨hf, by simp, by simp⟩
  split <;> exact ⟨hf, by simp, by simp⟩
 split
 ·split <;> exact ⟨hf, by simp, by simp⟩
 split
 ·split <;> exact ⟨hf, by simp, by simp⟩
 split
 ·split <;> exact ⟨hf, by simp, by simp⟩
 ·exact ⟨hf, by simp, by simp⟩
theorem fin_doA (hf : s.fin = 0) (t : Nat) (a : Ask) (draw : Int) (h1 : a.what ≠ 1) : (doA D s t a draw).fin ≠ 1 ∧ (doA D s t a draw).fin ≠ 2 := by
 have h0 : s.fin ≠ 1 ∧ s.fin ≠ 2 := by omega
 unfold Rm.doA
 rw [if_neg h1]
 split
 ·exact h0
 split
 ·show (if a.n < 3 ∨ 9 < a.n then (10 : Int) else a.n) ≠ 1 ∧ (if a.n < 3 ∨ 9 < a.n then (10 : Int) else a.n) ≠ 2
  split
  ·exact ⟨by decide, by decide⟩
  ·omega
 split
 ·unfold Rm.forkA
  split
  ·exact ⟨by show (9 : Int) ≠ 1; decide, by show (9 : Int) ≠ 2; decide⟩
  ·exact h0
 split
 ·unfold Rm.talkA
  simp only
  split
  ·show (if _ = _ then (5 : Int) else 10) ≠ 1 ∧ (if _ = _ then (5 : Int) else 10) ≠ 2
   split <;> exact ⟨by decide, by decide⟩
  split
  ·exact h0
  ·rw [(resumeEach_alike (D := D) _ _).fin]
   show (Rm.tellTalk _ _ _ _ _).fin ≠ 1 ∧ (Rm.tellTalk _ _ _ _ _).fin ≠ 2
   rw [(tellTalk_same _ _ _ _ _).2.2]
   exact h0
 split
 ·unfold Rm.shutA
  simp only
  split
  ·exact ⟨by show (6 : Int) ≠ 1; decide, by show (6 : Int) ≠ 2; decide⟩
  split
  ·show (if _ = _ then (5 : Int) else 10) ≠ 1 ∧ (if _ = _ then (5 : Int) else 10) ≠ 2
   split <;> exact ⟨by decide, by decide⟩
  ·rw [(resumeEach_alike (D := D) _ _).fin]
   show (Rm.tellEach _ _ _ _).fin ≠ 1 ∧ (Rm.tellEach _ _ _ _).fin ≠ 2
   rw [(tellEach_same _ _).2.2]
   exact h0
 split
 ·unfold Rm.sleepA
  split <;> exact h0
 ·simp only
  obtain ⟨h2, h3⟩ := fin_numberA hf t a
  split
  ·exact h3
  ·show (numberA s t a).1.fin ≠ 1 ∧ (numberA s t a).1.fin ≠ 2
   omega
theorem ended_doA (hi : Inv [] s) (hf : s.fin = 0) (h0 : 0 < s.tasks.length) (hd : s.tasks.getD 0 0 ≠ 3) {num big : α → Nat} (B : Bd D num big) {t : Nat} (ht : st s (t : Int) = 0) (a : Ask) (draw : Int) :
  (doA D s t a draw).fin ≠ 2 ∧ ((doA D s t a draw).fin = 1 ↔ (doA D s t a draw).tasks.getD 0 0 = 3) := by
 by_cases h1 : a.what = 1
 ·have e : doA D s t a draw = Rm.endA s t := by unfold Rm.doA; rw [if_pos h1]
  rw [e]
  have htl := st_in ht
  unfold Rm.endA
  simp only
  by_cases e0 : t = 0
  ·rw [if_pos e0]
   refine ⟨by show (1 : Int) ≠ 2; decide, fun _ => ?_, fun _ => rfl⟩
   show (s.tasks.set t 3).getD 0 0 = 3
   rw [e0, List.getD_eq_getElem?_getD, List.getElem?_set_self (by omega)]; rfl
  ·rw [if_neg e0]
   refine ⟨by show s.fin ≠ 2; omega, fun h => absurd (show s.fin = 1 from h) (by omega), fun h => absurd ?_ hd⟩
   have h' : (s.tasks.set t 3).getD 0 0 = 3 := h
   rw [List.getD_eq_getElem?_getD, List.getElem?_set_ne e0, ← List.getD_eq_getElem?_getD] at h'
   exact h'
 ·obtain ⟨h2, h3⟩ := fin_doA (D := D) hf t a draw h1
  refine ⟨h3, fun h => absurd h h2, fun h => absurd ?_ hd⟩
  have hs := Step.doA (E := fun _ => False) B hi ht a draw fun e => absurd e h1
  have hl := hs.tl
  rcases hs.e4 0 h0 (by rw [getD_in (by omega) 3 0]; exact h) with h5 | h5
  ·rw [getD_in h0 0 3]; exact h5
  ·exact h5.elim
theorem FinI.turn {num big : α → Nat} (B : Bd D num big) (hi : Inv [] s) (h0 : 0 < s.tasks.length) (h : FinI s) (who draw : Int) : FinI (turn D s who draw) := by
 unfold Rm.turn
 split
 ·exact h
 next hc =>
 have hf := choices_fin hc
 have hd : s.tasks.getD 0 0 ≠ 3 := fun e => by have := h.done.2 e; omega
 have hk1 := drawn_lt who (m := choices s) (by omega)
 have hk2 : choices s ≤ (Rm.ready s).length + 1 := by
  unfold choices
  split
  ·split <;> omega
  ·omega
 simp only
 split
 ·next hk =>
  have hclk : 0 < s.clock.length := by
   unfold choices at hk1 hk
   rw [if_pos hf] at hk1 hk
   by_cases e : 0 < s.clock.length
   ·exact e
   ·rw [if_neg e] at hk1 hk; omega
  obtain ⟨e, he, he2⟩ := least_in (s := s) (by intro e; rw [e] at hclk; exact absurd hclk (Nat.lt_irrefl 0))
  obtain ⟨hdue, _⟩ := hi.due
  have hwf : (Rm.wake D s).fin = 0 := (wake_alike s).fin.trans hf
  have hin : e.2 ∈ first s := mem_first.2 ⟨e, he, he2, rfl⟩
  have hst : st (Rm.wake D s) e.2 = 0 := (rise_st (D := D) _ hdue e.2).1 hin
  have hiw := hi.wake (D := D)
  have hlt := st_lt (s := Rm.wake D s) (x := e.2) (by omega)
  have hrd : e.2.toNat ∈ Rm.ready (Rm.wake D s) := (mem_ready hiw).2 (by rw [Int.toNat_of_nonneg hlt.1]; exact hst)
  have hs := Step.wake (E := fun _ => False) B hi
  have hl := hs.tl
  refine ⟨⟨fun _ => choices_of_ready hwf hrd, fun _ => hwf⟩, ⟨fun h => by omega, fun h => absurd ?_ hd⟩, fun h => by omega⟩
  rcases hs.e4 0 h0 (by rw [getD_in (by omega) 3 0]; exact h) with h5 | h5
  ·rw [getD_in h0 0 3]; exact h5
  ·exact h5.elim
 next hk =>
 have h3 := (hi.ready (t := (Rm.ready s).getD (drawn who (choices s)) 0) (by
  rw [List.getD_eq_getElem?_getD, List.getElem?_eq_getElem (by omega)]
  exact List.getElem_mem _)).2
 unfold Rm.stepA
 simp only
 have hi2 := hi.d (D.next s.d ((Rm.ready s).getD (drawn who (choices s)) 0)).1
 have h4 := ended_doA hi2 hf h0 hd B h3 (D.next s.d ((Rm.ready s).getD (drawn who (choices s)) 0)).2 draw
 have hi4 := hi2.doA (D := D) h3 (D.next s.d ((Rm.ready s).getD (drawn who (choices s)) 0)).2 draw
 generalize Rm.doA D { s with d := (D.next s.d ((Rm.ready s).getD (drawn who (choices s)) 0)).1 } ((Rm.ready s).getD (drawn who (choices s)) 0) (D.next s.d ((Rm.ready s).getD (drawn who (choices s)) 0)).2 draw = s1 at *
 split
 ·next he =>
  obtain ⟨e1, e2⟩ := he
  refine ⟨⟨fun h => absurd (show (2 : Int) = 0 from h) (by decide), fun h => absurd (choices_fin h) (by show ¬ (2 : Int) = 0; decide)⟩, ⟨fun h => absurd (show (2 : Int) = 1 from h) (by decide), fun h => absurd (h4.2.2 h) (by omega)⟩, fun _ x hx => ?_⟩
  have hx' : x ∈ s1.tasks := hx
  obtain ⟨i, hil, rfl⟩ := List.mem_iff_getElem.1 hx'
  have hst : st s1 (i : Int) = s1.tasks[i] := by rw [st_nat, List.getD_eq_getElem?_getD, List.getElem?_eq_getElem hil]; rfl
  unfold choices at e2
  rw [if_pos e1] at e2
  refine ⟨fun e => ?_, fun e => ?_⟩
  ·have h5 := List.length_pos_of_mem ((mem_ready hi4).2 (hst.trans e))
   split at e2 <;> omega
  ·have h5 := (hi4.clk (i : Int)).2 ⟨hst.trans e, List.not_mem_nil⟩
   have h6 := List.length_pos_of_mem h5
   rw [List.length_map] at h6
   rw [if_pos h6] at e2
   omega
 ·next he =>
  exact ⟨⟨fun h e => he ⟨h, e⟩, choices_fin⟩, h4.2, fun h => absurd h h4.1⟩
theorem FinI.start (g : Nat) (d : α) : FinI (start D g d) := ⟨⟨fun _ => by show ¬ (1 + 0 : Nat) = 0; decide, fun _ => rfl⟩, ⟨fun h => absurd (show (0 : Int) = 1 from h) (by decide), fun h => absurd (show (0 : Int) = 3 from h) (by decide)⟩, fun h => absurd (show (0 : Int) = 2 from h) (by decide)⟩
end
end Rm
end Go.Proofs.YtnjdmijcoadidaaGreatDoor

namespace Go.Proofs.YtnjdmijcoadidaaGreatDoor
open Go.RowKit Go.Maps Pp

set_option maxRecDepth 100000 in
set_option maxHeartbeats 3200000 in
theorem indexI_no {w : World} {v : Value} {l : List Int} {x : Int} (h : IntsAt w v l) (hx : x ∉ l) (hl : l.length ≤ 1000000) :
  Calls Tryz.prog 65 #[v, .int .i64 x] w fun e w' => e = .returned (.int .i64 (-1)) ∧ w = w' := by
 obtain ⟨ao, n, cap, rfl, hn, hnc, hcm, hc⟩ := h
 have HX := Lib.hid hx
 have HC := Lib.hid hc
 have HN := Lib.hid hn
 unfold maxLen at hcm
 have hnl : n ≤ 1000000 := by omega
 clear hx hc hn hl
 go_enter Tryz.func65, Tryz.ntmps65
 go_wp2_with fail
 go_loopw [8] (fun i wr => ∃ k : Nat, k ≤ n ∧ i = .int .i64 k ∧ wr = w) (fun i _ => n - (intOf i).toNat)
 case atStart => exact ⟨0, Nat.zero_le _, rfl, rfl⟩
 case round =>
  obtain ⟨k, hk, rfl, rfl⟩ := hrel
  by_cases hkn : k < n
  ·obtain ⟨b, o, rfl, hbl, hcell⟩ := HC.out (by omega)
   have c := hcell k hkn
   obtain ⟨y, hy⟩ : ∃ y, y = l.getD k 0 := ⟨_, rfl⟩
   rw [← hy] at c
   have hyl : y ∈ l := by
    have hkl : k < l.length := by rw [← HN.out]; exact hkn
    rw [hy, List.getD_eq_getElem?_getD, List.getElem?_eq_getElem hkl]
    exact List.getElem_mem hkl
   have hxy : (x == y) = false := by rw [beq_eq_false_iff_ne]; intro e; rw [e] at HX; exact HX.out hyl
   have hii : (0 : Int) ≤ (k : Int) ∧ (k : Int) < (n : Int) := by omega
   clear hcell hbl hy hyl
   go_wp2_with fail
   go_roundw
   case rel => exact ⟨k + 1, by omega, by go_num, by first | rfl | trivial⟩
   case measure => simp [intOf]; omega
  ·obtain rfl : k = n := by omega
   have hkk : ¬ (k : Int) < (k : Int) := by omega
   go_wp2_with fail
   go_ret
   exact ⟨rfl, rfl⟩
theorem containsI_no {w : World} {v : Value} {l : List Int} {x : Int} (h : IntsAt w v l) (hx : x ∉ l) (hl : l.length ≤ 1000000) :
  Calls Tryz.prog 32 #[v, .int .i64 x] w fun e w' => e = .returned (.bool false) ∧ w = w' := by
 have HI := Lib.hid (indexI_no h hx hl)
 clear h hx hl
 go_enter Tryz.func32, Tryz.ntmps32
 go_wp2_with fail
 refine HI.out.mono ?_
 rintro e w' ⟨rfl, rfl⟩
 go_wp2_with fail
 go_ret
 exact ⟨rfl, rfl⟩
theorem HallAt.below {α : Type} {s : Rm.S α} {hb : Nat} {W W' : World} {a1 a2 a3 a4 a5 : Option Addr} {k1 k2 k3 k4 k5 : Nat} (h : HallAt s hb W a1 a2 a3 a4 a5 k1 k2 k3 k4 k5) (hk : Below W.heap.size W W') : HallAt s hb W' a1 a2 a3 a4 a5 k1 k2 k3 k4 k5 := by
 have hl := block_lt_of_cell h.c0
 have hc : ∀ {j : Nat} {u : Value}, W.cell? ⟨hb, j, none⟩ = some u → W'.cell? ⟨hb, j, none⟩ = some u := fun {j u} hj => (hk.cell (p := ⟨hb, j, none⟩) hl).trans hj
 refine ⟨hc h.c0, hc h.c1, hc h.c2, hc h.c3, hc h.c4, hc h.c5, hc h.c6, hc h.c7, fun j hj => ?_, h.tasks.below hk, h.wakes.below hk, h.out.below hk, h.read.below hk⟩
 rw [(Keeps.of_new (S := fun _ => False) hk).frozen (p := ⟨hb, j, none⟩) hl id]
 exact h.z j hj
set_option maxRecDepth 100000 in
set_option maxHeartbeats 12800000 in
theorem roomEnds_any (v1 : Value) (Sc : List (List Rm.Ask)) (g : Int) (v3 : Value) (pl : List (Int × Int)) (w : World) (h1 : ScRaw w v1 Sc) (_g0 : -9223372036854775808 ≤ g) (_g1 : g ≤ 9223372036854775807) (h3 : PicksAt w v3 pl ∧ PicksWf pl) (hE : ErrT w) :
  Calls Tryz.prog 6 #[v1, .int .i64 g, v3] w fun e w' => e = .returned (.bool true) ∧ Below w.heap.size w w' := by
 have H1 := Lib.hid h1
 have H3 := Lib.hid h3
 have HE := Lib.hid hE
 obtain ⟨⟨po, pcap, rfl, hpc, hpm, -⟩, -⟩ := h3
 obtain ⟨n, hn⟩ : ∃ n, n = pl.length := ⟨_, rfl⟩
 have HN := Lib.hid hn
 rw [← hn] at hpc H3 ⊢
 unfold maxLen at hpm
 clear h1 hE hn
 go_enter Tryz.func6, Tryz.ntmps6
 go_wp2_with fail
 refine (roomed_any w HE.out).mono ?_
 rintro e w1 ⟨rfl, hb1⟩
 have HB1 := Lib.hid hb1
 clear hb1
 go_wp2_with fail
 refine (opened_any HB1.out H1.out H3.out.1 g).mono ?_
 rintro e w2 ho
 cases ho with
 | none he hb =>
  have HB := Lib.hid (HB1.out.trans (hb.mono HB1.out.size))
  subst he
  clear hb
  go_wp2_with fail
  go_ret
  exact ⟨rfl, HB.out⟩
 | some C rb τ hD he hT hA hb hf h6 hp =>
  subst he
  have HPL : Hid (n ≤ 80) := Lib.hid (by rw [HN.out]; exact hp)
  have hn80 : n ≤ 80 := HPL.out
  have HF0 : Hid (Rm.FinI (Rm.start (pyDoer Sc) (pickN g 9) py0)) := Lib.hid (Rm.FinI.start _ _)
  generalize Rm.start (pyDoer Sc) (pickN g 9) py0 = s0 at *
  have HA0 := Lib.hid hA
  have HT0 := Lib.hid hT
  clear hp hT hA hb hf h6 hD
  go_wp2_with fail
  go_loopw [8] (fun iv wr => ∃ (i : Nat) (τ' : Nat → RR) (s : Rm.S Py), i ≤ n ∧ iv = .int .i64 i ∧ RoomT w C wr τ' rb i s ∧ Rm.At C.num C.big i s ∧ Rm.FinI s) (fun iv _ => n - (intOf iv).toNat)
  case atStart => exact ⟨0, τ, s0, Nat.zero_le _, rfl, HT0.out, HA0.out, HF0.out⟩
  case round =>
   obtain ⟨i, τ', s, hi, rfl, hT, hA, hF⟩ := hrel
   rename World => wr
   have HT := Lib.hid hT
   have HA := Lib.hid hA
   have HF := Lib.hid hF
   clear HA0 HT0 HF0
   by_cases hin : i < n
   ·have HC := Lib.hid (halled_any hT hA (by omega))
    clear hT hA hF
    go_wp2_with fail
    refine HC.out.mono ?_
    rintro e w3 ⟨a1, a2, a3, a4, a5, k1, k2, k3, k4, k5, rfl, hh⟩
    have HJ : Hid (LoopJ w C (w3.alloc (.cells (hallArr s a1 a2 a3 a4 a5 k1 k2 k3 k4 k5) 47)) τ' rb i s s w3.heap.size (fun b => wr.heap.size ≤ b ∧ b ≤ w3.heap.size)) := Lib.hid ⟨hh.T, HA.out, hh.H, hh.fr, hh.le, Nat.le_refl _⟩
    clear hh HC
    unfold hallArr at HJ ⊢
    go_upto_region 10 with fail
    generalize w3.alloc (.cells #[.int .i64 s.fin, .int .i64 s.now, .int .i64 (s.pipes.chs.length : Nat), .slice a1 s.tasks.length k1, .slice a2 s.tasks.length k2, .slice a3 s.globals.length k3, .slice a4 s.pipes.chs.length k4, .slice a5 s.out.length k5] 47) = w4 at *
    generalize hFe : (fun b => wr.heap.size ≤ b ∧ b ≤ w3.heap.size) = F at *
    clear hFe
    generalize w3.heap.size = hb at *
    obtain ⟨⟨x, y⟩, hx⟩ : ∃ x, pl[i]? = some x := ⟨_, List.getElem?_eq_getElem (by rw [← HN.out]; exact hin)⟩
    have hyb := (H3.out.2 _ (List.mem_of_getElem? hx)).2
    have HPK : Hid (∃ gp go, po = some ⟨gp, go, none⟩ ∧ ∀ V, Below w.heap.size w V → V.cell? ⟨gp, go + i * 2, none⟩ = some (.int .i64 x) ∧ V.cell? ⟨gp, go + i * 2 + 1, none⟩ = some (.int .i64 y)) := Lib.hid (by
     obtain ⟨po', pcap', e, -, -, hcell⟩ := H3.out.1
     obtain ⟨gp, go, e2, hl, hcell⟩ := hcell (by rw [← HN.out]; omega)
     obtain ⟨p0, p1⟩ := hcell i _ hx
     injection e with e3 e4 e5
     exact ⟨gp, go, by rw [e3, e2], fun V hV => ⟨(hV.cell (p := ⟨gp, _, none⟩) hl).trans p0, (hV.cell (p := ⟨gp, _, none⟩) hl).trans p1⟩⟩)
    obtain ⟨gp, go, hpo, hpk⟩ := HPK.out
    subst hpo
    have HPV := Lib.hid hpk
    have hii : (0 : Int) ≤ (i : Int) ∧ (i : Int) < (n : Int) := by omega
    obtain ⟨s', hs'⟩ : ∃ s', s' = Rm.turn C.D s x y := ⟨_, rfl⟩
    have HCT : Hid (∀ V, Below w4.heap.size w4 V → Calls Tryz.prog 17 #[.pointer (some ⟨rb, 0, none⟩), .agg #[.int .i64 x, .int .i64 y]] V fun e w' => e = .returned (.bool (decide (Rm.choices s ≠ 0))) ∧ ∃ τ', LoopJ w C w' τ' rb (i + 1) s' s hb F) := Lib.hid fun V hV => by
     rw [hs']
     exact (HJ.out.new (Keeps.of_new hV)).turn HE.out (by omega) x y hyb
    have HPD : Hid (∀ V τ9 j9 s9, LoopJ w C V τ9 rb j9 s9 s hb F → V.cell? ⟨hb, 0, none⟩ = some (.int .i64 s.fin) ∧ V.cell? ⟨gp, go + i * 2, none⟩ = some (.int .i64 x) ∧ V.cell? ⟨gp, go + i * 2 + 1, none⟩ = some (.int .i64 y)) := Lib.hid fun V τ9 j9 s9 hJ9 => by
     obtain ⟨_, _, _, _, _, _, _, _, _, _, g9⟩ := hJ9.H.1.at
     exact ⟨g9.c0, HPV.out V hJ9.T.bel⟩
    have HPE : Hid (∀ V, Below w4.heap.size w4 V → V.cell? ⟨hb, 0, none⟩ = some (.int .i64 s.fin) ∧ V.cell? ⟨gp, go + i * 2, none⟩ = some (.int .i64 x) ∧ V.cell? ⟨gp, go + i * 2 + 1, none⟩ = some (.int .i64 y)) := Lib.hid fun V hV => HPD.out _ _ _ _ (HJ.out.new (Keeps.of_new hV))
    have hb0 : Below w4.heap.size w4 w4 := Below.refl _ _
    obtain ⟨c0, p0, p1⟩ := HPE.out _ hb0
    have HSX := Lib.hid hs'
    obtain ⟨ch, hch⟩ : ∃ ch, ch = Rm.choices s := ⟨_, rfl⟩
    have HCH := Lib.hid hch
    have hfc : ((!decide (ch = 0)) == (s.fin == 0)) = true := by
     rw [hch]
     have h9 := HF.out.going
     by_cases e : s.fin = 0
     ·have := h9.1 e; simp [e, this]
     ·have : Rm.choices s = 0 := Classical.byContradiction fun h8 => e (h9.2 h8)
      simp [e, this]
    rw [← hch] at HCT
    clear hpk hx hyb hs' hch
    go_region_held3 (fun V : World => V.cell? ⟨hb, 0, none⟩ = some (.int .i64 s.fin) ∧ V.cell? ⟨gp, go + i * 2, none⟩ = some (.int .i64 x) ∧ V.cell? ⟨gp, go + i * 2 + 1, none⟩ = some (.int .i64 y)) (first | exact HPE.out _ (by assumption) | exact HPE.out _ (Below.drew (by assumption)) | exact HPD.out _ _ _ _ (by assumption) | (simp only [World.cell?_drew]; exact HPD.out _ _ _ _ (by assumption)))
     ((first
      | (go_at_call 17; refine (HCT.out _ ?_).mono ?_; (first | assumption | exact Below.drew (by assumption)); rintro e w5 ⟨rfl, τ5, hJ5⟩)))
    have HJ5 := Lib.hid hJ5
    clear c0 p0 p1 HPE HPD HCT hJ5 hb0
    go_wp2_with fail
    have HC := Lib.hid (halled_any HJ5.out.T HJ5.out.A (by omega))
    clear hfc
    refine HC.out.mono ?_
    rintro e w6 ⟨a1, a2, a3, a4, a5, k1, k2, k3, k4, k5, rfl, hh⟩
    have HH := Lib.hid hh
    clear hh HC
    unfold hallArr at HH ⊢
    go_upto_region 13 with fail
    generalize hw7 : w6.alloc (.cells #[.int .i64 s'.fin, .int .i64 s'.now, .int .i64 (s'.pipes.chs.length : Nat), .slice a1 s'.tasks.length k1, .slice a2 s'.tasks.length k2, .slice a3 s'.globals.length k3, .slice a4 s'.pipes.chs.length k4, .slice a5 s'.out.length k5] 47) = w7 at *
    have HT7 : Hid (RoomT w C w7 τ5 rb (i + 1) s') := Lib.hid (by have h9 := HH.out.T; rw [hw7] at h9; exact h9)
    have HH7 : Hid (Stab w7 (fun b => w5.heap.size ≤ b ∧ b ≤ w6.heap.size) (HallCells s' w6.heap.size)) := Lib.hid (by have h9 := HH.out.H; rw [hw7] at h9; exact h9)
    have hbel7 : Below w5.heap.size w5 w7 := by have h9 := HH.out.bel; rw [hw7] at h9; exact h9
    have HJ7 := Lib.hid (HJ5.out.new (Keeps.of_new hbel7))
    clear hw7 HH hbel7 HJ5
    generalize hhb2 : w6.heap.size = hb2 at *
    clear hhb2
    obtain ⟨b1, b2, b3, b4, b5, l1, l2, l3, l4, l5, g1⟩ := HJ7.out.H.1.at
    obtain ⟨c1, c2, c3, c4, c5, m1, m2, m3, m4, m5, g2⟩ := HH7.out.1.at
    have HBV : Hid (∀ V, Below w7.heap.size w7 V → RoomT w C V τ5 rb (i + 1) s') := Lib.hid fun V hV => HT7.out.new (Keeps.of_new hV)
    have hF' : Rm.FinI s' := by rw [HSX.out]; exact Rm.FinI.turn C.bd HA.out.inv HA.out.one HF.out x y
    have HF' := Lib.hid hF'
    have HCHO : Hid (∀ V, Below w7.heap.size w7 V → Calls Tryz.prog 15 #[.pointer (some ⟨rb, 0, none⟩)] V fun e w' => e = .returned (.int .i64 (Rm.choices s' : Nat)) ∧ Below w7.heap.size w7 w') := Lib.hid fun V hV =>
     (choices_open (HBV.out V hV) HJ7.out.A (by omega)).mono fun e w' ⟨h8, h9⟩ => ⟨h8, hV.trans (h9.mono hV.size)⟩
    have HX : Hid (∀ V, Below w7.heap.size w7 V → HallAt s hb V b1 b2 b3 b4 b5 l1 l2 l3 l4 l5 ∧ HallAt s' hb2 V c1 c2 c3 c4 c5 m1 m2 m3 m4 m5) := Lib.hid fun V hV => ⟨g1.below hV, g2.below hV⟩
    have HONE : Hid (0 < s'.tasks.length ∧ s'.tasks.length ≤ 100000) := Lib.hid ⟨HJ7.out.A.one, by have := HJ7.out.A.tasks; omega⟩
    have hb7 : Below w7.heap.size w7 w7 := Below.refl _ _
    have hsame : s.fin ≠ 0 → s' = s := fun e => by
     rw [HSX.out]
     exact if_pos (Classical.byContradiction fun h9 => e (HF.out.going.2 h9))
    clear g1 g2 hF'
    obtain ⟨cc, hcc⟩ : ∃ cc, cc = Rm.choices s' := ⟨_, rfl⟩
    rw [← hcc] at HCHO
    by_cases hf0 : s.fin = 0
    ·obtain ⟨f', hf'⟩ : ∃ f', f' = s'.fin := ⟨_, rfl⟩
     by_cases hg0 : f' = 0
     ·have HFE : Hid (s'.fin = 0) := Lib.hid (hf'.symm.trans hg0)
      have hc9 : cc ≠ 0 := by rw [hcc]; exact HF'.out.going.1 HFE.out
      have tc : decide (0 < (cc : Int)) = true := decide_eq_true (by omega)
      have tc1 : (0 : Int) < (cc : Int) := by omega
      have tc2 : 0 < cc := by omega
      subst hg0
      have HXA : Hid (∀ V, Below w7.heap.size w7 V → V.cell? ⟨hb, 0, none⟩ = some (.int .i64 0) ∧ V.cell? ⟨hb2, 0, none⟩ = some (.int .i64 0)) := Lib.hid fun V hV => by
       obtain ⟨g8, g9⟩ := HX.out V hV
       exact ⟨by rw [← hf0]; exact g8.c0, by rw [← HFE.out]; exact g9.c0⟩
      clear hf0 hf' hcc hsame
      obtain ⟨q0, r0⟩ := HXA.out _ hb7
      refine wp_region_held_drew (S := (fun W : World => W.cell? ⟨hb, 0, none⟩ = some (.int .i64 0) ∧ W.cell? ⟨hb2, 0, none⟩ = some (.int .i64 0))) (by kernel_rfl) ⟨by simp only [World.cell?_drew]; assumption, by simp only [World.cell?_drew]; assumption⟩ (fun hHeld => ?_)
      refine wpAnyH_take (i := 0) (oi := ⟨some 39, _, _, _, _, _⟩) (v := .pointer (some ⟨hb, 0, none⟩)) rfl (by kernel_rfl) (by kernel_rfl) (by kernel_rfl) (fun _ _ _ h => h) (Or.inl ⟨by rfl, ?_⟩) hHeld ?_
      ·intro W9 hSW
       (try dsimp only at hSW)
       go_simp
      try simp only [Act.put, List.setIfInBounds_toArray, List.set_cons_zero, List.set_cons_succ]
      refine wpAnyH_take (i := 1) (oi := ⟨some 40, _, _, _, _, _⟩) (v := .int .i64 0) rfl (by kernel_rfl) (by kernel_rfl) (by kernel_rfl) (fun _ _ _ h => h) (Or.inl ⟨by rfl, ?_⟩) hHeld ?_
      ·intro W9 hSW
       (try dsimp only at hSW)
       go_simp
      try simp only [Act.put, List.setIfInBounds_toArray, List.set_cons_zero, List.set_cons_succ]
      refine wpAnyH_take (i := 2) (oi := ⟨some 41, _, _, _, _, _⟩) (v := .bool false) rfl (by kernel_rfl) (by kernel_rfl) (by kernel_rfl) (fun _ _ _ h => h) (Or.inl ⟨by rfl, ?_⟩) hHeld ?_
      ·intro W9 hSW
       (try dsimp only at hSW)
       go_simp
      try simp only [Act.put, List.setIfInBounds_toArray, List.set_cons_zero, List.set_cons_succ]
      refine wpAnyH_take (i := 3) (oi := ⟨some 42, _, _, _, _, _⟩) (v := .bool false) rfl (by kernel_rfl) (by kernel_rfl) (by kernel_rfl) (fun _ _ _ h => h) (Or.inl ⟨by rfl, ?_⟩) hHeld ?_
      ·intro W9 hSW
       (try dsimp only at hSW)
       go_simp
      try simp only [Act.put, List.setIfInBounds_toArray, List.set_cons_zero, List.set_cons_succ]
      refine wpAnyH_take (i := 4) (oi := ⟨some 43, _, _, _, _, _⟩) (v := undef) rfl (by kernel_rfl) (by kernel_rfl) (by kernel_rfl) (fun _ _ _ h => h) (Or.inr ⟨by rfl, rfl⟩) hHeld ?_
      try simp only [Act.put, List.setIfInBounds_toArray, List.set_cons_zero, List.set_cons_succ]
      refine wpAnyH_take (i := 5) (oi := ⟨some 44, _, _, _, _, _⟩) (v := undef) rfl (by kernel_rfl) (by kernel_rfl) (by kernel_rfl) (fun _ _ _ h => h) (Or.inr ⟨by rfl, rfl⟩) hHeld ?_
      try simp only [Act.put, List.setIfInBounds_toArray, List.set_cons_zero, List.set_cons_succ]
      refine wpAnyH_take (i := 6) (oi := ⟨some 45, _, _, _, _, _⟩) (v := undef) rfl (by kernel_rfl) (by kernel_rfl) (by kernel_rfl) (fun _ _ _ h => h) (Or.inr ⟨by rfl, rfl⟩) hHeld ?_
      try simp only [Act.put, List.setIfInBounds_toArray, List.set_cons_zero, List.set_cons_succ]
      refine wpAnyH_take (i := 7) (oi := ⟨some 46, _, _, _, _, _⟩) (v := undef) rfl (by kernel_rfl) (by kernel_rfl) (by kernel_rfl) (fun _ _ _ h => h) (Or.inr ⟨by rfl, rfl⟩) hHeld ?_
      try simp only [Act.put, List.setIfInBounds_toArray, List.set_cons_zero, List.set_cons_succ]
      refine wpAnyH_take (i := 8) (oi := ⟨some 47, _, _, _, _, _⟩) (v := .bool false) rfl (by kernel_rfl) (by kernel_rfl) (by kernel_rfl) (fun _ _ _ h => h) (Or.inl ⟨by rfl, ?_⟩) hHeld ?_
      ·intro W9 hSW
       (try dsimp only at hSW)
       go_simp
      try simp only [Act.put, List.setIfInBounds_toArray, List.set_cons_zero, List.set_cons_succ]
      refine wpAnyH_take (i := 9) (oi := ⟨some 48, _, _, _, _, _⟩) (v := .bool false) rfl (by kernel_rfl) (by kernel_rfl) (by kernel_rfl) (fun _ _ _ h => h) (Or.inl ⟨by rfl, ?_⟩) hHeld ?_
      ·intro W9 hSW
       (try dsimp only at hSW)
       go_simp
      try simp only [Act.put, List.setIfInBounds_toArray, List.set_cons_zero, List.set_cons_succ]
      refine wpAnyH_take (i := 10) (oi := ⟨some 49, _, _, _, _, _⟩) (v := .pointer (some ⟨hb2, 0, none⟩)) rfl (by kernel_rfl) (by kernel_rfl) (by kernel_rfl) (fun _ _ _ h => h) (Or.inl ⟨by rfl, ?_⟩) hHeld ?_
      ·intro W9 hSW
       (try dsimp only at hSW)
       go_simp
      try simp only [Act.put, List.setIfInBounds_toArray, List.set_cons_zero, List.set_cons_succ]
      refine wpAnyH_take (i := 11) (oi := ⟨some 50, _, _, _, _, _⟩) (v := .int .i64 0) rfl (by kernel_rfl) (by kernel_rfl) (by kernel_rfl) (fun _ _ _ h => h) (Or.inl ⟨by rfl, ?_⟩) hHeld ?_
      ·intro W9 hSW
       (try dsimp only at hSW)
       go_simp
      try simp only [Act.put, List.setIfInBounds_toArray, List.set_cons_zero, List.set_cons_succ]
      refine wpAnyH_take (i := 12) (oi := ⟨some 51, _, _, _, _, _⟩) (v := .bool true) rfl (by kernel_rfl) (by kernel_rfl) (by kernel_rfl) (fun _ _ _ h => h) (Or.inl ⟨by rfl, ?_⟩) hHeld ?_
      ·intro W9 hSW
       (try dsimp only at hSW)
       go_simp
      try simp only [Act.put, List.setIfInBounds_toArray, List.set_cons_zero, List.set_cons_succ]
      refine wpAnyH_take (i := 13) (oi := ⟨some 52, _, _, _, _, _⟩) (v := .pointer (some ⟨rb, 0, none⟩)) rfl (by kernel_rfl) (by kernel_rfl) (by kernel_rfl) (fun _ _ _ h => h) (Or.inl ⟨by rfl, ?_⟩) hHeld ?_
      ·intro W9 hSW
       (try dsimp only at hSW)
       go_simp
      try simp only [Act.put, List.setIfInBounds_toArray, List.set_cons_zero, List.set_cons_succ]
      refine wpAnyH_ready (rs := [14]) (by kernel_rfl) (by simp) ?_
      refine AllReadyH.cons (o := { dst := some 53, op := _, type := _, pos := _, after := _, guard := _ }) rfl (fun K hK => ?_) AllReadyH.nil
      go_simp
      refine (HCHO.out _ (Below.drew hb7)).mono ?_
      rintro e w9 ⟨rfl, hv9⟩
      have hS9 := HXA.out _ hv9
      refine hK.out _ _ hS9 (fun hHeld => ?_)
      clear hK K
      refine wpAnyH_take (i := 15) (oi := ⟨some 54, _, _, _, _, _⟩) (v := .bool true) rfl (by kernel_rfl) (by kernel_rfl) (by kernel_rfl) (fun _ _ _ h => h) (Or.inl ⟨by rfl, ?_⟩) hHeld ?_
      ·intro W9 hSW
       (try dsimp only at hSW)
       go_simp
      try simp only [Act.put, List.setIfInBounds_toArray, List.set_cons_zero, List.set_cons_succ]
      refine wpAnyH_take (i := 16) (oi := ⟨some 55, _, _, _, _, _⟩) (v := .bool false) rfl (by kernel_rfl) (by kernel_rfl) (by kernel_rfl) (fun _ _ _ h => h) (Or.inl ⟨by rfl, ?_⟩) hHeld ?_
      ·intro W9 hSW
       (try dsimp only at hSW)
       go_simp
      try simp only [Act.put, List.setIfInBounds_toArray, List.set_cons_zero, List.set_cons_succ]
      refine wpAnyH_take (i := 17) (oi := ⟨some 56, _, _, _, _, _⟩) (v := .bool false) rfl (by kernel_rfl) (by kernel_rfl) (by kernel_rfl) (fun _ _ _ h => h) (Or.inl ⟨by rfl, ?_⟩) hHeld ?_
      ·intro W9 hSW
       (try dsimp only at hSW)
       go_simp
      try simp only [Act.put, List.setIfInBounds_toArray, List.set_cons_zero, List.set_cons_succ]
      refine wpAnyH_done (by kernel_rfl) ?_ _
      have HV9 := Lib.hid hv9
      clear q0 r0 hv9 hb7 hS9
      obtain ⟨d1, d2, d3, d4, d5, e1, e2, e3, e4, e5, gg⟩ : ∃ d1 d2 d3 d4 d5 e1 e2 e3 e4 e5, HallAt s' hb2 w9 d1 d2 d3 d4 d5 e1 e2 e3 e4 e5 := ⟨_, _, _, _, _, _, _, _, _, _, (HX.out w9 HV9.out).2⟩
      have r0 := gg.c0
      have r3 := gg.c3
      rw [HFE.out] at r0
      obtain ⟨T', hT'⟩ : ∃ z, z = s'.tasks.length := ⟨_, rfl⟩
      have HT' := Lib.hid hT'
      have hT1 : 0 < T' := by rw [hT']; exact HONE.out.1
      have hT2 : T' ≤ 100000 := by rw [hT']; exact HONE.out.2
      rw [← hT'] at r3
      have tz : ((T' : Int) == 0) = false := by rw [beq_eq_false_iff_ne]; omega
      have tz2 : ¬ (T' : Int) = 0 := by omega
      have ti : (0 : Int) ≤ 0 ∧ (0 : Int) < (T' : Int) := by omega
      obtain ⟨y0, hy0⟩ : ∃ z, z = s'.tasks.getD 0 0 := ⟨_, rfl⟩
      obtain ⟨_, _, _, ea, ena, -, -, hcb⟩ := gg.tasks
      obtain ⟨ga, go4, eb, -, hca⟩ := hcb (by rw [ena, ← hT']; exact hT1)
      have u2 : w9.cell? ⟨ga, go4, none⟩ = some (.int .i64 (s'.tasks.getD 0 0)) := hca 0 (by rw [ena, ← hT']; exact hT1)
      injection ea with ea eaa eab
      rw [eb] at ea
      clear eaa eab
      rw [← hy0] at u2
      have hdone := HF'.out.done
      rw [HFE.out, ← hy0] at hdone
      have hy3 : (y0 == 3) = false := by rw [beq_eq_false_iff_ne]; intro e; have := hdone.2 e; omega
      clear hca hcb hy0 eb ena gg hdone hT'
      subst ea
      go_upto_region 15 with fail
      go_quiet (fail)
      go_wp2_with fail
      go_roundw
      case rel => exact ⟨i + 1, τ5, s', by omega, by go_num, (HBV.out w9 HV9.out).new (Keeps.of_new (below_drewN w9 nq)), HJ7.out.A, HF'.out⟩
      case measure => simp [intOf]; omega
     by_cases hg1 : f' = 1
     ·have HFE : Hid (s'.fin = 1) := Lib.hid (hf'.symm.trans hg1)
      have hc9 : cc = 0 := by rw [hcc]; exact Classical.byContradiction fun h9 => hg0 (hf'.trans (HF'.out.going.2 h9))
      subst hg1
      have hcz : ((cc : Nat) : Int) = 0 := by omega
      subst hc9
      have HXA : Hid (∀ V, Below w7.heap.size w7 V → V.cell? ⟨hb, 0, none⟩ = some (.int .i64 0) ∧ V.cell? ⟨hb2, 0, none⟩ = some (.int .i64 1)) := Lib.hid fun V hV => by
       obtain ⟨g8, g9⟩ := HX.out V hV
       exact ⟨by rw [← hf0]; exact g8.c0, by rw [← HFE.out]; exact g9.c0⟩
      clear hf0 hf' hcc hsame
      obtain ⟨q0, r0⟩ := HXA.out _ hb7
      refine wp_region_held_drew (S := (fun W : World => W.cell? ⟨hb, 0, none⟩ = some (.int .i64 0) ∧ W.cell? ⟨hb2, 0, none⟩ = some (.int .i64 1))) (by kernel_rfl) ⟨by simp only [World.cell?_drew]; assumption, by simp only [World.cell?_drew]; assumption⟩ (fun hHeld => ?_)
      refine wpAnyH_take (i := 0) (oi := ⟨some 39, _, _, _, _, _⟩) (v := .pointer (some ⟨hb, 0, none⟩)) rfl (by kernel_rfl) (by kernel_rfl) (by kernel_rfl) (fun _ _ _ h => h) (Or.inl ⟨by rfl, ?_⟩) hHeld ?_
      ·intro W9 hSW
       (try dsimp only at hSW)
       go_simp
      try simp only [Act.put, List.setIfInBounds_toArray, List.set_cons_zero, List.set_cons_succ]
      refine wpAnyH_take (i := 1) (oi := ⟨some 40, _, _, _, _, _⟩) (v := .int .i64 0) rfl (by kernel_rfl) (by kernel_rfl) (by kernel_rfl) (fun _ _ _ h => h) (Or.inl ⟨by rfl, ?_⟩) hHeld ?_
      ·intro W9 hSW
       (try dsimp only at hSW)
       go_simp
      try simp only [Act.put, List.setIfInBounds_toArray, List.set_cons_zero, List.set_cons_succ]
      refine wpAnyH_take (i := 2) (oi := ⟨some 41, _, _, _, _, _⟩) (v := .bool false) rfl (by kernel_rfl) (by kernel_rfl) (by kernel_rfl) (fun _ _ _ h => h) (Or.inl ⟨by rfl, ?_⟩) hHeld ?_
      ·intro W9 hSW
       (try dsimp only at hSW)
       go_simp
      try simp only [Act.put, List.setIfInBounds_toArray, List.set_cons_zero, List.set_cons_succ]
      refine wpAnyH_take (i := 3) (oi := ⟨some 42, _, _, _, _, _⟩) (v := .bool false) rfl (by kernel_rfl) (by kernel_rfl) (by kernel_rfl) (fun _ _ _ h => h) (Or.inl ⟨by rfl, ?_⟩) hHeld ?_
      ·intro W9 hSW
       (try dsimp only at hSW)
       go_simp
      try simp only [Act.put, List.setIfInBounds_toArray, List.set_cons_zero, List.set_cons_succ]
      refine wpAnyH_take (i := 4) (oi := ⟨some 43, _, _, _, _, _⟩) (v := undef) rfl (by kernel_rfl) (by kernel_rfl) (by kernel_rfl) (fun _ _ _ h => h) (Or.inr ⟨by rfl, rfl⟩) hHeld ?_
      try simp only [Act.put, List.setIfInBounds_toArray, List.set_cons_zero, List.set_cons_succ]
      refine wpAnyH_take (i := 5) (oi := ⟨some 44, _, _, _, _, _⟩) (v := undef) rfl (by kernel_rfl) (by kernel_rfl) (by kernel_rfl) (fun _ _ _ h => h) (Or.inr ⟨by rfl, rfl⟩) hHeld ?_
      try simp only [Act.put, List.setIfInBounds_toArray, List.set_cons_zero, List.set_cons_succ]
      refine wpAnyH_take (i := 6) (oi := ⟨some 45, _, _, _, _, _⟩) (v := undef) rfl (by kernel_rfl) (by kernel_rfl) (by kernel_rfl) (fun _ _ _ h => h) (Or.inr ⟨by rfl, rfl⟩) hHeld ?_
      try simp only [Act.put, List.setIfInBounds_toArray, List.set_cons_zero, List.set_cons_succ]
      refine wpAnyH_take (i := 7) (oi := ⟨some 46, _, _, _, _, _⟩) (v := undef) rfl (by kernel_rfl) (by kernel_rfl) (by kernel_rfl) (fun _ _ _ h => h) (Or.inr ⟨by rfl, rfl⟩) hHeld ?_
      try simp only [Act.put, List.setIfInBounds_toArray, List.set_cons_zero, List.set_cons_succ]
      refine wpAnyH_take (i := 8) (oi := ⟨some 47, _, _, _, _, _⟩) (v := .bool false) rfl (by kernel_rfl) (by kernel_rfl) (by kernel_rfl) (fun _ _ _ h => h) (Or.inl ⟨by rfl, ?_⟩) hHeld ?_
      ·intro W9 hSW
       (try dsimp only at hSW)
       go_simp
      try simp only [Act.put, List.setIfInBounds_toArray, List.set_cons_zero, List.set_cons_succ]
      refine wpAnyH_take (i := 9) (oi := ⟨some 48, _, _, _, _, _⟩) (v := .bool false) rfl (by kernel_rfl) (by kernel_rfl) (by kernel_rfl) (fun _ _ _ h => h) (Or.inl ⟨by rfl, ?_⟩) hHeld ?_
      ·intro W9 hSW
       (try dsimp only at hSW)
       go_simp
      try simp only [Act.put, List.setIfInBounds_toArray, List.set_cons_zero, List.set_cons_succ]
      refine wpAnyH_take (i := 10) (oi := ⟨some 49, _, _, _, _, _⟩) (v := .pointer (some ⟨hb2, 0, none⟩)) rfl (by kernel_rfl) (by kernel_rfl) (by kernel_rfl) (fun _ _ _ h => h) (Or.inl ⟨by rfl, ?_⟩) hHeld ?_
      ·intro W9 hSW
       (try dsimp only at hSW)
       go_simp
      try simp only [Act.put, List.setIfInBounds_toArray, List.set_cons_zero, List.set_cons_succ]
      refine wpAnyH_take (i := 11) (oi := ⟨some 50, _, _, _, _, _⟩) (v := .int .i64 1) rfl (by kernel_rfl) (by kernel_rfl) (by kernel_rfl) (fun _ _ _ h => h) (Or.inl ⟨by rfl, ?_⟩) hHeld ?_
      ·intro W9 hSW
       (try dsimp only at hSW)
       go_simp
      try simp only [Act.put, List.setIfInBounds_toArray, List.set_cons_zero, List.set_cons_succ]
      refine wpAnyH_take (i := 12) (oi := ⟨some 51, _, _, _, _, _⟩) (v := .bool false) rfl (by kernel_rfl) (by kernel_rfl) (by kernel_rfl) (fun _ _ _ h => h) (Or.inl ⟨by rfl, ?_⟩) hHeld ?_
      ·intro W9 hSW
       (try dsimp only at hSW)
       go_simp
      try simp only [Act.put, List.setIfInBounds_toArray, List.set_cons_zero, List.set_cons_succ]
      refine wpAnyH_take (i := 13) (oi := ⟨some 52, _, _, _, _, _⟩) (v := .pointer (some ⟨rb, 0, none⟩)) rfl (by kernel_rfl) (by kernel_rfl) (by kernel_rfl) (fun _ _ _ h => h) (Or.inl ⟨by rfl, ?_⟩) hHeld ?_
      ·intro W9 hSW
       (try dsimp only at hSW)
       go_simp
      try simp only [Act.put, List.setIfInBounds_toArray, List.set_cons_zero, List.set_cons_succ]
      refine wpAnyH_ready (rs := [14]) (by kernel_rfl) (by simp) ?_
      refine AllReadyH.cons (o := { dst := some 53, op := _, type := _, pos := _, after := _, guard := _ }) rfl (fun K hK => ?_) AllReadyH.nil
      go_simp
      refine (HCHO.out _ (Below.drew hb7)).mono ?_
      rintro e w9 ⟨rfl, hv9⟩
      have hS9 := HXA.out _ hv9
      refine hK.out _ _ hS9 (fun hHeld => ?_)
      clear hK K
      refine wpAnyH_take (i := 15) (oi := ⟨some 54, _, _, _, _, _⟩) (v := .bool false) rfl (by kernel_rfl) (by kernel_rfl) (by kernel_rfl) (fun _ _ _ h => h) (Or.inl ⟨by rfl, ?_⟩) hHeld ?_
      ·intro W9 hSW
       (try dsimp only at hSW)
       go_simp
      try simp only [Act.put, List.setIfInBounds_toArray, List.set_cons_zero, List.set_cons_succ]
      refine wpAnyH_take (i := 16) (oi := ⟨some 55, _, _, _, _, _⟩) (v := .bool false) rfl (by kernel_rfl) (by kernel_rfl) (by kernel_rfl) (fun _ _ _ h => h) (Or.inl ⟨by rfl, ?_⟩) hHeld ?_
      ·intro W9 hSW
       (try dsimp only at hSW)
       go_simp
      try simp only [Act.put, List.setIfInBounds_toArray, List.set_cons_zero, List.set_cons_succ]
      refine wpAnyH_take (i := 17) (oi := ⟨some 56, _, _, _, _, _⟩) (v := .bool false) rfl (by kernel_rfl) (by kernel_rfl) (by kernel_rfl) (fun _ _ _ h => h) (Or.inl ⟨by rfl, ?_⟩) hHeld ?_
      ·intro W9 hSW
       (try dsimp only at hSW)
       go_simp
      try simp only [Act.put, List.setIfInBounds_toArray, List.set_cons_zero, List.set_cons_succ]
      refine wpAnyH_done (by kernel_rfl) ?_ _
      have HV9 := Lib.hid hv9
      clear q0 r0 hv9 hb7 hS9
      obtain ⟨d1, d2, d3, d4, d5, e1, e2, e3, e4, e5, gg⟩ : ∃ d1 d2 d3 d4 d5 e1 e2 e3 e4 e5, HallAt s' hb2 w9 d1 d2 d3 d4 d5 e1 e2 e3 e4 e5 := ⟨_, _, _, _, _, _, _, _, _, _, (HX.out w9 HV9.out).2⟩
      have r0 := gg.c0
      have r3 := gg.c3
      rw [HFE.out] at r0
      obtain ⟨T', hT'⟩ : ∃ z, z = s'.tasks.length := ⟨_, rfl⟩
      have HT' := Lib.hid hT'
      have hT1 : 0 < T' := by rw [hT']; exact HONE.out.1
      have hT2 : T' ≤ 100000 := by rw [hT']; exact HONE.out.2
      rw [← hT'] at r3
      have tz : ((T' : Int) == 0) = false := by rw [beq_eq_false_iff_ne]; omega
      have tz2 : ¬ (T' : Int) = 0 := by omega
      have ti : (0 : Int) ≤ 0 ∧ (0 : Int) < (T' : Int) := by omega
      obtain ⟨y0, hy0⟩ : ∃ z, z = s'.tasks.getD 0 0 := ⟨_, rfl⟩
      obtain ⟨_, _, _, ea, ena, -, -, hcb⟩ := gg.tasks
      obtain ⟨ga, go4, eb, -, hca⟩ := hcb (by rw [ena, ← hT']; exact hT1)
      have u2 : w9.cell? ⟨ga, go4, none⟩ = some (.int .i64 (s'.tasks.getD 0 0)) := hca 0 (by rw [ena, ← hT']; exact hT1)
      injection ea with ea eaa eab
      rw [eb] at ea
      clear eaa eab
      rw [← hy0] at u2
      have hdone := HF'.out.done
      rw [HFE.out, ← hy0] at hdone
      have hy3 : y0 = 3 := hdone.1 rfl
      clear hca hcb hy0 eb ena gg hdone hT'
      subst ea
      subst hy3
      go_upto_region 15 with fail
      go_quiet (fail)
      go_wp2_with fail
      go_roundw
      case rel => exact ⟨i + 1, τ5, s', by omega, by go_num, (HBV.out w9 HV9.out).new (Keeps.of_new (below_drewN w9 nq)), HJ7.out.A, HF'.out⟩
      case measure => simp [intOf]; omega
     by_cases hg2 : f' = 2
     ·have HFE : Hid (s'.fin = 2) := Lib.hid (hf'.symm.trans hg2)
      have hc9 : cc = 0 := by rw [hcc]; exact Classical.byContradiction fun h9 => hg0 (hf'.trans (HF'.out.going.2 h9))
      subst hg2
      have hcz : ((cc : Nat) : Int) = 0 := by omega
      subst hc9
      have HXA : Hid (∀ V, Below w7.heap.size w7 V → V.cell? ⟨hb, 0, none⟩ = some (.int .i64 0) ∧ V.cell? ⟨hb2, 0, none⟩ = some (.int .i64 2)) := Lib.hid fun V hV => by
       obtain ⟨g8, g9⟩ := HX.out V hV
       exact ⟨by rw [← hf0]; exact g8.c0, by rw [← HFE.out]; exact g9.c0⟩
      clear hf0 hf' hcc hsame
      obtain ⟨q0, r0⟩ := HXA.out _ hb7
      refine wp_region_held_drew (S := (fun W : World => W.cell? ⟨hb, 0, none⟩ = some (.int .i64 0) ∧ W.cell? ⟨hb2, 0, none⟩ = some (.int .i64 2))) (by kernel_rfl) ⟨by simp only [World.cell?_drew]; assumption, by simp only [World.cell?_drew]; assumption⟩ (fun hHeld => ?_)
      refine wpAnyH_take (i := 0) (oi := ⟨some 39, _, _, _, _, _⟩) (v := .pointer (some ⟨hb, 0, none⟩)) rfl (by kernel_rfl) (by kernel_rfl) (by kernel_rfl) (fun _ _ _ h => h) (Or.inl ⟨by rfl, ?_⟩) hHeld ?_
      ·intro W9 hSW
       (try dsimp only at hSW)
       go_simp
      try simp only [Act.put, List.setIfInBounds_toArray, List.set_cons_zero, List.set_cons_succ]
      refine wpAnyH_take (i := 1) (oi := ⟨some 40, _, _, _, _, _⟩) (v := .int .i64 0) rfl (by kernel_rfl) (by kernel_rfl) (by kernel_rfl) (fun _ _ _ h => h) (Or.inl ⟨by rfl, ?_⟩) hHeld ?_
      ·intro W9 hSW
       (try dsimp only at hSW)
       go_simp
      try simp only [Act.put, List.setIfInBounds_toArray, List.set_cons_zero, List.set_cons_succ]
      refine wpAnyH_take (i := 2) (oi := ⟨some 41, _, _, _, _, _⟩) (v := .bool false) rfl (by kernel_rfl) (by kernel_rfl) (by kernel_rfl) (fun _ _ _ h => h) (Or.inl ⟨by rfl, ?_⟩) hHeld ?_
      ·intro W9 hSW
       (try dsimp only at hSW)
       go_simp
      try simp only [Act.put, List.setIfInBounds_toArray, List.set_cons_zero, List.set_cons_succ]
      refine wpAnyH_take (i := 3) (oi := ⟨some 42, _, _, _, _, _⟩) (v := .bool false) rfl (by kernel_rfl) (by kernel_rfl) (by kernel_rfl) (fun _ _ _ h => h) (Or.inl ⟨by rfl, ?_⟩) hHeld ?_
      ·intro W9 hSW
       (try dsimp only at hSW)
       go_simp
      try simp only [Act.put, List.setIfInBounds_toArray, List.set_cons_zero, List.set_cons_succ]
      refine wpAnyH_take (i := 4) (oi := ⟨some 43, _, _, _, _, _⟩) (v := undef) rfl (by kernel_rfl) (by kernel_rfl) (by kernel_rfl) (fun _ _ _ h => h) (Or.inr ⟨by rfl, rfl⟩) hHeld ?_
      try simp only [Act.put, List.setIfInBounds_toArray, List.set_cons_zero, List.set_cons_succ]
      refine wpAnyH_take (i := 5) (oi := ⟨some 44, _, _, _, _, _⟩) (v := undef) rfl (by kernel_rfl) (by kernel_rfl) (by kernel_rfl) (fun _ _ _ h => h) (Or.inr ⟨by rfl, rfl⟩) hHeld ?_
      try simp only [Act.put, List.setIfInBounds_toArray, List.set_cons_zero, List.set_cons_succ]
      refine wpAnyH_take (i := 6) (oi := ⟨some 45, _, _, _, _, _⟩) (v := undef) rfl (by kernel_rfl) (by kernel_rfl) (by kernel_rfl) (fun _ _ _ h => h) (Or.inr ⟨by rfl, rfl⟩) hHeld ?_
      try simp only [Act.put, List.setIfInBounds_toArray, List.set_cons_zero, List.set_cons_succ]
      refine wpAnyH_take (i := 7) (oi := ⟨some 46, _, _, _, _, _⟩) (v := undef) rfl (by kernel_rfl) (by kernel_rfl) (by kernel_rfl) (fun _ _ _ h => h) (Or.inr ⟨by rfl, rfl⟩) hHeld ?_
      try simp only [Act.put, List.setIfInBounds_toArray, List.set_cons_zero, List.set_cons_succ]
      refine wpAnyH_take (i := 8) (oi := ⟨some 47, _, _, _, _, _⟩) (v := .bool false) rfl (by kernel_rfl) (by kernel_rfl) (by kernel_rfl) (fun _ _ _ h => h) (Or.inl ⟨by rfl, ?_⟩) hHeld ?_
      ·intro W9 hSW
       (try dsimp only at hSW)
       go_simp
      try simp only [Act.put, List.setIfInBounds_toArray, List.set_cons_zero, List.set_cons_succ]
      refine wpAnyH_take (i := 9) (oi := ⟨some 48, _, _, _, _, _⟩) (v := .bool false) rfl (by kernel_rfl) (by kernel_rfl) (by kernel_rfl) (fun _ _ _ h => h) (Or.inl ⟨by rfl, ?_⟩) hHeld ?_
      ·intro W9 hSW
       (try dsimp only at hSW)
       go_simp
      try simp only [Act.put, List.setIfInBounds_toArray, List.set_cons_zero, List.set_cons_succ]
      refine wpAnyH_take (i := 10) (oi := ⟨some 49, _, _, _, _, _⟩) (v := .pointer (some ⟨hb2, 0, none⟩)) rfl (by kernel_rfl) (by kernel_rfl) (by kernel_rfl) (fun _ _ _ h => h) (Or.inl ⟨by rfl, ?_⟩) hHeld ?_
      ·intro W9 hSW
       (try dsimp only at hSW)
       go_simp
      try simp only [Act.put, List.setIfInBounds_toArray, List.set_cons_zero, List.set_cons_succ]
      refine wpAnyH_take (i := 11) (oi := ⟨some 50, _, _, _, _, _⟩) (v := .int .i64 2) rfl (by kernel_rfl) (by kernel_rfl) (by kernel_rfl) (fun _ _ _ h => h) (Or.inl ⟨by rfl, ?_⟩) hHeld ?_
      ·intro W9 hSW
       (try dsimp only at hSW)
       go_simp
      try simp only [Act.put, List.setIfInBounds_toArray, List.set_cons_zero, List.set_cons_succ]
      refine wpAnyH_take (i := 12) (oi := ⟨some 51, _, _, _, _, _⟩) (v := .bool false) rfl (by kernel_rfl) (by kernel_rfl) (by kernel_rfl) (fun _ _ _ h => h) (Or.inl ⟨by rfl, ?_⟩) hHeld ?_
      ·intro W9 hSW
       (try dsimp only at hSW)
       go_simp
      try simp only [Act.put, List.setIfInBounds_toArray, List.set_cons_zero, List.set_cons_succ]
      refine wpAnyH_take (i := 13) (oi := ⟨some 52, _, _, _, _, _⟩) (v := .pointer (some ⟨rb, 0, none⟩)) rfl (by kernel_rfl) (by kernel_rfl) (by kernel_rfl) (fun _ _ _ h => h) (Or.inl ⟨by rfl, ?_⟩) hHeld ?_
      ·intro W9 hSW
       (try dsimp only at hSW)
       go_simp
      try simp only [Act.put, List.setIfInBounds_toArray, List.set_cons_zero, List.set_cons_succ]
      refine wpAnyH_ready (rs := [14]) (by kernel_rfl) (by simp) ?_
      refine AllReadyH.cons (o := { dst := some 53, op := _, type := _, pos := _, after := _, guard := _ }) rfl (fun K hK => ?_) AllReadyH.nil
      go_simp
      refine (HCHO.out _ (Below.drew hb7)).mono ?_
      rintro e w9 ⟨rfl, hv9⟩
      have hS9 := HXA.out _ hv9
      refine hK.out _ _ hS9 (fun hHeld => ?_)
      clear hK K
      refine wpAnyH_take (i := 15) (oi := ⟨some 54, _, _, _, _, _⟩) (v := .bool false) rfl (by kernel_rfl) (by kernel_rfl) (by kernel_rfl) (fun _ _ _ h => h) (Or.inl ⟨by rfl, ?_⟩) hHeld ?_
      ·intro W9 hSW
       (try dsimp only at hSW)
       go_simp
      try simp only [Act.put, List.setIfInBounds_toArray, List.set_cons_zero, List.set_cons_succ]
      refine wpAnyH_take (i := 16) (oi := ⟨some 55, _, _, _, _, _⟩) (v := .bool false) rfl (by kernel_rfl) (by kernel_rfl) (by kernel_rfl) (fun _ _ _ h => h) (Or.inl ⟨by rfl, ?_⟩) hHeld ?_
      ·intro W9 hSW
       (try dsimp only at hSW)
       go_simp
      try simp only [Act.put, List.setIfInBounds_toArray, List.set_cons_zero, List.set_cons_succ]
      refine wpAnyH_take (i := 17) (oi := ⟨some 56, _, _, _, _, _⟩) (v := .bool false) rfl (by kernel_rfl) (by kernel_rfl) (by kernel_rfl) (fun _ _ _ h => h) (Or.inl ⟨by rfl, ?_⟩) hHeld ?_
      ·intro W9 hSW
       (try dsimp only at hSW)
       go_simp
      try simp only [Act.put, List.setIfInBounds_toArray, List.set_cons_zero, List.set_cons_succ]
      refine wpAnyH_done (by kernel_rfl) ?_ _
      have HV9 := Lib.hid hv9
      clear q0 r0 hv9 hb7 hS9
      obtain ⟨d1, d2, d3, d4, d5, e1, e2, e3, e4, e5, gg⟩ : ∃ d1 d2 d3 d4 d5 e1 e2 e3 e4 e5, HallAt s' hb2 w9 d1 d2 d3 d4 d5 e1 e2 e3 e4 e5 := ⟨_, _, _, _, _, _, _, _, _, _, (HX.out w9 HV9.out).2⟩
      have r0 := gg.c0
      have r3 := gg.c3
      rw [HFE.out] at r0
      obtain ⟨T', hT'⟩ : ∃ z, z = s'.tasks.length := ⟨_, rfl⟩
      have HT' := Lib.hid hT'
      have hT1 : 0 < T' := by rw [hT']; exact HONE.out.1
      have hT2 : T' ≤ 100000 := by rw [hT']; exact HONE.out.2
      rw [← hT'] at r3
      have tz : ((T' : Int) == 0) = false := by rw [beq_eq_false_iff_ne]; omega
      have tz2 : ¬ (T' : Int) = 0 := by omega
      have ti : (0 : Int) ≤ 0 ∧ (0 : Int) < (T' : Int) := by omega
      obtain ⟨y0, hy0⟩ : ∃ z, z = s'.tasks.getD 0 0 := ⟨_, rfl⟩
      obtain ⟨_, _, _, ea, ena, -, -, hcb⟩ := gg.tasks
      obtain ⟨ga, go4, eb, -, hca⟩ := hcb (by rw [ena, ← hT']; exact hT1)
      have u2 : w9.cell? ⟨ga, go4, none⟩ = some (.int .i64 (s'.tasks.getD 0 0)) := hca 0 (by rw [ena, ← hT']; exact hT1)
      injection ea with ea eaa eab
      rw [eb] at ea
      clear eaa eab
      rw [← hy0] at u2
      have hdone := HF'.out.done
      rw [HFE.out, ← hy0] at hdone
      have hy3 : (y0 == 3) = false := by rw [beq_eq_false_iff_ne]; intro e; have := hdone.2 e; omega
      have hst := HF'.out.stuck HFE.out
      have hi9 := gg.tasks
      have HN0 : Hid (∀ z, Calls Tryz.prog 32 #[.slice d1 T' e1, .int .i64 0] (w9.drewN z) fun e w' => e = .returned (.bool false) ∧ ∃ n, w' = w9.drewN n) := Lib.hid fun z => by
       rw [hT']
       exact (containsI_no (hi9.below (below_drewN w9 z)) (fun h => (hst 0 h).1 rfl) (by have := HONE.out.2; omega)).mono fun e w' ⟨h8, h9⟩ => ⟨h8, z, h9.symm⟩
      have HN2 : Hid (∀ z, Calls Tryz.prog 32 #[.slice d1 T' e1, .int .i64 2] (w9.drewN z) fun e w' => e = .returned (.bool false) ∧ ∃ n, w' = w9.drewN n) := Lib.hid fun z => by
       rw [hT']
       exact (containsI_no (hi9.below (below_drewN w9 z)) (fun h => (hst 2 h).2 rfl) (by have := HONE.out.2; omega)).mono fun e w' ⟨h8, h9⟩ => ⟨h8, z, h9.symm⟩
      clear hst hi9
      clear hca hcb hy0 eb ena gg hdone hT'
      subst ea
      go_upto_region 15 with fail
      go_quiet ((first | (go_at_call 32; first | exact HN0.out _ | exact HN2.out _)))
      go_wp2_with fail
      go_roundw
      case rel => exact ⟨i + 1, τ5, s', by omega, by go_num, (HBV.out w9 HV9.out).new (Keeps.of_new (below_drewN w9 nq)), HJ7.out.A, HF'.out⟩
      case measure => simp [intOf]; omega
     ·have HFE : Hid (s'.fin = f') := Lib.hid hf'.symm
      have hc9 : cc = 0 := by rw [hcc]; exact Classical.byContradiction fun h9 => hg0 (hf'.trans (HF'.out.going.2 h9))
      have tg0 : (f' == 0) = false := by rw [beq_eq_false_iff_ne]; exact hg0
      have tg1 : (f' == 1) = false := by rw [beq_eq_false_iff_ne]; exact hg1
      have tg2 : (f' == 2) = false := by rw [beq_eq_false_iff_ne]; exact hg2
      have hn1 := hg1
      have hcz : ((cc : Nat) : Int) = 0 := by omega
      subst hc9
      have HXA : Hid (∀ V, Below w7.heap.size w7 V → V.cell? ⟨hb, 0, none⟩ = some (.int .i64 0) ∧ V.cell? ⟨hb2, 0, none⟩ = some (.int .i64 f')) := Lib.hid fun V hV => by
       obtain ⟨g8, g9⟩ := HX.out V hV
       exact ⟨by rw [← hf0]; exact g8.c0, by rw [← HFE.out]; exact g9.c0⟩
      clear hf0 hf' hcc hsame
      obtain ⟨q0, r0⟩ := HXA.out _ hb7
      refine wp_region_held_drew (S := (fun W : World => W.cell? ⟨hb, 0, none⟩ = some (.int .i64 0) ∧ W.cell? ⟨hb2, 0, none⟩ = some (.int .i64 f'))) (by kernel_rfl) ⟨by simp only [World.cell?_drew]; assumption, by simp only [World.cell?_drew]; assumption⟩ (fun hHeld => ?_)
      refine wpAnyH_take (i := 0) (oi := ⟨some 39, _, _, _, _, _⟩) (v := .pointer (some ⟨hb, 0, none⟩)) rfl (by kernel_rfl) (by kernel_rfl) (by kernel_rfl) (fun _ _ _ h => h) (Or.inl ⟨by rfl, ?_⟩) hHeld ?_
      ·intro W9 hSW
       (try dsimp only at hSW)
       go_simp
      try simp only [Act.put, List.setIfInBounds_toArray, List.set_cons_zero, List.set_cons_succ]
      refine wpAnyH_take (i := 1) (oi := ⟨some 40, _, _, _, _, _⟩) (v := .int .i64 0) rfl (by kernel_rfl) (by kernel_rfl) (by kernel_rfl) (fun _ _ _ h => h) (Or.inl ⟨by rfl, ?_⟩) hHeld ?_
      ·intro W9 hSW
       (try dsimp only at hSW)
       go_simp
      try simp only [Act.put, List.setIfInBounds_toArray, List.set_cons_zero, List.set_cons_succ]
      refine wpAnyH_take (i := 2) (oi := ⟨some 41, _, _, _, _, _⟩) (v := .bool false) rfl (by kernel_rfl) (by kernel_rfl) (by kernel_rfl) (fun _ _ _ h => h) (Or.inl ⟨by rfl, ?_⟩) hHeld ?_
      ·intro W9 hSW
       (try dsimp only at hSW)
       go_simp
      try simp only [Act.put, List.setIfInBounds_toArray, List.set_cons_zero, List.set_cons_succ]
      refine wpAnyH_take (i := 3) (oi := ⟨some 42, _, _, _, _, _⟩) (v := .bool false) rfl (by kernel_rfl) (by kernel_rfl) (by kernel_rfl) (fun _ _ _ h => h) (Or.inl ⟨by rfl, ?_⟩) hHeld ?_
      ·intro W9 hSW
       (try dsimp only at hSW)
       go_simp
      try simp only [Act.put, List.setIfInBounds_toArray, List.set_cons_zero, List.set_cons_succ]
      refine wpAnyH_take (i := 4) (oi := ⟨some 43, _, _, _, _, _⟩) (v := undef) rfl (by kernel_rfl) (by kernel_rfl) (by kernel_rfl) (fun _ _ _ h => h) (Or.inr ⟨by rfl, rfl⟩) hHeld ?_
      try simp only [Act.put, List.setIfInBounds_toArray, List.set_cons_zero, List.set_cons_succ]
      refine wpAnyH_take (i := 5) (oi := ⟨some 44, _, _, _, _, _⟩) (v := undef) rfl (by kernel_rfl) (by kernel_rfl) (by kernel_rfl) (fun _ _ _ h => h) (Or.inr ⟨by rfl, rfl⟩) hHeld ?_
      try simp only [Act.put, List.setIfInBounds_toArray, List.set_cons_zero, List.set_cons_succ]
      refine wpAnyH_take (i := 6) (oi := ⟨some 45, _, _, _, _, _⟩) (v := undef) rfl (by kernel_rfl) (by kernel_rfl) (by kernel_rfl) (fun _ _ _ h => h) (Or.inr ⟨by rfl, rfl⟩) hHeld ?_
      try simp only [Act.put, List.setIfInBounds_toArray, List.set_cons_zero, List.set_cons_succ]
      refine wpAnyH_take (i := 7) (oi := ⟨some 46, _, _, _, _, _⟩) (v := undef) rfl (by kernel_rfl) (by kernel_rfl) (by kernel_rfl) (fun _ _ _ h => h) (Or.inr ⟨by rfl, rfl⟩) hHeld ?_
      try simp only [Act.put, List.setIfInBounds_toArray, List.set_cons_zero, List.set_cons_succ]
      refine wpAnyH_take (i := 8) (oi := ⟨some 47, _, _, _, _, _⟩) (v := .bool false) rfl (by kernel_rfl) (by kernel_rfl) (by kernel_rfl) (fun _ _ _ h => h) (Or.inl ⟨by rfl, ?_⟩) hHeld ?_
      ·intro W9 hSW
       (try dsimp only at hSW)
       go_simp
      try simp only [Act.put, List.setIfInBounds_toArray, List.set_cons_zero, List.set_cons_succ]
      refine wpAnyH_take (i := 9) (oi := ⟨some 48, _, _, _, _, _⟩) (v := .bool false) rfl (by kernel_rfl) (by kernel_rfl) (by kernel_rfl) (fun _ _ _ h => h) (Or.inl ⟨by rfl, ?_⟩) hHeld ?_
      ·intro W9 hSW
       (try dsimp only at hSW)
       go_simp
      try simp only [Act.put, List.setIfInBounds_toArray, List.set_cons_zero, List.set_cons_succ]
      refine wpAnyH_take (i := 10) (oi := ⟨some 49, _, _, _, _, _⟩) (v := .pointer (some ⟨hb2, 0, none⟩)) rfl (by kernel_rfl) (by kernel_rfl) (by kernel_rfl) (fun _ _ _ h => h) (Or.inl ⟨by rfl, ?_⟩) hHeld ?_
      ·intro W9 hSW
       (try dsimp only at hSW)
       go_simp
      try simp only [Act.put, List.setIfInBounds_toArray, List.set_cons_zero, List.set_cons_succ]
      refine wpAnyH_take (i := 11) (oi := ⟨some 50, _, _, _, _, _⟩) (v := .int .i64 f') rfl (by kernel_rfl) (by kernel_rfl) (by kernel_rfl) (fun _ _ _ h => h) (Or.inl ⟨by rfl, ?_⟩) hHeld ?_
      ·intro W9 hSW
       (try dsimp only at hSW)
       go_simp
      try simp only [Act.put, List.setIfInBounds_toArray, List.set_cons_zero, List.set_cons_succ]
      refine wpAnyH_take (i := 12) (oi := ⟨some 51, _, _, _, _, _⟩) (v := .bool false) rfl (by kernel_rfl) (by kernel_rfl) (by kernel_rfl) (fun _ _ _ h => h) (Or.inl ⟨by rfl, ?_⟩) hHeld ?_
      ·intro W9 hSW
       (try dsimp only at hSW)
       go_simp
      try simp only [Act.put, List.setIfInBounds_toArray, List.set_cons_zero, List.set_cons_succ]
      refine wpAnyH_take (i := 13) (oi := ⟨some 52, _, _, _, _, _⟩) (v := .pointer (some ⟨rb, 0, none⟩)) rfl (by kernel_rfl) (by kernel_rfl) (by kernel_rfl) (fun _ _ _ h => h) (Or.inl ⟨by rfl, ?_⟩) hHeld ?_
      ·intro W9 hSW
       (try dsimp only at hSW)
       go_simp
      try simp only [Act.put, List.setIfInBounds_toArray, List.set_cons_zero, List.set_cons_succ]
      refine wpAnyH_ready (rs := [14]) (by kernel_rfl) (by simp) ?_
      refine AllReadyH.cons (o := { dst := some 53, op := _, type := _, pos := _, after := _, guard := _ }) rfl (fun K hK => ?_) AllReadyH.nil
      go_simp
      refine (HCHO.out _ (Below.drew hb7)).mono ?_
      rintro e w9 ⟨rfl, hv9⟩
      have hS9 := HXA.out _ hv9
      refine hK.out _ _ hS9 (fun hHeld => ?_)
      clear hK K
      refine wpAnyH_take (i := 15) (oi := ⟨some 54, _, _, _, _, _⟩) (v := .bool false) rfl (by kernel_rfl) (by kernel_rfl) (by kernel_rfl) (fun _ _ _ h => h) (Or.inl ⟨by rfl, ?_⟩) hHeld ?_
      ·intro W9 hSW
       (try dsimp only at hSW)
       go_simp
      try simp only [Act.put, List.setIfInBounds_toArray, List.set_cons_zero, List.set_cons_succ]
      refine wpAnyH_take (i := 16) (oi := ⟨some 55, _, _, _, _, _⟩) (v := .bool false) rfl (by kernel_rfl) (by kernel_rfl) (by kernel_rfl) (fun _ _ _ h => h) (Or.inl ⟨by rfl, ?_⟩) hHeld ?_
      ·intro W9 hSW
       (try dsimp only at hSW)
       go_simp
      try simp only [Act.put, List.setIfInBounds_toArray, List.set_cons_zero, List.set_cons_succ]
      refine wpAnyH_take (i := 17) (oi := ⟨some 56, _, _, _, _, _⟩) (v := .bool false) rfl (by kernel_rfl) (by kernel_rfl) (by kernel_rfl) (fun _ _ _ h => h) (Or.inl ⟨by rfl, ?_⟩) hHeld ?_
      ·intro W9 hSW
       (try dsimp only at hSW)
       go_simp
      try simp only [Act.put, List.setIfInBounds_toArray, List.set_cons_zero, List.set_cons_succ]
      refine wpAnyH_done (by kernel_rfl) ?_ _
      have HV9 := Lib.hid hv9
      clear q0 r0 hv9 hb7 hS9
      obtain ⟨d1, d2, d3, d4, d5, e1, e2, e3, e4, e5, gg⟩ : ∃ d1 d2 d3 d4 d5 e1 e2 e3 e4 e5, HallAt s' hb2 w9 d1 d2 d3 d4 d5 e1 e2 e3 e4 e5 := ⟨_, _, _, _, _, _, _, _, _, _, (HX.out w9 HV9.out).2⟩
      have r0 := gg.c0
      have r3 := gg.c3
      rw [HFE.out] at r0
      obtain ⟨T', hT'⟩ : ∃ z, z = s'.tasks.length := ⟨_, rfl⟩
      have HT' := Lib.hid hT'
      have hT1 : 0 < T' := by rw [hT']; exact HONE.out.1
      have hT2 : T' ≤ 100000 := by rw [hT']; exact HONE.out.2
      rw [← hT'] at r3
      have tz : ((T' : Int) == 0) = false := by rw [beq_eq_false_iff_ne]; omega
      have tz2 : ¬ (T' : Int) = 0 := by omega
      have ti : (0 : Int) ≤ 0 ∧ (0 : Int) < (T' : Int) := by omega
      obtain ⟨y0, hy0⟩ : ∃ z, z = s'.tasks.getD 0 0 := ⟨_, rfl⟩
      obtain ⟨_, _, _, ea, ena, -, -, hcb⟩ := gg.tasks
      obtain ⟨ga, go4, eb, -, hca⟩ := hcb (by rw [ena, ← hT']; exact hT1)
      have u2 : w9.cell? ⟨ga, go4, none⟩ = some (.int .i64 (s'.tasks.getD 0 0)) := hca 0 (by rw [ena, ← hT']; exact hT1)
      injection ea with ea eaa eab
      rw [eb] at ea
      clear eaa eab
      rw [← hy0] at u2
      have hdone := HF'.out.done
      rw [HFE.out, ← hy0] at hdone
      have hy3 : (y0 == 3) = false := by rw [beq_eq_false_iff_ne]; intro e; exact hn1 (hdone.2 e)
      clear hca hcb hy0 eb ena gg hdone hT'
      subst ea
      go_upto_region 15 with fail
      go_quiet (fail)
      go_wp2_with fail
      go_roundw
      case rel => exact ⟨i + 1, τ5, s', by omega, by go_num, (HBV.out w9 HV9.out).new (Keeps.of_new (below_drewN w9 nq)), HJ7.out.A, HF'.out⟩
      case measure => simp [intOf]; omega
    ·obtain rfl := hsame hf0
     obtain ⟨f, hf⟩ : ∃ f, f = s'.fin := ⟨_, rfl⟩
     rw [← hf] at hf0
     clear hsame
     by_cases hk1 : f = 1
     ·have HFE : Hid (s'.fin = 1) := Lib.hid (hf.symm.trans hk1)
      have hc9 : cc = 0 := by rw [hcc]; exact Classical.byContradiction fun h9 => hf0 (hf.trans (HF'.out.going.2 h9))
      subst hk1
      subst hc9
      have HXB : Hid (∀ V, Below w7.heap.size w7 V → (V.cell? ⟨hb, 0, none⟩ = some (.int .i64 1) ∧ V.cell? ⟨hb, 1, none⟩ = some (.int .i64 s'.now) ∧ V.cell? ⟨hb, 2, none⟩ = some (.int .i64 (s'.pipes.chs.length : Nat)) ∧ V.cell? ⟨hb, 3, none⟩ = some (.slice b1 s'.tasks.length l1) ∧ V.cell? ⟨hb, 4, none⟩ = some (.slice b2 s'.tasks.length l2) ∧ V.cell? ⟨hb, 5, none⟩ = some (.slice b3 s'.globals.length l3) ∧ V.cell? ⟨hb, 6, none⟩ = some (.slice b4 s'.pipes.chs.length l4) ∧ V.cell? ⟨hb, 7, none⟩ = some (.slice b5 s'.out.length l5)) ∧ V.cell? ⟨hb2, 0, none⟩ = some (.int .i64 1) ∧ V.cell? ⟨hb2, 1, none⟩ = some (.int .i64 s'.now) ∧ V.cell? ⟨hb2, 2, none⟩ = some (.int .i64 (s'.pipes.chs.length : Nat)) ∧ V.cell? ⟨hb2, 3, none⟩ = some (.slice c1 s'.tasks.length m1) ∧ V.cell? ⟨hb2, 4, none⟩ = some (.slice c2 s'.tasks.length m2) ∧ V.cell? ⟨hb2, 5, none⟩ = some (.slice c3 s'.globals.length m3) ∧ V.cell? ⟨hb2, 6, none⟩ = some (.slice c4 s'.pipes.chs.length m4) ∧ V.cell? ⟨hb2, 7, none⟩ = some (.slice c5 s'.out.length m5)) := Lib.hid fun V hV => by
       obtain ⟨g8, g9⟩ := HX.out V hV
       exact ⟨⟨by rw [← HFE.out]; exact g8.c0, g8.c1, g8.c2, g8.c3, g8.c4, g8.c5, g8.c6, g8.c7⟩, by rw [← HFE.out]; exact g9.c0, g9.c1, g9.c2, g9.c3, g9.c4, g9.c5, g9.c6, g9.c7⟩
      have HSH : Hid (∀ V, Below w7.heap.size w7 V → Calls Tryz.prog 30 #[.agg #[.int .i64 1, .int .i64 s'.now, .int .i64 (s'.pipes.chs.length : Nat), .slice c1 s'.tasks.length m1, .slice c2 s'.tasks.length m2, .slice c3 s'.globals.length m3, .slice c4 s'.pipes.chs.length m4, .slice c5 s'.out.length m5], .agg #[.int .i64 1, .int .i64 s'.now, .int .i64 (s'.pipes.chs.length : Nat), .slice b1 s'.tasks.length l1, .slice b2 s'.tasks.length l2, .slice b3 s'.globals.length l3, .slice b4 s'.pipes.chs.length l4, .slice b5 s'.out.length l5]] V fun e w' => e = .returned (.bool true) ∧ Below w7.heap.size w7 w') := Lib.hid fun V hV => by
       obtain ⟨g8, g9⟩ := HX.out V hV
       have h8 := g8.read
       have h9 := g9.read
       rw [HFE.out] at h8 h9
       exact (sameHall_any h9 h8).mono fun e w' ⟨h5, h6⟩ => ⟨h5, hV.trans (h6.mono hV.size)⟩
      obtain ⟨⟨x0, x1, x2, x3, x4, x5, x6, x7⟩, y0, y1, y2, y3, y4, y5, y6, y7⟩ := HXB.out _ hb7
      clear hf hcc
      go_region_held3 (fun V : World => (V.cell? ⟨hb, 0, none⟩ = some (.int .i64 1) ∧ V.cell? ⟨hb, 1, none⟩ = some (.int .i64 s'.now) ∧ V.cell? ⟨hb, 2, none⟩ = some (.int .i64 (s'.pipes.chs.length : Nat)) ∧ V.cell? ⟨hb, 3, none⟩ = some (.slice b1 s'.tasks.length l1) ∧ V.cell? ⟨hb, 4, none⟩ = some (.slice b2 s'.tasks.length l2) ∧ V.cell? ⟨hb, 5, none⟩ = some (.slice b3 s'.globals.length l3) ∧ V.cell? ⟨hb, 6, none⟩ = some (.slice b4 s'.pipes.chs.length l4) ∧ V.cell? ⟨hb, 7, none⟩ = some (.slice b5 s'.out.length l5)) ∧ V.cell? ⟨hb2, 0, none⟩ = some (.int .i64 1) ∧ V.cell? ⟨hb2, 1, none⟩ = some (.int .i64 s'.now) ∧ V.cell? ⟨hb2, 2, none⟩ = some (.int .i64 (s'.pipes.chs.length : Nat)) ∧ V.cell? ⟨hb2, 3, none⟩ = some (.slice c1 s'.tasks.length m1) ∧ V.cell? ⟨hb2, 4, none⟩ = some (.slice c2 s'.tasks.length m2) ∧ V.cell? ⟨hb2, 5, none⟩ = some (.slice c3 s'.globals.length m3) ∧ V.cell? ⟨hb2, 6, none⟩ = some (.slice c4 s'.pipes.chs.length m4) ∧ V.cell? ⟨hb2, 7, none⟩ = some (.slice c5 s'.out.length m5)) (first | exact HXB.out _ (by assumption) | exact HXB.out _ (Below.drew (by assumption)))
       ((first
        | (go_at_call 30; refine (HSH.out _ ?_).mono ?_; (first | assumption | exact Below.drew (by assumption)); rintro e w8 ⟨rfl, hv8⟩)
        | (go_at_call 15; refine (HCHO.out _ ?_).mono ?_; (first | assumption | exact Below.drew (by assumption)); rintro e w9 ⟨rfl, hv9⟩)))
      rename (_ ∧ _) ∧ _ => hHx
      clear hHx
      have HV9 := Lib.hid hv9
      clear x0 x1 x2 x3 x4 x5 x6 x7 y0 y1 y2 y3 y4 y5 y6 y7 hv9 hb7
      obtain ⟨d1, d2, d3, d4, d5, e1, e2, e3, e4, e5, gg⟩ : ∃ d1 d2 d3 d4 d5 e1 e2 e3 e4 e5, HallAt s' hb2 w9 d1 d2 d3 d4 d5 e1 e2 e3 e4 e5 := ⟨_, _, _, _, _, _, _, _, _, _, (HX.out w9 HV9.out).2⟩
      have r0 := gg.c0
      have r3 := gg.c3
      rw [HFE.out] at r0
      obtain ⟨T', hT'⟩ : ∃ z, z = s'.tasks.length := ⟨_, rfl⟩
      have HT' := Lib.hid hT'
      have hT1 : 0 < T' := by rw [hT']; exact HONE.out.1
      have hT2 : T' ≤ 100000 := by rw [hT']; exact HONE.out.2
      rw [← hT'] at r3
      have tz : ((T' : Int) == 0) = false := by rw [beq_eq_false_iff_ne]; omega
      have tz2 : ¬ (T' : Int) = 0 := by omega
      have ti : (0 : Int) ≤ 0 ∧ (0 : Int) < (T' : Int) := by omega
      obtain ⟨y0, hy0⟩ : ∃ z, z = s'.tasks.getD 0 0 := ⟨_, rfl⟩
      obtain ⟨_, _, _, ea, ena, -, -, hcb⟩ := gg.tasks
      obtain ⟨ga, go4, eb, -, hca⟩ := hcb (by rw [ena, ← hT']; exact hT1)
      have u2 : w9.cell? ⟨ga, go4, none⟩ = some (.int .i64 (s'.tasks.getD 0 0)) := hca 0 (by rw [ena, ← hT']; exact hT1)
      injection ea with ea eaa eab
      rw [eb] at ea
      clear eaa eab
      rw [← hy0] at u2
      have hdone := HF'.out.done
      rw [HFE.out, ← hy0] at hdone
      have hy3 : y0 = 3 := hdone.1 rfl
      clear hca hcb hy0 eb ena gg hdone hT'
      subst ea
      subst hy3
      go_upto_region 15 with fail
      go_quiet (fail)
      go_wp2_with fail
      go_roundw
      case rel => exact ⟨i + 1, τ5, s', by omega, by go_num, (HBV.out w9 HV9.out).new (Keeps.of_new (below_drewN w9 nq)), HJ7.out.A, HF'.out⟩
      case measure => simp [intOf]; omega
     by_cases hk2 : f = 2
     ·have HFE : Hid (s'.fin = 2) := Lib.hid (hf.symm.trans hk2)
      have hc9 : cc = 0 := by rw [hcc]; exact Classical.byContradiction fun h9 => hf0 (hf.trans (HF'.out.going.2 h9))
      subst hk2
      subst hc9
      have HXB : Hid (∀ V, Below w7.heap.size w7 V → (V.cell? ⟨hb, 0, none⟩ = some (.int .i64 2) ∧ V.cell? ⟨hb, 1, none⟩ = some (.int .i64 s'.now) ∧ V.cell? ⟨hb, 2, none⟩ = some (.int .i64 (s'.pipes.chs.length : Nat)) ∧ V.cell? ⟨hb, 3, none⟩ = some (.slice b1 s'.tasks.length l1) ∧ V.cell? ⟨hb, 4, none⟩ = some (.slice b2 s'.tasks.length l2) ∧ V.cell? ⟨hb, 5, none⟩ = some (.slice b3 s'.globals.length l3) ∧ V.cell? ⟨hb, 6, none⟩ = some (.slice b4 s'.pipes.chs.length l4) ∧ V.cell? ⟨hb, 7, none⟩ = some (.slice b5 s'.out.length l5)) ∧ V.cell? ⟨hb2, 0, none⟩ = some (.int .i64 2) ∧ V.cell? ⟨hb2, 1, none⟩ = some (.int .i64 s'.now) ∧ V.cell? ⟨hb2, 2, none⟩ = some (.int .i64 (s'.pipes.chs.length : Nat)) ∧ V.cell? ⟨hb2, 3, none⟩ = some (.slice c1 s'.tasks.length m1) ∧ V.cell? ⟨hb2, 4, none⟩ = some (.slice c2 s'.tasks.length m2) ∧ V.cell? ⟨hb2, 5, none⟩ = some (.slice c3 s'.globals.length m3) ∧ V.cell? ⟨hb2, 6, none⟩ = some (.slice c4 s'.pipes.chs.length m4) ∧ V.cell? ⟨hb2, 7, none⟩ = some (.slice c5 s'.out.length m5)) := Lib.hid fun V hV => by
       obtain ⟨g8, g9⟩ := HX.out V hV
       exact ⟨⟨by rw [← HFE.out]; exact g8.c0, g8.c1, g8.c2, g8.c3, g8.c4, g8.c5, g8.c6, g8.c7⟩, by rw [← HFE.out]; exact g9.c0, g9.c1, g9.c2, g9.c3, g9.c4, g9.c5, g9.c6, g9.c7⟩
      have HSH : Hid (∀ V, Below w7.heap.size w7 V → Calls Tryz.prog 30 #[.agg #[.int .i64 2, .int .i64 s'.now, .int .i64 (s'.pipes.chs.length : Nat), .slice c1 s'.tasks.length m1, .slice c2 s'.tasks.length m2, .slice c3 s'.globals.length m3, .slice c4 s'.pipes.chs.length m4, .slice c5 s'.out.length m5], .agg #[.int .i64 2, .int .i64 s'.now, .int .i64 (s'.pipes.chs.length : Nat), .slice b1 s'.tasks.length l1, .slice b2 s'.tasks.length l2, .slice b3 s'.globals.length l3, .slice b4 s'.pipes.chs.length l4, .slice b5 s'.out.length l5]] V fun e w' => e = .returned (.bool true) ∧ Below w7.heap.size w7 w') := Lib.hid fun V hV => by
       obtain ⟨g8, g9⟩ := HX.out V hV
       have h8 := g8.read
       have h9 := g9.read
       rw [HFE.out] at h8 h9
       exact (sameHall_any h9 h8).mono fun e w' ⟨h5, h6⟩ => ⟨h5, hV.trans (h6.mono hV.size)⟩
      obtain ⟨⟨x0, x1, x2, x3, x4, x5, x6, x7⟩, y0, y1, y2, y3, y4, y5, y6, y7⟩ := HXB.out _ hb7
      clear hf hcc
      go_region_held3 (fun V : World => (V.cell? ⟨hb, 0, none⟩ = some (.int .i64 2) ∧ V.cell? ⟨hb, 1, none⟩ = some (.int .i64 s'.now) ∧ V.cell? ⟨hb, 2, none⟩ = some (.int .i64 (s'.pipes.chs.length : Nat)) ∧ V.cell? ⟨hb, 3, none⟩ = some (.slice b1 s'.tasks.length l1) ∧ V.cell? ⟨hb, 4, none⟩ = some (.slice b2 s'.tasks.length l2) ∧ V.cell? ⟨hb, 5, none⟩ = some (.slice b3 s'.globals.length l3) ∧ V.cell? ⟨hb, 6, none⟩ = some (.slice b4 s'.pipes.chs.length l4) ∧ V.cell? ⟨hb, 7, none⟩ = some (.slice b5 s'.out.length l5)) ∧ V.cell? ⟨hb2, 0, none⟩ = some (.int .i64 2) ∧ V.cell? ⟨hb2, 1, none⟩ = some (.int .i64 s'.now) ∧ V.cell? ⟨hb2, 2, none⟩ = some (.int .i64 (s'.pipes.chs.length : Nat)) ∧ V.cell? ⟨hb2, 3, none⟩ = some (.slice c1 s'.tasks.length m1) ∧ V.cell? ⟨hb2, 4, none⟩ = some (.slice c2 s'.tasks.length m2) ∧ V.cell? ⟨hb2, 5, none⟩ = some (.slice c3 s'.globals.length m3) ∧ V.cell? ⟨hb2, 6, none⟩ = some (.slice c4 s'.pipes.chs.length m4) ∧ V.cell? ⟨hb2, 7, none⟩ = some (.slice c5 s'.out.length m5)) (first | exact HXB.out _ (by assumption) | exact HXB.out _ (Below.drew (by assumption)))
       ((first
        | (go_at_call 30; refine (HSH.out _ ?_).mono ?_; (first | assumption | exact Below.drew (by assumption)); rintro e w8 ⟨rfl, hv8⟩)
        | (go_at_call 15; refine (HCHO.out _ ?_).mono ?_; (first | assumption | exact Below.drew (by assumption)); rintro e w9 ⟨rfl, hv9⟩)))
      rename (_ ∧ _) ∧ _ => hHx
      clear hHx
      have HV9 := Lib.hid hv9
      clear x0 x1 x2 x3 x4 x5 x6 x7 y0 y1 y2 y3 y4 y5 y6 y7 hv9 hb7
      obtain ⟨d1, d2, d3, d4, d5, e1, e2, e3, e4, e5, gg⟩ : ∃ d1 d2 d3 d4 d5 e1 e2 e3 e4 e5, HallAt s' hb2 w9 d1 d2 d3 d4 d5 e1 e2 e3 e4 e5 := ⟨_, _, _, _, _, _, _, _, _, _, (HX.out w9 HV9.out).2⟩
      have r0 := gg.c0
      have r3 := gg.c3
      rw [HFE.out] at r0
      obtain ⟨T', hT'⟩ : ∃ z, z = s'.tasks.length := ⟨_, rfl⟩
      have HT' := Lib.hid hT'
      have hT1 : 0 < T' := by rw [hT']; exact HONE.out.1
      have hT2 : T' ≤ 100000 := by rw [hT']; exact HONE.out.2
      rw [← hT'] at r3
      have tz : ((T' : Int) == 0) = false := by rw [beq_eq_false_iff_ne]; omega
      have tz2 : ¬ (T' : Int) = 0 := by omega
      have ti : (0 : Int) ≤ 0 ∧ (0 : Int) < (T' : Int) := by omega
      obtain ⟨y0, hy0⟩ : ∃ z, z = s'.tasks.getD 0 0 := ⟨_, rfl⟩
      obtain ⟨_, _, _, ea, ena, -, -, hcb⟩ := gg.tasks
      obtain ⟨ga, go4, eb, -, hca⟩ := hcb (by rw [ena, ← hT']; exact hT1)
      have u2 : w9.cell? ⟨ga, go4, none⟩ = some (.int .i64 (s'.tasks.getD 0 0)) := hca 0 (by rw [ena, ← hT']; exact hT1)
      injection ea with ea eaa eab
      rw [eb] at ea
      clear eaa eab
      rw [← hy0] at u2
      have hdone := HF'.out.done
      rw [HFE.out, ← hy0] at hdone
      have hy3 : (y0 == 3) = false := by rw [beq_eq_false_iff_ne]; intro e; have := hdone.2 e; omega
      have hst := HF'.out.stuck HFE.out
      have hi9 := gg.tasks
      have HN0 : Hid (∀ z, Calls Tryz.prog 32 #[.slice d1 T' e1, .int .i64 0] (w9.drewN z) fun e w' => e = .returned (.bool false) ∧ ∃ n, w' = w9.drewN n) := Lib.hid fun z => by
       rw [hT']
       exact (containsI_no (hi9.below (below_drewN w9 z)) (fun h => (hst 0 h).1 rfl) (by have := HONE.out.2; omega)).mono fun e w' ⟨h8, h9⟩ => ⟨h8, z, h9.symm⟩
      have HN2 : Hid (∀ z, Calls Tryz.prog 32 #[.slice d1 T' e1, .int .i64 2] (w9.drewN z) fun e w' => e = .returned (.bool false) ∧ ∃ n, w' = w9.drewN n) := Lib.hid fun z => by
       rw [hT']
       exact (containsI_no (hi9.below (below_drewN w9 z)) (fun h => (hst 2 h).2 rfl) (by have := HONE.out.2; omega)).mono fun e w' ⟨h8, h9⟩ => ⟨h8, z, h9.symm⟩
      clear hst hi9
      clear hca hcb hy0 eb ena gg hdone hT'
      subst ea
      go_upto_region 15 with fail
      go_quiet ((first | (go_at_call 32; first | exact HN0.out _ | exact HN2.out _)))
      go_wp2_with fail
      go_roundw
      case rel => exact ⟨i + 1, τ5, s', by omega, by go_num, (HBV.out w9 HV9.out).new (Keeps.of_new (below_drewN w9 nq)), HJ7.out.A, HF'.out⟩
      case measure => simp [intOf]; omega
     ·have HFE : Hid (s'.fin = f) := Lib.hid hf.symm
      have hc9 : cc = 0 := by rw [hcc]; exact Classical.byContradiction fun h9 => hf0 (hf.trans (HF'.out.going.2 h9))
      have tg0 : (f == 0) = false := by rw [beq_eq_false_iff_ne]; exact hf0
      have tg0b : (f != 0) = true := by rw [bne_iff_ne]; exact hf0
      have tg1 : (f == 1) = false := by rw [beq_eq_false_iff_ne]; exact hk1
      have tg2 : (f == 2) = false := by rw [beq_eq_false_iff_ne]; exact hk2
      have hn1 := hk1
      subst hc9
      have HXB : Hid (∀ V, Below w7.heap.size w7 V → (V.cell? ⟨hb, 0, none⟩ = some (.int .i64 f) ∧ V.cell? ⟨hb, 1, none⟩ = some (.int .i64 s'.now) ∧ V.cell? ⟨hb, 2, none⟩ = some (.int .i64 (s'.pipes.chs.length : Nat)) ∧ V.cell? ⟨hb, 3, none⟩ = some (.slice b1 s'.tasks.length l1) ∧ V.cell? ⟨hb, 4, none⟩ = some (.slice b2 s'.tasks.length l2) ∧ V.cell? ⟨hb, 5, none⟩ = some (.slice b3 s'.globals.length l3) ∧ V.cell? ⟨hb, 6, none⟩ = some (.slice b4 s'.pipes.chs.length l4) ∧ V.cell? ⟨hb, 7, none⟩ = some (.slice b5 s'.out.length l5)) ∧ V.cell? ⟨hb2, 0, none⟩ = some (.int .i64 f) ∧ V.cell? ⟨hb2, 1, none⟩ = some (.int .i64 s'.now) ∧ V.cell? ⟨hb2, 2, none⟩ = some (.int .i64 (s'.pipes.chs.length : Nat)) ∧ V.cell? ⟨hb2, 3, none⟩ = some (.slice c1 s'.tasks.length m1) ∧ V.cell? ⟨hb2, 4, none⟩ = some (.slice c2 s'.tasks.length m2) ∧ V.cell? ⟨hb2, 5, none⟩ = some (.slice c3 s'.globals.length m3) ∧ V.cell? ⟨hb2, 6, none⟩ = some (.slice c4 s'.pipes.chs.length m4) ∧ V.cell? ⟨hb2, 7, none⟩ = some (.slice c5 s'.out.length m5)) := Lib.hid fun V hV => by
       obtain ⟨g8, g9⟩ := HX.out V hV
       exact ⟨⟨by rw [← HFE.out]; exact g8.c0, g8.c1, g8.c2, g8.c3, g8.c4, g8.c5, g8.c6, g8.c7⟩, by rw [← HFE.out]; exact g9.c0, g9.c1, g9.c2, g9.c3, g9.c4, g9.c5, g9.c6, g9.c7⟩
      have HSH : Hid (∀ V, Below w7.heap.size w7 V → Calls Tryz.prog 30 #[.agg #[.int .i64 f, .int .i64 s'.now, .int .i64 (s'.pipes.chs.length : Nat), .slice c1 s'.tasks.length m1, .slice c2 s'.tasks.length m2, .slice c3 s'.globals.length m3, .slice c4 s'.pipes.chs.length m4, .slice c5 s'.out.length m5], .agg #[.int .i64 f, .int .i64 s'.now, .int .i64 (s'.pipes.chs.length : Nat), .slice b1 s'.tasks.length l1, .slice b2 s'.tasks.length l2, .slice b3 s'.globals.length l3, .slice b4 s'.pipes.chs.length l4, .slice b5 s'.out.length l5]] V fun e w' => e = .returned (.bool true) ∧ Below w7.heap.size w7 w') := Lib.hid fun V hV => by
       obtain ⟨g8, g9⟩ := HX.out V hV
       have h8 := g8.read
       have h9 := g9.read
       rw [HFE.out] at h8 h9
       exact (sameHall_any h9 h8).mono fun e w' ⟨h5, h6⟩ => ⟨h5, hV.trans (h6.mono hV.size)⟩
      obtain ⟨⟨x0, x1, x2, x3, x4, x5, x6, x7⟩, y0, y1, y2, y3, y4, y5, y6, y7⟩ := HXB.out _ hb7
      clear hf hcc
      go_region_held3 (fun V : World => (V.cell? ⟨hb, 0, none⟩ = some (.int .i64 f) ∧ V.cell? ⟨hb, 1, none⟩ = some (.int .i64 s'.now) ∧ V.cell? ⟨hb, 2, none⟩ = some (.int .i64 (s'.pipes.chs.length : Nat)) ∧ V.cell? ⟨hb, 3, none⟩ = some (.slice b1 s'.tasks.length l1) ∧ V.cell? ⟨hb, 4, none⟩ = some (.slice b2 s'.tasks.length l2) ∧ V.cell? ⟨hb, 5, none⟩ = some (.slice b3 s'.globals.length l3) ∧ V.cell? ⟨hb, 6, none⟩ = some (.slice b4 s'.pipes.chs.length l4) ∧ V.cell? ⟨hb, 7, none⟩ = some (.slice b5 s'.out.length l5)) ∧ V.cell? ⟨hb2, 0, none⟩ = some (.int .i64 f) ∧ V.cell? ⟨hb2, 1, none⟩ = some (.int .i64 s'.now) ∧ V.cell? ⟨hb2, 2, none⟩ = some (.int .i64 (s'.pipes.chs.length : Nat)) ∧ V.cell? ⟨hb2, 3, none⟩ = some (.slice c1 s'.tasks.length m1) ∧ V.cell? ⟨hb2, 4, none⟩ = some (.slice c2 s'.tasks.length m2) ∧ V.cell? ⟨hb2, 5, none⟩ = some (.slice c3 s'.globals.length m3) ∧ V.cell? ⟨hb2, 6, none⟩ = some (.slice c4 s'.pipes.chs.length m4) ∧ V.cell? ⟨hb2, 7, none⟩ = some (.slice c5 s'.out.length m5)) (first | exact HXB.out _ (by assumption) | exact HXB.out _ (Below.drew (by assumption)))
       ((first
        | (go_at_call 30; refine (HSH.out _ ?_).mono ?_; (first | assumption | exact Below.drew (by assumption)); rintro e w8 ⟨rfl, hv8⟩)
        | (go_at_call 15; refine (HCHO.out _ ?_).mono ?_; (first | assumption | exact Below.drew (by assumption)); rintro e w9 ⟨rfl, hv9⟩)))
      rename (_ ∧ _) ∧ _ => hHx
      clear hHx
      have HV9 := Lib.hid hv9
      clear x0 x1 x2 x3 x4 x5 x6 x7 y0 y1 y2 y3 y4 y5 y6 y7 hv9 hb7
      obtain ⟨d1, d2, d3, d4, d5, e1, e2, e3, e4, e5, gg⟩ : ∃ d1 d2 d3 d4 d5 e1 e2 e3 e4 e5, HallAt s' hb2 w9 d1 d2 d3 d4 d5 e1 e2 e3 e4 e5 := ⟨_, _, _, _, _, _, _, _, _, _, (HX.out w9 HV9.out).2⟩
      have r0 := gg.c0
      have r3 := gg.c3
      rw [HFE.out] at r0
      obtain ⟨T', hT'⟩ : ∃ z, z = s'.tasks.length := ⟨_, rfl⟩
      have HT' := Lib.hid hT'
      have hT1 : 0 < T' := by rw [hT']; exact HONE.out.1
      have hT2 : T' ≤ 100000 := by rw [hT']; exact HONE.out.2
      rw [← hT'] at r3
      have tz : ((T' : Int) == 0) = false := by rw [beq_eq_false_iff_ne]; omega
      have tz2 : ¬ (T' : Int) = 0 := by omega
      have ti : (0 : Int) ≤ 0 ∧ (0 : Int) < (T' : Int) := by omega
      obtain ⟨y0, hy0⟩ : ∃ z, z = s'.tasks.getD 0 0 := ⟨_, rfl⟩
      obtain ⟨_, _, _, ea, ena, -, -, hcb⟩ := gg.tasks
      obtain ⟨ga, go4, eb, -, hca⟩ := hcb (by rw [ena, ← hT']; exact hT1)
      have u2 : w9.cell? ⟨ga, go4, none⟩ = some (.int .i64 (s'.tasks.getD 0 0)) := hca 0 (by rw [ena, ← hT']; exact hT1)
      injection ea with ea eaa eab
      rw [eb] at ea
      clear eaa eab
      rw [← hy0] at u2
      have hdone := HF'.out.done
      rw [HFE.out, ← hy0] at hdone
      have hy3 : (y0 == 3) = false := by rw [beq_eq_false_iff_ne]; intro e; exact hn1 (hdone.2 e)
      clear hca hcb hy0 eb ena gg hdone hT'
      subst ea
      go_upto_region 15 with fail
      go_quiet (fail)
      go_wp2_with fail
      go_roundw
      case rel => exact ⟨i + 1, τ5, s', by omega, by go_num, (HBV.out w9 HV9.out).new (Keeps.of_new (below_drewN w9 nq)), HJ7.out.A, HF'.out⟩
      case measure => simp [intOf]; omega
   ·obtain rfl : i = n := by omega
    have hnn : ¬ (i : Int) < (i : Int) := by omega
    have HB := Lib.hid hT.bel
    clear hT hA hF
    go_wp2_with fail
    go_ret
    exact ⟨rfl, HB.out⟩
end Go.Proofs.YtnjdmijcoadidaaGreatDoor

namespace Go.Proofs.YtnjdmijcoadidaaGreatDoor
open Go.RowKit
theorem etG : Tryz.prog.globalNamed "errors.errorType" = some 0 := by kernel_rfl
theorem etRt : (Tryz.prog.cutTypes.find? (·.1 == "internal/reflectlite.rtype")).map (·.2) = some 289 := by kernel_rfl
theorem etOne : ((List.range Tryz.prog.types.size).filter fun t => Tryz.prog.rowNamed t [101, 114, 114, 111, 114]) = [33] := by kernel_rfl
theorem errT_of_laid {W : World} {l : List (String × DataW Unit)} (h : laidMetH Tryz.prog l W) (hm : ("errors.errorType", Rows.laid_errors_errorType) ∈ l) : ErrT W := by
  obtain ⟨name, u, ty, e1, e2, e3, e4, e5⟩ := (laidMetH_iff.1 h).2 _ (List.mem_filter.2 ⟨hm, rfl⟩)
  have en : name = [101, 114, 114, 111, 114] := (Option.some.inj e1).symm
  subst en
  obtain rfl := Option.some.inj (etRt.symm.trans e2)
  have hr : ty ∈ (List.range Tryz.prog.types.size).filter fun t => Tryz.prog.rowNamed t [101, 114, 114, 111, 114] := List.mem_filter.2 ⟨List.mem_range.2 e3, e4⟩
  rw [etOne] at hr
  obtain rfl := List.mem_singleton.1 hr
  have hh : typeHandle Tryz.prog 33 = .pointer (some ⟨1, 33, none⟩) := by kernel_rfl
  rw [hh] at e5
  simpa [ErrT] using World.var?_cell etG e5 0
end Go.Proofs.YtnjdmijcoadidaaGreatDoor

namespace Go.Proofs.YtnjdmijcoadidaaGreatDoor
open Go.RowKit
theorem errT_only {W : World} (h : laidMetH Tryz.prog [("errors.errorType", Rows.laid_errors_errorType)] W) : ErrT W := errT_of_laid h (List.mem_cons_self ..)
end Go.Proofs.YtnjdmijcoadidaaGreatDoor
