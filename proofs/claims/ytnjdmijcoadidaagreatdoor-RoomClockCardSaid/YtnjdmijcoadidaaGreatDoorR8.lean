/-
  Texts of one proof, in build order: Halls that are kept beside a room: as long as nobody writes where they lie. | Halls that are kept beside a room: laid anew where another one lay; a law's room, turn by turn. | The walk of the law RoomClock. | What the listed variable errors.errorType gives the walks. | What the listed variable errors.errorType, listed alone, gives the walks.
-/
import Derived.Test.YtnjdmijcoadidaaGreatDoorR7
import Derived.Test.YtnjdmijcoadidaaGreatDoorTie
import Derived.LaidMore
import Derived.Lib.LaidTab
namespace Go.Proofs.YtnjdmijcoadidaaGreatDoor
open Go.RowKit Go.Maps Pp

/-- What holds, and goes on to hold as long as blocks of F are let be. -/
def Stab (w : World) (F : Nat → Prop) (P : World → Prop) : Prop := P w ∧ ∀ (S : Nat → Prop) w', Keeps S w w' → (∀ b, F b → ¬ S b) → P w'
theorem Stab.keeps {w w' : World} {F S : Nat → Prop} {P : World → Prop} (h : Stab w F P) (hk : Keeps S w w') (hS : ∀ b, F b → ¬ S b) : Stab w' F P :=
  ⟨h.2 S w' hk hS, fun S' w'' hk' hS' => h.2 (fun b => S b ∨ S' b) w'' ((hk.mono fun _ _ e => Or.inl e).trans' (hk'.mono fun _ _ e => e) fun _ _ e => Or.inr e) fun b hb e => e.elim (hS b hb) (hS' b hb)⟩
theorem SeenC.keepsI {w w' : World} {B : Nat} {c : Ch} {v u1 u2 : Value} {S : Nat → Prop} (h : SeenC w B c v u1 u2) (hk : Keeps S w w') (hS : ∀ b, B ≤ b → b < w.heap.size → ¬ S b) : SeenC w' B c v u1 u2 :=
  h.keeps hk (fun b hb => by have h1 := World.ownsRow.lt h.nums b hb; exact hS b h1.1 h1.2) (fun b hb => by have h1 := World.ownsRow.lt h.sends b hb; exact hS b h1.1 h1.2) (fun b hb => by have h1 := World.ownsRow.lt h.recvs b hb; exact hS b h1.1 h1.2)
theorem Looked.keepsI {w w' : World} {B : Nat} {v : Value} {L : List Sn} {S : Nat → Prop} (h : Looked w B v L) (hk : Keeps S w w') (hS : ∀ b, B ≤ b → b < w.heap.size → ¬ S b) : Looked w' B v L :=
  ⟨hk.row h.row fun b hb => by have h1 := World.ownsRow.lt h.row b hb; exact hS b h1.1 h1.2, fun x hx => (h.seen x hx).keepsI hk hS⟩
section
variable {α : Type}
theorem HallSays.keepsI {w w' : World} {B : Nat} {v : Value} {s : Rm.S α} {S : Nat → Prop} (h : HallSays w B v s) (hk : Keeps S w w') (hS : ∀ b, B ≤ b → b < w.heap.size → ¬ S b) : HallSays w' B v s := by
  have hI : ∀ {u : Value} {xs : List Int}, OwnI w B u xs → OwnI w' B u xs := fun hu => hk.row hu fun b hb => by have h1 := World.ownsRow.lt hu b hb; exact hS b h1.1 h1.2
  obtain ⟨vt, vk, vg, vp, vo, e, h1, h2, h3, ⟨ap, kp, e2, L, hL, h4⟩, h5⟩ := h.ex
  exact ⟨vt, vk, vg, vp, vo, e, hI h1, hI h2, hI h3, ⟨ap, kp, e2, L, hL, h4.keepsI hk hS⟩, hI h5⟩
/-- A hall in a block of its own. -/
def HallCells (s : Rm.S α) (hb : Nat) (W : World) : Prop := ∃ arr : Array Value, (∀ j u, arr[j]? = some u → W.cell? ⟨hb, j, none⟩ = some u ∧ W.frozen? ⟨hb, j, none⟩ = false) ∧ ReadH W (.agg arr) s
/-- A hall that was just told, laid into a block. -/
theorem hall_stab {w5 : World} {B : Nat} {arr : Array Value} {s : Rm.S α} (h : HallSays w5 B (.agg arr) s) (hB : B ≤ w5.heap.size) : Stab (w5.alloc (.cells arr 47)) (fun b => B ≤ b ∧ b ≤ w5.heap.size) (HallCells s w5.heap.size) := by
  have hk0 : Keeps (fun _ => False) w5 (w5.alloc (.cells arr 47)) := (Keeps.refl (fun _ => False) w5).alloc _
  have hz : ∀ j, (w5.alloc (.cells arr 47)).frozen? ⟨w5.heap.size, j, none⟩ = false := fun j => by rw [World.frozen?_alloc_at _ _ _ _ rfl]
  refine ⟨⟨arr, fun j u hu => ⟨alloc_cells w5 arr _ j u hu, hz j⟩, (h.keepsI hk0 fun _ _ _ => id).read⟩, fun S w' hk hS => ⟨arr, fun j u hu => ?_, ?_⟩⟩
  · have hn : ¬ S w5.heap.size := hS _ ⟨hB, Nat.le_refl _⟩
    have h1 := alloc_cells w5 arr 47 j u hu
    refine ⟨hk.cell_of h1 hn, ?_⟩
    rw [hk.frozen (p := ⟨w5.heap.size, j, none⟩) (block_lt_of_cell h1) hn]
    exact hz j
  · have hk2 : Keeps (fun b => b < w5.heap.size ∧ S b) w5 w' := (hk0.mono fun _ _ e => e.elim).trans' (hk.mono (S' := S) fun _ _ e => e) fun b hb e => ⟨hb, e⟩
    exact (h.keepsI hk2 fun b h1 h2 e => hS b ⟨h1, by omega⟩ e.2).read
theorem wakesAt_get (s : Rm.S α) (k t : Nat) : (wakesAt s k).getD t 0 = if t ∈ s.live.take k ∧ t < s.tasks.length then whenV s t else 0 := by
  unfold wakesAt
  have key : ∀ (l : List Nat) (r : List Int), r.length = s.tasks.length → (l.foldl (fun l t => l.set t (whenV s t)) r).getD t 0 = if t ∈ l ∧ t < s.tasks.length then whenV s t else r.getD t 0 := by
    intro l
    induction l with
    | nil => intro r _; simp
    | cons x l ih =>
      intro r hr
      rw [List.foldl_cons, ih _ (by rw [List.length_set]; exact hr)]
      by_cases h1 : t ∈ l ∧ t < s.tasks.length
      · rw [if_pos h1, if_pos ⟨List.mem_cons_of_mem _ h1.1, h1.2⟩]
      · rw [if_neg h1]
        rw [List.getD_eq_getElem?_getD, List.getElem?_set]
        by_cases e : x = t
        · subst e
          by_cases h2 : x < s.tasks.length
          · rw [if_pos rfl, if_pos (by omega), if_pos ⟨List.mem_cons_self, h2⟩]; rfl
          · rw [if_pos rfl, if_neg (by omega), if_neg (fun h => h2 h.2), List.getD_eq_getElem?_getD, List.getElem?_eq_none (by omega)]
        · rw [if_neg e, if_neg (fun h => by
            rcases List.mem_cons.1 h.1 with h3 | h3
            · exact e h3.symm
            · exact h1 ⟨h3, h.2⟩), List.getD_eq_getElem?_getD]
  rw [key _ _ (by simp)]
  split
  · rfl
  · rw [List.getD_eq_getElem?_getD, List.getElem?_replicate]
    split <;> rfl
/-- When a task wakes that is asleep; 0 of any other. -/
theorem wakes_val {s : Rm.S α} (h : Rm.Inv [] s) {t : Nat} (ht : t < s.tasks.length) : (s.tasks.getD t 0 = 2 → s.now < (wakesV s).getD t 0) ∧ (s.tasks.getD t 0 ≠ 2 → (wakesV s).getD t 0 = 0) := by
  have hst : Rm.st s (t : Int) = s.tasks.getD t 0 := by rw [Rm.st_nat, Rm.getD_in ht 3 0]
  have hg := wakesAt_get s s.live.length t
  rw [List.take_length] at hg
  have hw : (wakesV s).getD t 0 = if t ∈ s.live ∧ t < s.tasks.length then whenV s t else 0 := hg
  rw [hw]
  constructor
  · intro h2
    have hl : t ∈ s.live := by
      rw [h.live]
      exact List.mem_filter.2 ⟨List.mem_range.2 ht, decide_eq_true (by rw [Rm.getD_in ht 3 0, h2]; decide)⟩
    rw [if_pos ⟨hl, ht⟩]
    obtain ⟨e, he, e2⟩ := List.mem_map.1 ((h.clk (t : Int)).2 ⟨by rw [hst]; exact h2, List.not_mem_nil⟩)
    unfold whenV
    cases hf : s.clock.find? fun e => decide (e.2 = (t : Int)) with
    | none => exact absurd (decide_eq_true e2) (by simpa using List.find?_eq_none.1 hf e he)
    | some x => exact (h.ctm x (List.mem_of_find?_eq_some hf)).1
  · intro h2
    have hz : whenV s t = 0 := by
      unfold whenV
      cases hf : s.clock.find? fun e => decide (e.2 = (t : Int)) with
      | none => rfl
      | some x =>
        have h3 : x.2 = (t : Int) := by have h9 := List.find?_some hf; simpa using h9
        have h4 := ((h.clk (t : Int)).1 (List.mem_map.2 ⟨x, List.mem_of_find?_eq_some hf, h3⟩)).1
        rw [hst] at h4
        exact absurd h4 h2
    split
    · exact hz
    · rfl
theorem wakesV_len (s : Rm.S α) : (wakesV s).length = s.tasks.length := wakesAt_len s _
end
/-- A beginning of numbers. -/
theorem IntsAt.head {w : World} {a : Option Addr} {n cap k : Nat} {l : List Int} (h : IntsAt w (.slice a n cap) l) (hk : k ≤ n) : IntsAt w (.slice a k cap) (l.take k) := by
  obtain ⟨ao, n', cap', e, hn, hc, hm, hx⟩ := h
  injection e with e1 e2 e3
  subst e1 e2 e3
  refine ⟨_, _, _, rfl, by rw [List.length_take]; omega, by omega, hm, fun h0 => ?_⟩
  obtain ⟨b, o, h1, h2, h3⟩ := hx (by omega)
  refine ⟨b, o, h1, h2, fun i hi => ?_⟩
  rw [h3 i (by omega), List.getD_eq_getElem?_getD, List.getD_eq_getElem?_getD, List.getElem?_take, if_pos hi]
end Go.Proofs.YtnjdmijcoadidaaGreatDoor

namespace Go.Proofs.YtnjdmijcoadidaaGreatDoor
open Go.RowKit Go.Maps Pp

def putL (w : World) (b k : Nat) : List Value → World
  | [] => w
  | u :: l => putL (w.setCell ⟨b, k, none⟩ u) b (k + 1) l
theorem putL_other {b : Nat} {p : Addr} : ∀ (l : List Value) (w : World) (k : Nat), (∀ j, k ≤ j → p ≠ ⟨b, j, none⟩) → (putL w b k l).cell? p = w.cell? p
  | [], _, _, _ => rfl
  | u :: l, w, k, h => by
    show (putL (w.setCell ⟨b, k, none⟩ u) b (k + 1) l).cell? p = _
    rw [putL_other l _ _ fun j hj => h j (by omega), World.cell?_setCell_other _ _ _ _ (fun e => h k (Nat.le_refl _) e.symm)]
theorem putL_frozen {b : Nat} (p : Addr) : ∀ (l : List Value) (w : World) (k : Nat), (putL w b k l).frozen? p = w.frozen? p
  | [], _, _ => rfl
  | u :: l, w, k => by
    show (putL (w.setCell ⟨b, k, none⟩ u) b (k + 1) l).frozen? p = _
    rw [putL_frozen p l, World.frozen?_setCell]
theorem putL_keeps {b : Nat} : ∀ (l : List Value) (w : World) (k : Nat), Keeps (fun g => g = b) w (putL w b k l)
  | [], w, _ => Keeps.refl _ w
  | u :: l, w, k => ((Keeps.refl (fun g => g = b) w).setCell (p := ⟨b, k, none⟩) (Or.inl rfl) u).trans (putL_keeps l _ (k + 1))
theorem putL_at {b : Nat} : ∀ (l : List Value) (w : World) (k i : Nat) (u : Value), l[i]? = some u → (∃ x, w.cell? ⟨b, k + i, none⟩ = some x) → (putL w b k l).cell? ⟨b, k + i, none⟩ = some u
  | [], _, _, _, _, h, _ => by cases h
  | v :: l, w, k, 0, u, h, hx => by
    cases h
    show (putL (w.setCell ⟨b, k, none⟩ v) b (k + 1) l).cell? ⟨b, k + 0, none⟩ = some v
    rw [putL_other l _ _ fun j hj e => by injection e with _ e; omega]
    obtain ⟨x, hx⟩ := hx
    exact World.cell?_setCell_same _ _ _ hx
  | v :: l, w, k, i + 1, u, h, hx => by
    have e : k + (i + 1) = k + 1 + i := by omega
    rw [e] at hx ⊢
    show (putL (w.setCell ⟨b, k, none⟩ v) b (k + 1) l).cell? ⟨b, k + 1 + i, none⟩ = some u
    refine putL_at l _ (k + 1) i u (by simpa using h) ?_
    obtain ⟨x, hx⟩ := hx
    exact ⟨x, by rw [World.cell?_setCell_other _ _ _ _ (fun e => by injection e with _ e; omega)]; exact hx⟩
section
variable {α : Type} {w0 : World} {C : DoerW α w0}
/-- The cells of a hall. -/
structure HallAt (s : Rm.S α) (hb : Nat) (W : World) (a1 a2 a3 a4 a5 : Option Addr) (k1 k2 k3 k4 k5 : Nat) : Prop where
  c0 : W.cell? ⟨hb, 0, none⟩ = some (.int .i64 s.fin)
  c1 : W.cell? ⟨hb, 1, none⟩ = some (.int .i64 s.now)
  c2 : W.cell? ⟨hb, 2, none⟩ = some (.int .i64 (s.pipes.chs.length : Nat))
  c3 : W.cell? ⟨hb, 3, none⟩ = some (.slice a1 s.tasks.length k1)
  c4 : W.cell? ⟨hb, 4, none⟩ = some (.slice a2 s.tasks.length k2)
  c5 : W.cell? ⟨hb, 5, none⟩ = some (.slice a3 s.globals.length k3)
  c6 : W.cell? ⟨hb, 6, none⟩ = some (.slice a4 s.pipes.chs.length k4)
  c7 : W.cell? ⟨hb, 7, none⟩ = some (.slice a5 s.out.length k5)
  z : ∀ j, j < 8 → W.frozen? ⟨hb, j, none⟩ = false
  tasks : IntsAt W (.slice a1 s.tasks.length k1) s.tasks
  wakes : IntsAt W (.slice a2 s.tasks.length k2) (wakesV s)
  out : IntsAt W (.slice a5 s.out.length k5) s.out
  read : ReadH W (.agg #[.int .i64 s.fin, .int .i64 s.now, .int .i64 (s.pipes.chs.length : Nat), .slice a1 s.tasks.length k1, .slice a2 s.tasks.length k2, .slice a3 s.globals.length k3, .slice a4 s.pipes.chs.length k4, .slice a5 s.out.length k5]) s
theorem HallCells.at {s : Rm.S α} {hb : Nat} {W : World} (h : HallCells s hb W) : ∃ a1 a2 a3 a4 a5 k1 k2 k3 k4 k5, HallAt s hb W a1 a2 a3 a4 a5 k1 k2 k3 k4 k5 := by
  obtain ⟨arr, h1, h2⟩ := h
  have h2' := h2
  obtain ⟨a1, k1, a2, k2, a3, k3, a4, k4, a5, k5, e, g1, g2, g3, g4, g5⟩ := h2.ex
  injection e with e
  subst e
  rw [wakesV_len] at h1 h2' g2
  refine ⟨a1, a2, a3, a4, a5, k1, k2, k3, k4, k5, (h1 0 _ rfl).1, (h1 1 _ rfl).1, (h1 2 _ rfl).1, (h1 3 _ rfl).1, (h1 4 _ rfl).1, (h1 5 _ rfl).1, (h1 6 _ rfl).1, (h1 7 _ rfl).1, fun j hj => ?_, g1, g2, g5, h2'⟩
  match j, hj with
  | 0, _ => exact (h1 0 _ rfl).2
  | 1, _ => exact (h1 1 _ rfl).2
  | 2, _ => exact (h1 2 _ rfl).2
  | 3, _ => exact (h1 3 _ rfl).2
  | 4, _ => exact (h1 4 _ rfl).2
  | 5, _ => exact (h1 5 _ rfl).2
  | 6, _ => exact (h1 6 _ rfl).2
  | 7, _ => exact (h1 7 _ rfl).2
theorem HallCells.below {s : Rm.S α} {hb : Nat} {W W' : World} (h : HallCells s hb W) (hk : Below W.heap.size W W') : HallCells s hb W' := by
  obtain ⟨arr, h1, h2⟩ := h
  refine ⟨arr, fun j u hu => ?_, h2.below hk⟩
  obtain ⟨g1, g2⟩ := h1 j u hu
  have hl := block_lt_of_cell g1
  refine ⟨(hk.cell (p := ⟨hb, j, none⟩) hl).trans g1, ?_⟩
  rw [(Keeps.of_new (S := fun _ => False) hk).frozen (p := ⟨hb, j, none⟩) hl id]
  exact g2
/-- Another hall where one lay. -/
theorem hall_put {s s' : Rm.S α} {hb hb2 : Nat} {W : World} {F : Nat → Prop} {a1 a2 a3 a4 a5 : Option Addr} {k1 k2 k3 k4 k5 : Nat} (h : Stab W F (HallCells s' hb2)) (hat : HallAt s' hb2 W a1 a2 a3 a4 a5 k1 k2 k3 k4 k5) (h0 : HallCells s hb W) (hF : ¬ F hb) (hF2 : F hb2) :
    Stab (putL W hb 0 [.int .i64 s'.fin, .int .i64 s'.now, .int .i64 (s'.pipes.chs.length : Nat), .slice a1 s'.tasks.length k1, .slice a2 s'.tasks.length k2, .slice a3 s'.globals.length k3, .slice a4 s'.pipes.chs.length k4, .slice a5 s'.out.length k5]) (fun b => b = hb ∨ F b) (HallCells s' hb) := by
  obtain ⟨b1, b2, b3, b4, b5, l1, l2, l3, l4, l5, g⟩ := h0.at
  have ht : ∀ (S : Nat → Prop) W', Keeps S W W' → (∀ b, F b → ¬ S b) → ReadH W' (.agg #[.int .i64 s'.fin, .int .i64 s'.now, .int .i64 (s'.pipes.chs.length : Nat), .slice a1 s'.tasks.length k1, .slice a2 s'.tasks.length k2, .slice a3 s'.globals.length k3, .slice a4 s'.pipes.chs.length k4, .slice a5 s'.out.length k5]) s' := fun S W' hk hS => by
    obtain ⟨e1, e2, e3, e4, e5, m1, m2, m3, m4, m5, g'⟩ := (h.2 S W' hk hS).at
    have hn := hS hb2 hF2
    have q3 := (hk.cell_of hat.c3 hn).symm.trans g'.c3
    have q4 := (hk.cell_of hat.c4 hn).symm.trans g'.c4
    have q5 := (hk.cell_of hat.c5 hn).symm.trans g'.c5
    have q6 := (hk.cell_of hat.c6 hn).symm.trans g'.c6
    have q7 := (hk.cell_of hat.c7 hn).symm.trans g'.c7
    simp only [Option.some.injEq, Value.slice.injEq] at q3 q4 q5 q6 q7
    obtain ⟨rfl, _, rfl⟩ := q3
    obtain ⟨rfl, _, rfl⟩ := q4
    obtain ⟨rfl, _, rfl⟩ := q5
    obtain ⟨rfl, _, rfl⟩ := q6
    obtain ⟨rfl, _, rfl⟩ := q7
    exact g'.read
  have hex : ∀ j, j < 8 → ∃ x, W.cell? ⟨hb, 0 + j, none⟩ = some x := fun j hj => by
    rw [Nat.zero_add]
    match j, hj with
    | 0, _ => exact ⟨_, g.c0⟩
    | 1, _ => exact ⟨_, g.c1⟩
    | 2, _ => exact ⟨_, g.c2⟩
    | 3, _ => exact ⟨_, g.c3⟩
    | 4, _ => exact ⟨_, g.c4⟩
    | 5, _ => exact ⟨_, g.c5⟩
    | 6, _ => exact ⟨_, g.c6⟩
    | 7, _ => exact ⟨_, g.c7⟩
  have hkp := putL_keeps (b := hb) [.int .i64 s'.fin, .int .i64 s'.now, .int .i64 (s'.pipes.chs.length : Nat), .slice a1 s'.tasks.length k1, .slice a2 s'.tasks.length k2, .slice a3 s'.globals.length k3, .slice a4 s'.pipes.chs.length k4, .slice a5 s'.out.length k5] W 0
  have key : ∀ (S : Nat → Prop) W', Keeps S (putL W hb 0 [.int .i64 s'.fin, .int .i64 s'.now, .int .i64 (s'.pipes.chs.length : Nat), .slice a1 s'.tasks.length k1, .slice a2 s'.tasks.length k2, .slice a3 s'.globals.length k3, .slice a4 s'.pipes.chs.length k4, .slice a5 s'.out.length k5]) W' → (∀ b, b = hb ∨ F b → ¬ S b) → HallCells s' hb W' := fun S W' hk hS => by
    refine ⟨#[.int .i64 s'.fin, .int .i64 s'.now, .int .i64 (s'.pipes.chs.length : Nat), .slice a1 s'.tasks.length k1, .slice a2 s'.tasks.length k2, .slice a3 s'.globals.length k3, .slice a4 s'.pipes.chs.length k4, .slice a5 s'.out.length k5], fun j u hu => ?_, ?_⟩
    · have hj : j < 8 := (Array.getElem?_eq_some_iff.1 hu).1
      have h1 := putL_at (b := hb) [.int .i64 s'.fin, .int .i64 s'.now, .int .i64 (s'.pipes.chs.length : Nat), .slice a1 s'.tasks.length k1, .slice a2 s'.tasks.length k2, .slice a3 s'.globals.length k3, .slice a4 s'.pipes.chs.length k4, .slice a5 s'.out.length k5] W 0 j u (by simpa using hu) (hex j hj)
      rw [Nat.zero_add] at h1
      have hn : ¬ S hb := hS hb (Or.inl rfl)
      refine ⟨hk.cell_of h1 hn, ?_⟩
      rw [hk.frozen (p := ⟨hb, j, none⟩) (block_lt_of_cell h1) hn, putL_frozen]
      exact g.z j hj
    · refine ht (fun b => b = hb ∨ S b) W' ((hkp.mono fun _ _ e => Or.inl e).trans' (hk.mono fun _ _ e => e) fun _ _ e => Or.inr e) fun b hb2 e => ?_
      rcases e with e | e
      · rw [e] at hb2; exact hF hb2
      · exact hS b (Or.inr hb2) e
  exact ⟨key (fun _ => False) _ (Keeps.refl _ _) fun _ _ => id, key⟩
/-- A law's room behind some turns, and a hall that lies beside. -/
structure LoopJ (w : World) (C : DoerW α w) (wr : World) (τ : Nat → RR) (rb i : Nat) (s u : Rm.S α) (hb : Nat) (F : Nat → Prop) : Prop where
  T : RoomT w C wr τ rb i s
  A : Rm.At C.num C.big i s
  H : Stab wr F (HallCells u hb)
  fr : ∀ b, F b → τ b = .free ∧ b < wr.heap.size ∧ w.heap.size ≤ b
  F0 : F hb
theorem LoopJ.new {w wr w' : World} {C : DoerW α w} {τ : Nat → RR} {rb i hb : Nat} {s u : Rm.S α} {F : Nat → Prop} (h : LoopJ w C wr τ rb i s u hb F) (hk : Keeps (fun _ => False) wr w') : LoopJ w C w' τ rb i s u hb F :=
  ⟨h.T.new hk, h.A, h.H.keeps hk fun _ _ => id, fun b hb => ⟨(h.fr b hb).1, Nat.lt_of_lt_of_le (h.fr b hb).2.1 hk.size, (h.fr b hb).2.2⟩, h.F0⟩
theorem LoopJ.turn {w wr : World} {C : DoerW α w} {τ : Nat → RR} {rb i hb : Nat} {s u : Rm.S α} {F : Nat → Prop} (h : LoopJ w C wr τ rb i s u hb F) (hE : ErrT w) (hi : i ≤ 1000) (x y : Int) (hd : -9223372036854775808 ≤ y ∧ y ≤ 9223372036854775807) :
    Calls Tryz.prog 17 #[.pointer (some ⟨rb, 0, none⟩), .agg #[.int .i64 x, .int .i64 y]] wr fun e w' => e = .returned (.bool (decide (Rm.choices s ≠ 0))) ∧ ∃ τ', LoopJ w C w' τ' rb (i + 1) (Rm.turn C.D s x y) u hb F := by
  refine (turn_open h.T h.A hE (by omega) hi x y hd).mono ?_
  rintro e w' ⟨rfl, hg⟩
  obtain ⟨τ', hT, hf⟩ := hg.ex
  exact ⟨rfl, τ', hT, h.A.turn C.bd x y, h.H.keeps hg.keep fun b hb e => e (h.fr b hb).1, fun b hb => ⟨hf b (h.fr b hb).2.1 (h.fr b hb).1, Nat.lt_of_lt_of_le (h.fr b hb).2.1 hg.keep.size, (h.fr b hb).2.2⟩, h.F0⟩
def hallArr (s : Rm.S α) (a1 a2 a3 a4 a5 : Option Addr) (k1 k2 k3 k4 k5 : Nat) : Array Value := #[.int .i64 s.fin, .int .i64 s.now, .int .i64 (s.pipes.chs.length : Nat), .slice a1 s.tasks.length k1, .slice a2 s.tasks.length k2, .slice a3 s.globals.length k3, .slice a4 s.pipes.chs.length k4, .slice a5 s.out.length k5]
/-- What a hall that is told, and laid into a block, leaves. -/
structure Halled (w : World) (C : DoerW α w) (wr w2 : World) (τ : Nat → RR) (rb i : Nat) (s : Rm.S α) (arr : Array Value) : Prop where
  T : RoomT w C (w2.alloc (.cells arr 47)) τ rb i s
  H : Stab (w2.alloc (.cells arr 47)) (fun b => wr.heap.size ≤ b ∧ b ≤ w2.heap.size) (HallCells s w2.heap.size)
  fr : ∀ b, wr.heap.size ≤ b ∧ b ≤ w2.heap.size → τ b = .free ∧ b < (w2.alloc (.cells arr 47)).heap.size ∧ w.heap.size ≤ b
  bel : Below wr.heap.size wr (w2.alloc (.cells arr 47))
  le : wr.heap.size ≤ w2.heap.size
theorem halled_any {w wr : World} {C : DoerW α w} {τ : Nat → RR} {rb i : Nat} {s : Rm.S α} (hT : RoomT w C wr τ rb i s) (hA : Rm.At C.num C.big i s) (hi : i ≤ 1000) :
    Calls Tryz.prog 20 #[.pointer (some ⟨rb, 0, none⟩)] wr fun e w2 => ∃ a1 a2 a3 a4 a5 k1 k2 k3 k4 k5, e = .returned (.agg (hallArr s a1 a2 a3 a4 a5 k1 k2 k3 k4 k5)) ∧ Halled w C wr w2 τ rb i s (hallArr s a1 a2 a3 a4 a5 k1 k2 k3 k4 k5) := by
  refine (hall_open hT hA (by omega) hi).mono ?_
  rintro e w2 ⟨v, rfl, hs, hb⟩
  obtain ⟨a1, k1, a2, k2, a3, k3, a4, k4, a5, k5, rfl, -⟩ := hs.read.ex
  rw [wakesV_len] at hs ⊢
  have hb3 : Below wr.heap.size wr (w2.alloc (.cells (hallArr s a1 a2 a3 a4 a5 k1 k2 k3 k4 k5) 47)) := hb.alloc hb.size _
  refine ⟨a1, a2, a3, a4, a5, k1, k2, k3, k4, k5, rfl, hT.new (Keeps.of_new hb3), hall_stab hs hb.size, fun b h1 => ⟨Classical.byContradiction fun e => ?_, ?_, ?_⟩, hb3, hb.size⟩
  · have := hT.dom b e; omega
  · rw [show (w2.alloc (.cells (hallArr s a1 a2 a3 a4 a5 k1 k2 k3 k4 k5) 47)).heap.size = w2.heap.size + 1 by simp]; omega
  · have := hT.bel.size; omega
end
end Go.Proofs.YtnjdmijcoadidaaGreatDoor

namespace Go.Proofs.YtnjdmijcoadidaaGreatDoor
open Go.RowKit Go.Maps Pp

set_option maxRecDepth 100000 in
set_option maxHeartbeats 12800000 in
theorem roomClock_any (v1 : Value) (Sc : List (List Rm.Ask)) (g : Int) (v3 : Value) (pl : List (Int × Int)) (w : World) (h1 : ScRaw w v1 Sc) (_g0 : -9223372036854775808 ≤ g) (_g1 : g ≤ 9223372036854775807) (h3 : PicksAt w v3 pl ∧ PicksWf pl) (hE : ErrT w) :
    Calls Tryz.prog 7 #[v1, .int .i64 g, v3] w fun e w' => e = .returned (.bool true) ∧ Below w.heap.size w w' := by
  have H1 := Lib.hid h1
  have H3 := Lib.hid h3
  have HE := Lib.hid hE
  obtain ⟨⟨po, pcap, rfl, hpc, hpm, -⟩, -⟩ := h3
  obtain ⟨n, hn⟩ : ∃ n, n = pl.length := ⟨_, rfl⟩
  have HN := Lib.hid hn
  rw [← hn] at hpc H3 ⊢
  unfold maxLen at hpm
  clear h1 hE hn
  go_enter Tryz.func7, Tryz.ntmps7
  go_wp2_with fail
  refine (roomed_any w HE.out).mono ?_
  rintro e w1 ⟨rfl, hb1⟩
  have HB1 := Lib.hid hb1
  clear hb1
  go_wp2_with fail
  refine (opened_any HB1.out H1.out H3.out.1 g).mono ?_
  rintro e w2 ho
  cases ho with
  | none he hb =>
    have HB := Lib.hid (HB1.out.trans (hb.mono HB1.out.size))
    subst he
    clear hb
    go_wp2_with fail
    go_ret
    exact ⟨rfl, HB.out⟩
  | some C rb τ hD he hT hA hb hf h6 hp =>
    subst he
    have HPL : Hid (n ≤ 80) := Lib.hid (by rw [HN.out]; exact hp)
    have HC := Lib.hid (halled_any hT hA (by omega))
    generalize Rm.start (pyDoer Sc) (pickN g 9) py0 = s0 at *
    have HA0 := Lib.hid hA
    clear hp hT hA hb hf h6 hD
    go_wp2_with fail
    refine HC.out.mono ?_
    rintro e w3 ⟨a1, a2, a3, a4, a5, k1, k2, k3, k4, k5, rfl, hh⟩
    have HJ0 : Hid (LoopJ w C (w3.alloc (.cells (hallArr s0 a1 a2 a3 a4 a5 k1 k2 k3 k4 k5) 47)) τ rb 0 s0 s0 w3.heap.size (fun b => w2.heap.size ≤ b ∧ b ≤ w3.heap.size)) := Lib.hid ⟨hh.T, HA0.out, hh.H, hh.fr, hh.le, Nat.le_refl _⟩
    clear hh HC
    unfold hallArr at HJ0 ⊢
    go_upto_region 8 with fail
    generalize w3.alloc (.cells #[.int .i64 s0.fin, .int .i64 s0.now, .int .i64 (s0.pipes.chs.length : Nat), .slice a1 s0.tasks.length k1, .slice a2 s0.tasks.length k2, .slice a3 s0.globals.length k3, .slice a4 s0.pipes.chs.length k4, .slice a5 s0.out.length k5] 47) = w4 at *
    generalize w3.heap.size = hb at *
    go_wp2_with fail
    go_loopw [9] (fun iv wr => ∃ (i : Nat) (τ' : Nat → RR) (s : Rm.S Py) (F : Nat → Prop), i ≤ n ∧ iv = .int .i64 i ∧ LoopJ w C wr τ' rb i s s hb F) (fun iv _ => n - (intOf iv).toNat)
    case atStart => exact ⟨0, τ, s0, _, Nat.zero_le _, rfl, HJ0.out⟩
    case round =>
      obtain ⟨i, τ', s, F, hi, rfl, hJ⟩ := hrel
      rename World => wr
      have HJ := Lib.hid hJ
      clear HJ0 HA0
      by_cases hin : i < n
      · obtain ⟨⟨x, y⟩, hx⟩ : ∃ x, pl[i]? = some x := ⟨_, List.getElem?_eq_getElem (by rw [← HN.out]; exact hin)⟩
        obtain ⟨po', pcap', e, -, -, hcell⟩ := H3.out.1.below hJ.T.bel
        obtain ⟨gp, go, e2, -, hcell⟩ := hcell (by rw [← HN.out]; omega)
        obtain ⟨p0, p1⟩ := hcell i _ hx
        injection e with e3 e4 e5
        rw [e2] at e3
        subst e3
        simp only at p0 p1
        have hii : (0 : Int) ≤ (i : Int) ∧ (i : Int) < (n : Int) := by omega
        have hyb := (H3.out.2 _ (List.mem_of_getElem? hx)).2
        have HCT := Lib.hid (hJ.turn HE.out (by have := HPL.out; omega) x y hyb)
        have HST := Lib.hid (Rm.Step.turn (num := C.num) (big := C.big) C.bd hJ.A.inv x y)
        clear hcell hx hyb e4 e5 hJ
        go_wp2_with fail
        refine HCT.out.mono ?_
        rintro e w5 ⟨rfl, τ5, hJ5⟩
        obtain ⟨s', hs'⟩ : ∃ s', s' = Rm.turn C.D s x y := ⟨_, rfl⟩
        rw [← hs'] at hJ5 HST
        have HJ5 := Lib.hid hJ5
        have HC := Lib.hid (halled_any hJ5.T hJ5.A (by have := HPL.out; omega))
        clear hJ5 hs' p0 p1 HCT
        go_wp2_with fail
        refine HC.out.mono ?_
        rintro e w6 ⟨a1, a2, a3, a4, a5, k1, k2, k3, k4, k5, rfl, hh⟩
        have HH := Lib.hid hh
        clear hh HC
        unfold hallArr at HH ⊢
        go_upto_region 12 with fail
        generalize hw7 : w6.alloc (.cells #[.int .i64 s'.fin, .int .i64 s'.now, .int .i64 (s'.pipes.chs.length : Nat), .slice a1 s'.tasks.length k1, .slice a2 s'.tasks.length k2, .slice a3 s'.globals.length k3, .slice a4 s'.pipes.chs.length k4, .slice a5 s'.out.length k5] 47) = w7 at *
        have HT7 : Hid (RoomT w C w7 τ5 rb (i + 1) s') := Lib.hid (by have h9 := HH.out.T; rw [hw7] at h9; exact h9)
        have HH7 : Hid (Stab w7 (fun b => w5.heap.size ≤ b ∧ b ≤ w6.heap.size) (HallCells s' w6.heap.size)) := Lib.hid (by have h9 := HH.out.H; rw [hw7] at h9; exact h9)
        have HF7 : Hid (∀ b, w5.heap.size ≤ b ∧ b ≤ w6.heap.size → τ5 b = .free ∧ b < w7.heap.size ∧ w.heap.size ≤ b) := Lib.hid (by have h9 := HH.out.fr; rw [hw7] at h9; exact h9)
        have hbel7 : Below w5.heap.size w5 w7 := by have h9 := HH.out.bel; rw [hw7] at h9; exact h9
        have HJ7 := Lib.hid (HJ5.out.new (Keeps.of_new hbel7))
        have HLE : Hid (w5.heap.size ≤ w6.heap.size) := Lib.hid HH.out.le
        have HFB : Hid (∀ b, F b → b < w5.heap.size) := Lib.hid fun b hb9 => (HJ5.out.fr b hb9).2.1
        clear hw7 HH hbel7 HJ5
        generalize hhb2 : w6.heap.size = hb2 at *
        clear hhb2
        obtain ⟨b1, b2, b3, b4, b5, l1, l2, l3, l4, l5, g1⟩ := HJ7.out.H.1.at
        obtain ⟨c1, c2, c3, c4, c5, m1, m2, m3, m4, m5, g2⟩ := HH7.out.1.at
        have G1 := Lib.hid g1
        have G2 := Lib.hid g2
        have q1 := g1.c1
        have q2 := g1.c2
        have q3 := g1.c3
        have q7 := g1.c7
        have r1 := g2.c1
        have r2 := g2.c2
        have r3 := g2.c3
        have r4 := g2.c4
        have r7 := g2.c7
        have hOL : s.out.length ≤ s'.out.length := by obtain ⟨o, ho⟩ := HST.out.out; rw [ho, List.length_append]; omega
        have hOT : s'.out.take s.out.length = s.out := by obtain ⟨o, ho⟩ := HST.out.out; rw [ho, List.take_left']; rfl
        have HEQ : Hid (∀ z, Calls Tryz.prog 33 #[.slice c5 s.out.length m5, .slice b5 s.out.length l5] (w7.drewN z) fun e w' => e = .returned (.bool true) ∧ ∃ n, w' = w7.drewN n) := Lib.hid fun z => by
          have h8 := (g2.out.head hOL).below (below_drewN w7 z)
          rw [hOT] at h8
          exact (equalI_any _ _ s.out (w7.drewN z) h8 (g1.out.below (below_drewN w7 z))).mono fun e w' ⟨h5, n, h6⟩ => ⟨h5, z + n, by rw [h6, World.drewN_drewN]⟩
        have hcap : s'.out.length ≤ m5 := by obtain ⟨_, _, cc, e, _, h7, _⟩ := g2.out; injection e with _ e1 e2; omega
        have hnow := HST.out.now.1
        have htl := HST.out.tl
        have hch := HST.out.chs
        obtain ⟨nw, hnw⟩ : ∃ z, z = s.now := ⟨_, rfl⟩
        obtain ⟨nw', hnw'⟩ : ∃ z, z = s'.now := ⟨_, rfl⟩
        obtain ⟨T, hT⟩ : ∃ z, z = s.tasks.length := ⟨_, rfl⟩
        obtain ⟨T', hT'⟩ : ∃ z, z = s'.tasks.length := ⟨_, rfl⟩
        obtain ⟨M, hM⟩ : ∃ z, z = s.pipes.chs.length := ⟨_, rfl⟩
        obtain ⟨M', hM'⟩ : ∃ z, z = s'.pipes.chs.length := ⟨_, rfl⟩
        obtain ⟨O, hO⟩ : ∃ z, z = s.out.length := ⟨_, rfl⟩
        obtain ⟨O', hO'⟩ : ∃ z, z = s'.out.length := ⟨_, rfl⟩
        rw [← hnw] at q1 hnow
        rw [← hnw'] at r1 hnow
        rw [← hT] at q3 htl
        rw [← hT'] at r3 r4 htl
        rw [← hM] at q2 hch
        rw [← hM'] at r2 hch
        rw [← hO] at q7 HEQ hOL
        rw [← hO'] at r7 hOL hcap
        have HNW' := Lib.hid hnw'
        have HT := Lib.hid hT
        have HT' := Lib.hid hT'
        have t1 : decide (nw' < nw) = false := decide_eq_false (by omega)
        have t1' : ¬ nw' < nw := by omega
        have t2 : decide ((T' : Int) < (T : Int)) = false := decide_eq_false (by omega)
        have t2' : ¬ (T' : Int) < (T : Int) := by omega
        have t2'' : decide (T' < T) = false := decide_eq_false (by omega)
        have t2a : ¬ T' < T := by omega
        have t3 : ((T' : Int) != (T' : Int)) = false := by simp
        have t4 : decide ((M' : Int) < (M : Int)) = false := decide_eq_false (by omega)
        have t4' : ¬ (M' : Int) < (M : Int) := by omega
        have t4'' : decide (M' < M) = false := decide_eq_false (by omega)
        have t4a : ¬ M' < M := by omega
        have t5 : decide ((O' : Int) < (O : Int)) = false := decide_eq_false (by omega)
        have t5' : ¬ (O' : Int) < (O : Int) := by omega
        have t5'' : decide (O' < O) = false := decide_eq_false (by omega)
        have t5a : ¬ O' < O := by omega
        have t6 : (0 : Int) ≤ (O : Int) ∧ (O : Int) ≤ (m5 : Int) := by omega
        have t6' : O ≤ m5 := by omega
        clear g1 g2 hOT hnow htl hch hOL hcap hnw hnw' hT hT' hM hM' hO hO'
        go_quiet ((first | (go_at_call 33; exact HEQ.out _)))
        have hTb : T' ≤ 100000 := by rw [HT'.out]; have := HJ7.out.A.tasks; have := HPL.out; omega
        have hn80 : n ≤ 80 := HPL.out
        clear t1 t1' t2 t2' t2'' t2a t3 t4 t4' t4'' t4a t5 t5' t5'' t5a t6 t6' HEQ q1 q2 q7 r2 r7
        go_wp2_with fail
        go_loopw [11] (fun iv wq => ∃ t q : Nat, t ≤ T' ∧ iv = .int .i64 t ∧ wq = w7.drewN q) (fun iv _ => T' - (intOf iv).toNat)
        case atStart => exact ⟨0, nq, Nat.zero_le _, rfl, rfl⟩
        case round =>
          obtain ⟨t, q, ht, rfl, rfl⟩ := hrel
          by_cases htn : t < T'
          · obtain ⟨y2, hy2⟩ : ∃ z, z = s'.tasks.getD t 0 := ⟨_, rfl⟩
            obtain ⟨z2, hz2⟩ : ∃ z, z = (wakesV s').getD t 0 := ⟨_, rfl⟩
            obtain ⟨_, _, _, e6, en6, -, -, hce⟩ := G2.out.tasks
            obtain ⟨gb, go2, e7, -, hce⟩ := hce (by rw [en6, ← HT'.out]; omega)
            have u0 := hce t (by rw [en6, ← HT'.out]; exact htn)
            rw [← hy2] at u0
            injection e6 with e6 e6a e6b
            rw [e7] at e6
            clear e6a e6b
            obtain ⟨_, _, _, e8, en8, -, -, hcw⟩ := G2.out.wakes
            obtain ⟨gw, go3, e9, -, hcw⟩ := hcw (by rw [en8, wakesV_len, ← HT'.out]; omega)
            have u1 := hcw t (by rw [en8, wakesV_len, ← HT'.out]; exact htn)
            rw [← hz2] at u1
            injection e8 with e8 e8a e8b
            rw [e9] at e8
            clear e8a e8b
            subst e6 e8
            obtain ⟨hwk1, hwk2⟩ := wakes_val HJ7.out.A.inv (t := t) (by rw [← HT'.out]; exact htn)
            rw [← hy2, ← hz2, ← HNW'.out] at hwk1
            rw [← hy2, ← hz2] at hwk2
            have hii : (0 : Int) ≤ (t : Int) ∧ (t : Int) < (T' : Int) := by omega
            have hended : t < T → s.tasks.getD t 0 = 3 → y2 = 3 := fun h8 h9 => by
              have h7 := HST.out.e3 t (by rw [← HT.out]; exact h8) (by rw [Rm.getD_in (by rw [← HT.out]; exact h8) 3 0]; exact h9)
              rw [hy2, Rm.getD_in (by rw [← HT'.out]; exact htn) 0 3]; exact h7
            clear hce hcw hy2 hz2 e7 e9 en6 en8
            by_cases htT : t < T
            · have hTt : (t : Int) < (T : Int) := by omega
              have hTt2 : decide ((t : Int) < (T : Int)) = true := decide_eq_true hTt
              have hTt3 : (0 : Int) ≤ (t : Int) ∧ (t : Int) < (T : Int) := by omega
              obtain ⟨_, _, _, ea, ena, -, -, hca⟩ := G1.out.tasks
              obtain ⟨ga, go4, eb, -, hca⟩ := hca (by rw [ena, ← HT.out]; omega)
              have u2 := hca t (by rw [ena, ← HT.out]; exact htT)
              injection ea with ea eaa eab
              rw [eb] at ea
              clear eaa eab
              subst ea
              obtain ⟨x2, hx2⟩ : ∃ z, z = s.tasks.getD t 0 := ⟨_, rfl⟩
              rw [← hx2] at u2 hended
              clear hca hx2 eb ena
              by_cases hx3 : x2 = 3
              · have hy3 := hended htT hx3
                have hz := hwk2 (by rw [hy3]; decide)
                clear hwk1 hwk2 hended
                subst hx3 hy3 hz
                go_wp2_with fail
                go_quiet (fail)
                go_wp2_with fail
                go_roundw
                case rel => exact ⟨t + 1, _, by omega, by go_num, rfl⟩
                case measure => simp [intOf]; omega
              · have hx4 : (x2 == 3) = false := by rw [beq_eq_false_iff_ne]; exact hx3
                by_cases hy : y2 = 2
                · have hz := hwk1 hy
                  have v1' : ¬ z2 ≤ nw' := by omega
                  have v2 : decide (z2 ≤ nw') = false := decide_eq_false v1'
                  clear hwk1 hwk2 hended
                  subst hy
                  clear hz
                  go_wp2_with fail
                  go_quiet (fail)
                  go_wp2_with fail
                  go_roundw
                  case rel => exact ⟨t + 1, _, by omega, by go_num, rfl⟩
                  case measure => simp [intOf]; omega
                · have hz := hwk2 hy
                  have v1' : (y2 == 2) = false := by rw [beq_eq_false_iff_ne]; exact hy
                  have v2 : (y2 != 2) = true := by rw [bne_iff_ne]; exact hy
                  clear hwk1 hwk2 hended
                  subst hz
                  go_wp2_with fail
                  go_quiet (fail)
                  go_wp2_with fail
                  go_roundw
                  case rel => exact ⟨t + 1, _, by omega, by go_num, rfl⟩
                  case measure => simp [intOf]; omega
            · have hTt : ¬ (t : Int) < (T : Int) := by omega
              have hTt2 : decide ((t : Int) < (T : Int)) = false := decide_eq_false hTt
              by_cases hy : y2 = 2
              · have hz := hwk1 hy
                have v1' : ¬ z2 ≤ nw' := by omega
                have v2 : decide (z2 ≤ nw') = false := decide_eq_false v1'
                clear hwk1 hwk2 hended
                subst hy
                clear hz
                go_wp2_with fail
                go_quiet (fail)
                go_wp2_with fail
                go_roundw
                case rel => exact ⟨t + 1, _, by omega, by go_num, rfl⟩
                case measure => simp [intOf]; omega
              · have hz := hwk2 hy
                have v1' : (y2 == 2) = false := by rw [beq_eq_false_iff_ne]; exact hy
                have v2 : (y2 != 2) = true := by rw [bne_iff_ne]; exact hy
                clear hwk1 hwk2 hended
                subst hz
                go_wp2_with fail
                go_quiet (fail)
                go_wp2_with fail
                go_roundw
                case rel => exact ⟨t + 1, _, by omega, by go_num, rfl⟩
                case measure => simp [intOf]; omega
          · obtain rfl : t = T' := by omega
            have htt : ¬ (t : Int) < (t : Int) := by omega
            have hkd : Keeps (fun _ => False) w7 (w7.drewN q) := Keeps.of_new (below_drewN w7 q)
            have HJq := Lib.hid (HJ7.out.new hkd)
            have HHq := Lib.hid (HH7.out.keeps hkd fun _ _ => id)
            have HTq := Lib.hid (HT7.out.new hkd)
            have HFq : Hid (∀ b, w5.heap.size ≤ b ∧ b ≤ hb2 → τ5 b = .free ∧ b < (w7.drewN q).heap.size ∧ w.heap.size ≤ b) := Lib.hid HF7.out
            generalize w7.drewN q = wq at *
            clear G1 G2 HJ7 HH7 HT7 HF7 q3 r1 r3 r4 hkd
            obtain ⟨b1, b2, b3, b4, b5, l1, l2, l3, l4, l5, g1⟩ := HJq.out.H.1.at
            obtain ⟨c1, c2, c3, c4, c5, m1, m2, m3, m4, m5, g2⟩ := HHq.out.1.at
            have G2 := Lib.hid g2
            have q0 := g1.c0
            have q1 := g1.c1
            have q2 := g1.c2
            have q3 := g1.c3
            have q4 := g1.c4
            have q5 := g1.c5
            have q6 := g1.c6
            have q7 := g1.c7
            have z0 := g1.z 0 (by decide)
            have z1 := g1.z 1 (by decide)
            have z2 := g1.z 2 (by decide)
            have z3 := g1.z 3 (by decide)
            have z4 := g1.z 4 (by decide)
            have z5 := g1.z 5 (by decide)
            have z6 := g1.z 6 (by decide)
            have z7 := g1.z 7 (by decide)
            have r0 := g2.c0
            have r1 := g2.c1
            have r2 := g2.c2
            have r3 := g2.c3
            have r4 := g2.c4
            have r5 := g2.c5
            have r6 := g2.c6
            have r7 := g2.c7
            have hFhb : ¬ (w5.heap.size ≤ hb ∧ hb ≤ hb2) := fun e => by have := HFB.out hb HJq.out.F0; omega
            have hput := hall_put HHq.out g2 HJq.out.H.1 hFhb ⟨HLE.out, Nat.le_refl _⟩
            obtain ⟨wS, hwS⟩ : ∃ wS, wS = putL wq hb 0 [.int .i64 s'.fin, .int .i64 s'.now, .int .i64 (s'.pipes.chs.length : Nat), .slice c1 s'.tasks.length m1, .slice c2 s'.tasks.length m2, .slice c3 s'.globals.length m3, .slice c4 s'.pipes.chs.length m4, .slice c5 s'.out.length m5] := ⟨_, rfl⟩
            have hkS : Keeps (fun b => b = hb) wq wS := by rw [hwS]; exact putL_keeps _ _ _
            rw [← hwS] at hput
            have HJS : Hid (LoopJ w C wS τ5 rb (i + 1) s' s' hb (fun b => b = hb ∨ (w5.heap.size ≤ b ∧ b ≤ hb2))) := Lib.hid ⟨HTq.out.keeps hkS fun b _ e => by rw [show b = hb from e]; exact ⟨(HJq.out.fr hb HJq.out.F0).1, (HJq.out.fr hb HJq.out.F0).2.2⟩, HJq.out.A, hput, fun b hb9 => by
              rcases hb9 with e | e
              · rw [e]; exact ⟨(HJq.out.fr hb HJq.out.F0).1, Nat.lt_of_lt_of_le (HJq.out.fr hb HJq.out.F0).2.1 hkS.size, (HJq.out.fr hb HJq.out.F0).2.2⟩
              · exact ⟨(HFq.out b e).1, Nat.lt_of_lt_of_le (HFq.out b e).2.1 hkS.size, (HFq.out b e).2.2⟩, Or.inl rfl⟩
            unfold putL putL putL putL putL putL putL putL putL at hwS
            simp only [Nat.zero_add, Nat.reduceAdd] at hwS
            rw [← HT'.out] at hwS r3 r4
            clear g1 g2 hFhb hput hkS
            go_upto_region 9 with fail
            rw [← hwS]
            clear hwS q0 q1 q2 q3 q4 q5 q6 q7 z0 z1 z2 z3 z4 z5 z6 z7 r0 r1 r2 r3 r4 r5 r6 r7
            go_wp2_with fail
            go_roundw
            case rel => exact ⟨i + 1, τ5, s', _, by omega, by go_num, HJS.out⟩
            case measure => simp [intOf]; omega
      · obtain rfl : i = n := by omega
        have hnn : ¬ (i : Int) < (i : Int) := by omega
        have HB := Lib.hid HJ.out.T.bel
        go_wp2_with fail
        go_ret
        exact ⟨rfl, HB.out⟩
end Go.Proofs.YtnjdmijcoadidaaGreatDoor

namespace Go.Proofs.YtnjdmijcoadidaaGreatDoor
open Go.RowKit
theorem etG : Tryz.prog.globalNamed "errors.errorType" = some 0 := by kernel_rfl
theorem etRt : (Tryz.prog.cutTypes.find? (·.1 == "internal/reflectlite.rtype")).map (·.2) = some 289 := by kernel_rfl
theorem etOne : ((List.range Tryz.prog.types.size).filter fun t => Tryz.prog.rowNamed t [101, 114, 114, 111, 114]) = [33] := by kernel_rfl
theorem errT_of_laid {W : World} {l : List (String × DataW Unit)} (h : laidMetH Tryz.prog l W) (hm : ("errors.errorType", Rows.laid_errors_errorType) ∈ l) : ErrT W := by
  obtain ⟨name, u, ty, e1, e2, e3, e4, e5⟩ := (laidMetH_iff.1 h).2 _ (List.mem_filter.2 ⟨hm, rfl⟩)
  have en : name = [101, 114, 114, 111, 114] := (Option.some.inj e1).symm
  subst en
  obtain rfl := Option.some.inj (etRt.symm.trans e2)
  have hr : ty ∈ (List.range Tryz.prog.types.size).filter fun t => Tryz.prog.rowNamed t [101, 114, 114, 111, 114] := List.mem_filter.2 ⟨List.mem_range.2 e3, e4⟩
  rw [etOne] at hr
  obtain rfl := List.mem_singleton.1 hr
  have hh : typeHandle Tryz.prog 33 = .pointer (some ⟨1, 33, none⟩) := by kernel_rfl
  rw [hh] at e5
  simpa [ErrT] using World.var?_cell etG e5 0
end Go.Proofs.YtnjdmijcoadidaaGreatDoor

namespace Go.Proofs.YtnjdmijcoadidaaGreatDoor
open Go.RowKit
theorem errT_only {W : World} (h : laidMetH Tryz.prog [("errors.errorType", Rows.laid_errors_errorType)] W) : ErrT W := errT_of_laid h (List.mem_cons_self ..)
end Go.Proofs.YtnjdmijcoadidaaGreatDoor
