/-
  The walk of package pipe's Make.
-/
import Derived.Test.YtpehmghnfbkaaaaDoorPipeWF
namespace Go.Proofs.YtpehmghnfbkaaaaDoor
open Go.RowKit Go.Maps Pp

/-- What comes of making a channel: its number, what is wrong, and the channels. -/
structure Made where
  n : Int
  err : Int
  st : Pp.St
def makeV (s : Pp.St) (size : Int) : Made :=
  if size < 0 ∨ 8 < size then ⟨0, 2, s⟩ else if 32 ≤ s.chs.length then ⟨0, 12, s⟩ else ⟨(s.chs.length : Int) + 1, 0, ⟨s.chs ++ [newCh size.toNat], s.asks⟩⟩
theorem info_pch : (Tryd.prog.info? 76).map (fun i => (i.zero, i.size, i.bytes)) = some (some (.pointer none), 1, 8) := by kernel_rfl
/-- The roles of a new channel's blocks. -/
def roleNew (ρ : Nat → Role) (s0 k hi : Nat) (b : Nat) : Role := if b < s0 then ρ b else if b = s0 then .slots k else if b = s0 + 1 then .ring k else if b = s0 + 2 then .chan k else if b < hi then .chans else ρ b
/-- One more channel in memory. -/
theorem PipesAt.grow {w w1 w4 : World} {ρ : Nat → Role} {pb : Nat} {vch v' : Value} {ptr : List Nat} {mb : Option Nat} {D : DataW Value} {N M : Nat} {s : St} (h : PipesAt w ρ pb vch ptr mb D N M s) {n : Nat} (hm : s.chs.length < 32)
    (hb1 : Below w.heap.size w w1) (hs1 : w1.heap.size = w.heap.size + 2) (hr : RingL eI w1 (w.heap.size + 1) w.heap.size n []) {tc te : TypeId}
    (hg : ((w1.alloc (.cells #[.pointer (some ⟨w.heap.size + 1, 0, none⟩), .bool false, .slice none 0 0, .slice none 0 0] tc)).alloc (.cells #[.pointer (some ⟨w.heap.size + 2, 0, none⟩)] te)).grownBy w4 vch.ownBlock)
    (ho : w4.ownsRow 0 76 1 v' (ptr.length + 1) ((ptr.map fun b => .pointer (some ⟨b, 0, none⟩)) ++ [.pointer (some ⟨w.heap.size + 2, 0, none⟩)])) (hv : ∀ g, v'.ownBlock = some g → vch.ownBlock = some g ∨ w.heap.size + 3 ≤ g) :
    PipesAt (w4.setCell ⟨pb, 0, none⟩ v') (roleNew ρ w.heap.size s.chs.length w4.heap.size) pb v' (ptr ++ [w.heap.size + 2]) mb D N M ⟨s.chs ++ [newCh n], s.asks⟩ ∧
      Keeps (fun b => ρ b ≠ .free) w (w4.setCell ⟨pb, 0, none⟩ v') := by
  obtain ⟨w2, hw2⟩ : ∃ w2, w2 = w1.alloc (.cells #[.pointer (some ⟨w.heap.size + 1, 0, none⟩), .bool false, .slice none 0 0, .slice none 0 0] tc) := ⟨_, rfl⟩
  rw [← hw2] at hg
  have hs2 : w2.heap.size = w.heap.size + 3 := by rw [hw2]; simp; omega
  have hkb : Keeps (fun b => vch.ownBlock = some b ∨ b = pb) w2 (w4.setCell ⟨pb, 0, none⟩ v') :=
    (((Keeps.refl (fun b => vch.ownBlock = some b ∨ b = pb) w2).alloc _).trans (Keeps.of_grownBy hg fun k _ e => Or.inl e)).setCell (p := ⟨pb, 0, none⟩) (Or.inl (Or.inr rfl)) v'
  have hka : Keeps (fun _ => False) w w2 := by rw [hw2]; exact (Keeps.of_new hb1).alloc _
  have hk : Keeps (fun b => vch.ownBlock = some b ∨ b = pb) w (w4.setCell ⟨pb, 0, none⟩ v') := (hka.mono fun _ _ e => e.elim).trans hkb
  have hs4 : w.heap.size + 4 ≤ w4.heap.size := by have := hg.size; simp at this; omega
  have hold : ∀ g, g < w.heap.size → roleNew ρ w.heap.size s.chs.length w4.heap.size g = ρ g := fun g hg => by unfold roleNew; rw [if_pos hg]
  have hvlt : ∀ g, vch.ownBlock = some g → g < w.heap.size := fun g hg => (World.ownsRow.lt h.row g hg).2
  have hnS : ∀ g q, ρ g = q → q ≠ .pipes → q ≠ .chans → ¬ (vch.ownBlock = some g ∨ g = pb) := fun g q hq h1 h2 e => by
    rcases e with e | e
    · exact h2 (by rw [← hq]; exact h.p1 g e)
    · exact h1 (by rw [← hq, e]; exact h.p0)
  have hpb4 : ∀ j, w4.frozen? ⟨pb, j, none⟩ = false := fun j => by
    have hk4 : Keeps (fun b => vch.ownBlock = some b) w w4 := (hka.mono fun _ _ e => e.elim).trans (((Keeps.refl (fun b => vch.ownBlock = some b) w2).alloc _).trans (Keeps.of_grownBy hg fun k _ e => e))
    rw [hk4.frozen (p := ⟨pb, j, none⟩) h.lt (fun e => by have h5 := h.p1 pb e; rw [h.p0] at h5; cases h5)]; exact h.z j
  have hpbc : w4.cell? ⟨pb, 0, none⟩ = some vch := by
    have hk4 : Keeps (fun b => vch.ownBlock = some b) w w4 := (hka.mono fun _ _ e => e.elim).trans (((Keeps.refl (fun b => vch.ownBlock = some b) w2).alloc _).trans (Keeps.of_grownBy hg fun k _ e => e))
    exact hk4.cell_of h.c0 (fun e => by have h5 := h.p1 pb e; rw [h.p0] at h5; cases h5)
  have hnv' : ∀ g, v'.ownBlock = some g → roleNew ρ w.heap.size s.chs.length w4.heap.size g = .chans := fun g hg2 => by
    have hgl := (World.ownsRow.lt ho g hg2).2
    rcases hv g hg2 with h1 | h1
    · rw [hold g (hvlt g h1)]; exact h.p1 g h1
    · unfold roleNew; rw [if_neg (by omega), if_neg (by omega), if_neg (by omega), if_neg (by omega), if_pos hgl]
  refine ⟨⟨World.cell?_setCell_same _ _ _ hpbc, ?_, fun j => by rw [World.frozen?_setCell]; exact hpb4 j, ?_, by simp [h.len], by simp; omega, fun k cb c hcb hc => ?_, fun k c hc => ?_, h.map0, fun b hb => ?_, h.has, fun t l hl => ?_, by rw [hold pb h.lt]; exact h.p0, hnv', fun g hg2 => ?_⟩, hk.mono fun g _ e => ?_⟩
  · rw [cell_set_other (off_ne (by decide) pb)]
    have hk4 : Keeps (fun b => vch.ownBlock = some b) w w4 := (hka.mono fun _ _ e => e.elim).trans (((Keeps.refl (fun b => vch.ownBlock = some b) w2).alloc _).trans (Keeps.of_grownBy hg fun k _ e => e))
    exact hk4.cell_of h.c1 (fun e => by have h5 := h.p1 pb e; rw [h.p0] at h5; cases h5)
  · have h2 := (keeps_set1 w4 ⟨pb, 0, none⟩ v').row ho fun g hg2 e => by
      have h3 := hnv' g hg2
      rw [show g = pb from e, hold pb h.lt, h.p0] at h3; cases h3
    simpa using h2
  · rw [List.getElem?_append] at hcb hc
    rw [h.len] at hcb
    split at hcb
    · next hlt =>
      rw [if_pos hlt] at hc
      obtain ⟨rb, sb, v1, v2, h1⟩ := h.chs k cb c hcb hc
      refine ⟨rb, sb, v1, v2, (h1.role hold).keeps hk fun g hgl hgr => ?_⟩
      rw [hold g hgl] at hgr
      exact hnS g _ rfl (fun e => by rw [e] at hgr; exact hgr) (fun e => by rw [e] at hgr; exact hgr)
    · next hlt =>
      rw [if_neg hlt] at hc
      have hk0 : k = s.chs.length := by
        have := (List.getElem?_eq_some_iff.1 hc).1
        simp at this; omega
      subst hk0
      simp at hcb hc
      subst hcb
      subst hc
      have hcell : ∀ (j : Nat) (u : Value), (#[Value.pointer (some ⟨w.heap.size + 1, 0, none⟩), .bool false, .slice none 0 0, .slice none 0 0] : Array Value)[j]? = some u → (w4.setCell ⟨pb, 0, none⟩ v').cell? ⟨w.heap.size + 2, j, none⟩ = some u := fun j u hu => by
        refine hkb.cell_of (w := w2) ?_ fun e => ?_
        · rw [hw2, World.cell?_alloc_at _ _ _ _ (show w.heap.size + 2 = w1.heap.size by omega)]; exact hu
        · rcases e with e | e
          · have := hvlt _ e; simp at this; omega
          · have := h.lt; simp at e; omega
      have hnew : ∀ g, w.heap.size ≤ g → ¬ (vch.ownBlock = some g ∨ g = pb) := fun g hge e => by
        rcases e with e | e
        · have := hvlt _ e; omega
        · have := h.lt; omega
      refine ⟨w.heap.size + 1, w.heap.size, .slice none 0 0, .slice none 0 0, hcell 0 _ rfl, hcell 1 _ rfl, hcell 2 _ rfl, hcell 3 _ rfl, fun j => ?_, ?_, ?_, rowW_nil _, rowW_nil _, ?_, ?_, ?_, fun b hb => (by cases hb), fun b hb => (by cases hb)⟩
      · rw [hkb.frozen (p := ⟨w.heap.size + 2, j, none⟩) (by simp [hs2]) (hnew _ (by simp)), hw2, World.frozen?_alloc_at _ _ _ _ (show w.heap.size + 2 = w1.heap.size by omega)]
      · have h1 : RingL eI w2 (w.heap.size + 1) w.heap.size n [] := by rw [hw2]; exact hr.keeps ((Keeps.refl (fun _ => False) w1).alloc _) id id
        exact h1.keeps hkb (hnew _ (by omega)) (hnew _ (by omega))
      · have := hk.size; have := hs4; simp; omega
      · unfold roleNew; rw [if_neg (by omega), if_neg (by omega), if_neg (by omega), if_pos rfl]
      · unfold roleNew; rw [if_neg (by omega), if_neg (by omega), if_pos rfl]
      · unfold roleNew; rw [if_neg (by omega), if_pos rfl]
  · rw [List.getElem?_append] at hc
    split at hc
    · exact h.rows k c hc
    · rcases hj : k - s.chs.length with _ | j
      · rw [hj] at hc; cases hc; exact ⟨Nat.zero_le _, Nat.zero_le _⟩
      · rw [hj] at hc; simp at hc
  · obtain ⟨h1, h2⟩ := h.map1 b hb
    exact ⟨hk.map h1 (hnS _ _ h2 (by simp) (by simp)), by rw [hold b h1.lt]; exact h2⟩
  · obtain ⟨h1, v, h2, h3, h4⟩ := h.talk t l hl
    exact ⟨h1, v, h2, h3.keeps hk fun b hb => hnS b _ (h4 b hb) (by simp) (by simp), fun b hb => by rw [hold b (h.dom b (by rw [h4 b hb]; simp))]; exact h4 b hb⟩
  · have hs5 : (w4.setCell ⟨pb, 0, none⟩ v').heap.size = w4.heap.size := by simp
    rw [hs5]
    unfold roleNew at hg2
    split at hg2
    · omega
    · split at hg2
      · omega
      · split at hg2
        · omega
        · split at hg2
          · omega
          · split at hg2
            · assumption
            · have := h.dom g hg2; omega
  · rcases e with e | e
    · rw [h.p1 g e]; simp
    · rw [e, h.p0]; simp
end Go.Proofs.YtpehmghnfbkaaaaDoor
