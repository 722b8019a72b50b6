/-
  What is to be seen of one channel, at the law PipeKeeps: plain mathematics, and where it lies.
-/
import Derived.Test.YtpehmghnfbkaaaaPipeFfM
import Derived.Test.YtpehmghnfbkaaaaPipeLB
namespace Go.Proofs.Ytpehmghnfbkaaaa
open Go.RowKit Go.Maps Pp

section
variable {size T : Nat} {s : St} {S A : List Nat} {V : List Int}
theorem Pp.Fi.anyS (h : Fi size s S V A T) (v : Int) : ∃ r : Pp.Told, Pp.talk s T [⟨3, 1, v⟩] 0 = r ∧ Fi size r.st (S ++ [T]) (V ++ [v]) A (T + 1) := by
  by_cases h1 : S.length < A.length
  · obtain ⟨t, st, _, h2, h3⟩ := h.sendWake v h1
    exact ⟨_, h2, h3⟩
  · by_cases h2 : S.length < A.length + size
    · obtain ⟨st, h3, h4⟩ := h.sendRoom v (by omega) h2
      exact ⟨_, h3, h4⟩
    · obtain ⟨st, h3, h4⟩ := h.sendWait v (by omega)
      exact ⟨_, h3, h4⟩
theorem Pp.Fi.anyR (h : Fi size s S V A T) : ∃ r : Pp.Told, Pp.talk s T [⟨10, 1, 0⟩] 0 = r ∧ Fi size r.st S V (A ++ [T]) (T + 1) := by
  by_cases h1 : A.length < S.length
  · obtain ⟨v, st, wk, _, h2, _, h3⟩ := h.recvGet h1
    exact ⟨_, h2, h3⟩
  · obtain ⟨st, h2, h3⟩ := h.recvWait (by omega)
    exact ⟨_, h2, h3⟩
end
/-- One channel, looked at. -/
theorem looked_one {W : World} {B n cap : Nat} {ao : Option Addr} {L : List Sn} {c : Ch} (h : Looked W B (.slice ao n cap) L) (hm : L.map Sn.c = [c]) : ∃ g a0 k0 a1 k1 a2 k2, ao = some ⟨g, 0, none⟩ ∧ 1 ≤ cap ∧
    W.cell? ⟨g, 1, none⟩ = some (.slice a0 c.nums.length k0) ∧ W.cell? ⟨g, 3, none⟩ = some (.slice a1 c.sends.length k1) ∧ W.cell? ⟨g, 4, none⟩ = some (.slice a2 c.recvs.length k2) := by
  match L, hm with
  | [], hm => cases hm
  | x :: y :: r, hm => simp at hm
  | [x], hm =>
    obtain rfl : x.c = c := by simpa using hm
    have hs := h.seen x (List.mem_singleton.2 rfl)
    obtain ⟨a0, k0, e0⟩ := OwnI.slice hs.nums
    obtain ⟨a1, k1, e1⟩ := own_slice hs.sends
    obtain ⟨a2, k2, e2⟩ := own_slice hs.recvs
    have hr := h.row
    rcases h.row.2 with ⟨_, h0⟩ | ⟨g, cap', cur, hv, hb, hg, h3, h4, h5, h6⟩
    · simp at h0
    · injection hv with hv1 _ hv3
      subst hv1 hv3
      have cl := fun j u => World.ownsRow.cells hr (g := g) rfl j u
      have c1 := cl 1 x.vn rfl
      have c3 := cl 3 x.u1 rfl
      have c4 := cl 4 x.u2 rfl
      rw [addr_addP, Nat.zero_add] at c1 c3 c4
      rw [e0] at c1
      rw [e1] at c3
      rw [e2] at c4
      exact ⟨g, a0, k0, a1, k1, a2, k2, rfl, h3, c1, c3, c4⟩
theorem keeps_drewK (w : World) (m : Nat) : Keeps (fun _ => False) w (w.drewN m) := ⟨rfl, rfl, rfl, Nat.le_refl _, fun _ _ _ => rfl⟩
/-- How many. -/
theorem Pp.Fi.lens {size T : Nat} {s : St} {S A : List Nat} {V : List Int} (h : Fi size s S V A T) : ∃ c, s.chs = [c] ∧ c.nums.length = min size (S.length - A.length) ∧ c.sends.length = S.length - (A.length + size) ∧ c.recvs.length = A.length - S.length := by
  refine ⟨_, h.chs, ?_, ?_, ?_⟩
  · simp [h.len]
  · simp [wts]
  · simp [wts]
theorem lenV_one {s : St} {c : Ch} (h : s.chs = [c]) : lenV s 1 = ((c.nums.length : Int), 0) := by
  unfold lenV
  rw [h]
  have e : Pp.chan [c] 1 = some c := rfl
  simp [may, e]
theorem plen_one {w0 w : World} {ρ : Nat → Role} {pb N : Nat} {s : St} {c : Ch} (h : Live w0 w ρ pb N s) (hc : s.chs = [c]) (m : Nat) : Calls Try.prog 15 #[.pointer (some ⟨pb, 0, none⟩), .int .i64 1] (w.drewN m) fun e w' =>
    e = .returned (.tuple #[.int .i64 (c.nums.length : Nat), .nilIface]) ∧ w' = w.drewN m := by
  obtain ⟨_, vch, ptr, mb, D, h1⟩ := (h.new (keeps_drewK w m)).pipes
  refine (plen_any h1 1).mono ?_
  rintro e w' ⟨rfl, rfl⟩
  rw [lenV_one hc]
  exact ⟨rfl, rfl⟩
end Go.Proofs.Ytpehmghnfbkaaaa
