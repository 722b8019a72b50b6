/-
  The walk of package pipe's Make.
-/
import Derived.Test.YtpehmghnfbkaaaaDoorPipeWG
namespace Go.Proofs.YtpehmghnfbkaaaaDoor
open Go.RowKit Go.Maps Pp

theorem wpList_appendP {ops : Array Oper} {rest : List Oper} {o : Oper} {a : Act} {Q : Exit → Act → World → Prop} (hgd : o.guard = none) (s x : Operand)
    (ho : o.op = .call { callee := .builtin .append, args := #[s, x], argTypes := #[28, 28] }) (w : World) (v : Value) (ptr : List Nat) (y : Nat) (hown : w.ownsRow 0 76 1 v ptr.length (ptr.map fun b => .pointer (some ⟨b, 0, none⟩))) (hs : a.eval s = v)
    (hx : a.eval x = .slice (some ⟨w.heap.size, 0, none⟩) 1 1) (hl : ptr.length ≤ 1000000)
    (h : ∀ ao' cap' w', w'.ownsRow 0 76 1 (.slice ao' (ptr.length + 1) cap') (ptr.length + 1) ((ptr.map fun b => .pointer (some ⟨b, 0, none⟩)) ++ [.pointer (some ⟨y, 0, none⟩)]) → (w.alloc (.cells #[.pointer (some ⟨y, 0, none⟩)] 76)).grownBy w' v.ownBlock →
      (∀ k, (Value.slice ao' (ptr.length + 1) cap').ownBlock = some k → v.ownBlock = some k ∨ w.heap.size ≤ k) →
      wpList Tryd.prog ops Q rest (a.put o.dst (.slice ao' (ptr.length + 1) cap')) w') : wpList Tryd.prog ops Q (o :: rest) a (w.alloc (.cells #[.pointer (some ⟨y, 0, none⟩)] 76)) := by
  obtain ⟨i0, hi, hz0, hz1, hz2⟩ := tinfoP info_pch
  refine wpList_append_own_at _ hgd s x 28 ho 0 76 i0 (.pointer none) 1 8 Tryd.underlying28 hi hz0 hz1 hz2 rfl (by decide) v ptr.length _ hs (World.ownsRow.alloc hown _) ⟨w.heap.size, 0, none⟩ 1 1 [.pointer (some ⟨y, 0, none⟩)] hx rfl
    (cell_one_new _ _ _) (fun u hu => by simp at hu; subst hu; rfl) (by unfold maxLen; omega) (by omega) (Nat.zero_le _) ?_
  intro v' w' h1 h2 _ h4
  have hform : ∃ ao cap, v' = .slice ao (ptr.length + 1) cap := by
    rcases h1.2 with ⟨rfl, h0⟩ | ⟨g, cap, cur, rfl, _⟩
    · omega
    · exact ⟨_, _, rfl⟩
  obtain ⟨ao', cap', rfl⟩ := hform
  refine h _ _ _ h1 h2 fun k hk => ?_
  rcases h4 with h4 | h4
  · exact Or.inl (h4 ▸ hk)
  · rw [h4] at hk
    cases hk
    exact Or.inr (by simp)

theorem grow_keeps {w w1 w4 : World} {ρ : Nat → Role} {pb : Nat} {vch : Value} {ptr : List Nat} {mb : Option Nat} {D : DataW Value} {N M : Nat} {s : St} (h : PipesAt w ρ pb vch ptr mb D N M s) (hb : Below w.heap.size w w1) {o1 o2 : Obj} (hg : ((w1.alloc o1).alloc o2).grownBy w4 vch.ownBlock) :
    w4.cell? ⟨pb, 0, none⟩ = some vch ∧ w4.frozen? ⟨pb, 0, none⟩ = false := by
  have hk : Keeps (fun b => vch.ownBlock = some b) w w4 := (((Keeps.of_new (S := fun b => vch.ownBlock = some b) hb).alloc _).alloc _).trans (Keeps.of_grownBy hg fun k _ e => e)
  have hn : ¬ vch.ownBlock = some pb := fun e => by
    have h5 := h.p1 pb e
    rw [h.p0] at h5; cases h5
  exact ⟨hk.cell_of h.c0 hn, by rw [hk.frozen (p := ⟨pb, 0, none⟩) h.lt hn]; exact h.z 0⟩

set_option maxRecDepth 100000 in
set_option maxHeartbeats 6400000 in
theorem make_any {w : World} {ρ : Nat → Role} {pb N : Nat} {s : St} (h : Pipes w ρ pb N s) (size : Int) :
    Calls Tryd.prog 6 #[.pointer (some ⟨pb, 0, none⟩), .int .i64 size] w fun e w' => e = .returned (.tuple #[.int .i64 (makeV s size).n, errV (makeV s size).err]) ∧
      (∃ ρ', Pipes w' ρ' pb N (makeV s size).st ∧ ∀ g, g < w.heap.size → ρ' g = ρ g) ∧ Keeps (fun b => ρ b ≠ .free) w w' := by
  have hsame : (∃ ρ', Pipes w ρ' pb N s ∧ ∀ g, g < w.heap.size → ρ' g = ρ g) ∧ Keeps (fun b => ρ b ≠ .free) w w := ⟨⟨ρ, h, fun _ _ => rfl⟩, Keeps.refl _ _⟩
  have HS := Lib.hid hsame
  obtain ⟨hok, vch, ptr, mb, D, hp⟩ := h
  have HP := Lib.hid hp
  have HOK := Lib.hid hok
  obtain ⟨ao, cap, rfl, hc1, hc2, _⟩ := ptr_row hp.row
  have c0 := hp.c0
  have z0 := hp.z 0
  have hlen := hp.len
  have HPB := Lib.hid hp.lt
  clear hp hok hsame
  by_cases h0 : size < 0
  · have hv : makeV s size = ⟨0, 2, s⟩ := by unfold makeV; rw [if_pos (Or.inl h0)]
    rw [hv]
    clear hv hlen
    go_enter Tryd.func6, Tryd.ntmps6
    go_wp2_with fail
    go_ret2
    exact ⟨rfl, HS.out⟩
  · by_cases h8 : 8 < size
    · have hv : makeV s size = ⟨0, 2, s⟩ := by unfold makeV; rw [if_pos (Or.inr h8)]
      rw [hv]
      have d8 : decide (8 < size) = true := by rw [decide_eq_true_eq]; exact h8
      clear hv hlen
      go_enter Tryd.func6, Tryd.ntmps6
      go_wp2_with fail
      go_ret2
      exact ⟨rfl, HS.out⟩
    · obtain ⟨n, rfl⟩ : ∃ n : Nat, size = n := ⟨size.toNat, by omega⟩
      have hn8 : n ≤ 8 := by omega
      have d8 : decide (8 < (n : Int)) = false := by rw [decide_eq_false_iff_not]; exact h8
      by_cases h32 : 32 ≤ s.chs.length
      · have hv : makeV s (n : Int) = ⟨0, 12, s⟩ := by unfold makeV; rw [if_neg (by omega), if_pos h32]
        rw [hv]
        have d32 : (32 : Int) ≤ (ptr.length : Int) := by omega
        clear hv hlen h32
        generalize ptr.length = m at *
        go_enter Tryd.func6, Tryd.ntmps6
        go_wp2_with fail
        go_ret2
        exact ⟨rfl, HS.out⟩
      · have hv : makeV s (n : Int) = ⟨(s.chs.length : Int) + 1, 0, ⟨s.chs ++ [newCh n], s.asks⟩⟩ := by unfold makeV; rw [if_neg (by omega), if_neg h32, Int.toNat_natCast]
        rw [hv]
        have HNEW := Lib.hid (newI_ok w n (by omega))
        have d32 : ¬ (32 : Int) ≤ (ptr.length : Int) := by omega
        have HLEN := Lib.hid hlen
        have H32 := Lib.hid h32
        have hml : ptr.length ≤ 1000000 := by omega
        have hrl : (s.chs.length : Int) + 1 = ((ptr.length + 1 : Nat) : Int) := by omega
        have HRL := Lib.hid hrl
        clear hv h32 hlen hrl
        go_enter Tryd.func6, Tryd.ntmps6
        go_wp2_with fail
        refine HNEW.out.mono ?_
        rintro e w1 ⟨rfl, hr1, hb1, hs1⟩
        have HR1 := Lib.hid hr1
        have HB1 := Lib.hid hb1
        have HS1 := Lib.hid hs1
        have c1 : w1.cell? ⟨pb, 0, none⟩ = some (.slice ao ptr.length cap) := (hb1.cell (p := ⟨pb, 0, none⟩) HPB.out).trans c0
        have HRW : Hid (w1.ownsRow 0 76 1 (.slice ao ptr.length cap) ptr.length (ptr.map fun b => .pointer (some ⟨b, 0, none⟩))) := Lib.hid ((Keeps.of_new hb1).row (S := fun _ => False) HP.out.row fun _ _ e => e)
        have HRW2 : Hid ((w1.alloc (.cells #[.pointer (some ⟨w.heap.size + 1, 0, none⟩), .bool false, .slice none 0 0, .slice none 0 0] 79)).ownsRow 0 76 1 (.slice ao ptr.length cap) ptr.length (ptr.map fun b => .pointer (some ⟨b, 0, none⟩))) := Lib.hid (World.ownsRow.alloc HRW.out _)
        have hal : (w1.alloc (.cells #[.pointer (some ⟨w.heap.size + 1, 0, none⟩), .bool false, .slice none 0 0, .slice none 0 0] 79)).heap.size = w1.heap.size + 1 := by simp
        have HAL := Lib.hid hal
        clear hr1 hb1 hs1 hal
        go_wp2_with (at_builtin; go_loud (refine wpList_appendP rfl _ _ rfl (w1.alloc (.cells #[.pointer (some ⟨w.heap.size + 1, 0, none⟩), .bool false, .slice none 0 0, .slice none 0 0] 79)) _ ptr w1.heap.size HRW2.out rfl (by rw [HAL.out]; rfl) (by omega) ?_; intro a6 c6 w4 ho4 hg4 hn4; have HO4 := Lib.hid ho4; have HG4 := Lib.hid hg4; have HN4 := Lib.hid hn4; have y0 : w4.cell? ⟨pb, 0, none⟩ = some (.slice ao ptr.length cap) := (grow_keeps HP.out HB1.out HG4.out).1; have y1 : w4.frozen? ⟨pb, 0, none⟩ = false := (grow_keeps HP.out HB1.out HG4.out).2; clear ho4 hg4 hn4))
        go_ret2
        have ho4 := HO4.out
        have hg4 := HG4.out
        rw [HS1.out] at ho4 hg4
        obtain ⟨h5, hk5⟩ := HP.out.grow (n := n) (by have := H32.out; omega) HB1.out HS1.out HR1.out hg4 ho4 fun g hg => by
          rcases HN4.out g hg with h1 | h1
          · exact Or.inl h1
          · have := HAL.out; have := HS1.out; exact Or.inr (by omega)
        have hl := HLEN.out
        refine ⟨?_, ⟨_, ⟨HOK.out.make hn8 (by have := H32.out; omega), _, _, mb, D, h5⟩, fun g hg => by unfold roleNew; rw [if_pos hg]⟩, hk5⟩
        rw [HRL.out]; rfl
end Go.Proofs.YtpehmghnfbkaaaaDoor
