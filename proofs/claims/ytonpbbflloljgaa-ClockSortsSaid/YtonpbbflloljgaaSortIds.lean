/-
  The law ClockSorts: the sort of its ids in one word.
-/
import Derived.Test.YtonpbbflloljgaaSortsL
namespace Go.Proofs.Ytonpbbflloljgaa
open Go.RowKit

/-- What the sort makes of the ids. -/
def SortedIds (l : List Int) (js : List Nat) (vi : Value) (w : World) (e : Ending) (w' : World) : Prop :=
  e = .returned (.tuple #[]) ∧ ∃ xs : List Int, xs.Pairwise (RI (keyI l)) ∧ (∀ x : Int, x ∈ xs ↔ ∃ i ∈ js, x = (i : Int)) ∧ IntsAt w' vi xs ∧ Keeps (fun b => vi.ownBlock = some b) w w'

theorem sort_ids (w : World) (l : List Int) (js : List Nat) (vi : Value) (B bb n cap : Nat) (ao : Option Addr) (hn : n = l.length) (hO : OwnI w B vi (js.map fun i : Nat => (i : Int))) (hlen : js.length ≤ 200) (hr : js.Pairwise (· < ·)) (hlt : ∀ i ∈ js, i < n)
    (hbox : w.cell? ⟨bb, 0, none⟩ = some (.slice ao n cap)) (hcells : 0 < n → ∃ b o, ao = some ⟨b, o, none⟩ ∧ b < B ∧ ∀ i, i < n → w.cell? ⟨b, o + i, none⟩ = some (.int .i64 (l.getD i 0))) (hbb : bb < B) :
    Calls Try.prog 8 #[vi, cmpF bb] w (SortedIds l js vi w) := by
  have hI := hO.ints
  have hc := hO
  by_cases hz : js.length = 0
  · have hj : js = [] := List.eq_nil_of_length_eq_zero hz
    subst hj
    obtain ⟨a1, c1, rfl⟩ := hO.slice
    refine (sortStable_nil a1 c1 _ w).mono ?_
    rintro e w1 ⟨rfl, rfl⟩
    exact ⟨rfl, [], List.Pairwise.nil, by simp, hI, Keeps.refl _ _⟩
  rcases hO.2 with ⟨rfl, h0⟩ | ⟨g, cp, cur, rfl, hb, hg, h3, h4, h5, h6⟩
  · exact absurd (by simpa using h0) hz
  · rw [List.length_map] at h3 hI ⊢
    obtain ⟨i0, hi0⟩ : ∃ i, i ∈ js := by cases js with | nil => exact absurd rfl hz | cons a t => exact ⟨a, List.mem_cons_self ..⟩
    obtain ⟨lb, lo, rfl, hlb, hcell⟩ := hcells (by have := hlt i0 hi0; omega)
    obtain ⟨ao2, n2, cap2, hv2, hn2, _, _, hx2⟩ := hI
    cases hv2
    obtain ⟨b2, o2, e2, _, hrow⟩ := hx2 (Nat.pos_of_ne_zero hz)
    cases e2
    have hget : ∀ k, k < js.length → js.getD k 0 ∈ js := fun k hk => by rw [List.getD_eq_getElem?_getD, List.getElem?_eq_getElem hk]; exact List.getElem_mem hk
    have hd : Dat g js.length bb lb lo cap n (fun i => l.getD i 0) (fun k => js.getD k 0) w := by
      refine ⟨fun k hk => ⟨?_, World.ownsRow.frozenAt hc k⟩, hbox, hcell, fun k hk => hlt _ (hget k hk), by omega, by omega⟩
      have := hrow k hk
      rw [Nat.zero_add] at this
      rw [this, List.getD_eq_getElem?_getD, List.getElem?_map, List.getElem?_eq_getElem hk, List.getD_eq_getElem?_getD, List.getElem?_eq_getElem hk]; rfl
    have hrise : ∀ i j, i < j → j < js.length → js.getD i 0 < js.getD j 0 := fun i j h1 h2 => by
      rw [List.getD_eq_getElem?_getD, List.getD_eq_getElem?_getD, List.getElem?_eq_getElem (show i < js.length by omega), List.getElem?_eq_getElem h2]
      exact List.pairwise_iff_getElem.1 hr i j _ _ h1
    refine (sortStable_any g js.length cp bb lb lo cap n (fun i => l.getD i 0) (fun k => js.getD k 0) w hlen hd hrise).mono ?_
    rintro e w1 ⟨f, hs, hi1, hi2, rfl, hD, hK⟩
    have hmem : ∀ x : Int, x ∈ (List.range js.length).map (fun k => ((f k : Nat) : Int)) ↔ ∃ i ∈ js, x = (i : Int) := fun x => by
      rw [List.mem_map]
      constructor
      · rintro ⟨k, hk, rfl⟩
        obtain ⟨i, _, i2, ei⟩ := hi1 k (Nat.zero_le _) (List.mem_range.1 hk)
        exact ⟨_, hget i i2, by rw [ei]⟩
      · rintro ⟨i, hi, rfl⟩
        obtain ⟨k, hk, ek⟩ := List.mem_iff_getElem.1 hi
        obtain ⟨k', _, k2, e'⟩ := hi2 k (Nat.zero_le _) hk
        refine ⟨k', List.mem_range.2 k2, ?_⟩
        rw [← e']
        show ((js.getD k 0 : Nat) : Int) = (i : Int)
        rw [List.getD_eq_getElem?_getD, List.getElem?_eq_getElem hk, ← ek]; rfl
    refine ⟨rfl, (List.range js.length).map (fun k => ((f k : Nat) : Int)), ?_, hmem, ?_, ?_⟩
    · rw [List.pairwise_map]
      refine List.Pairwise.imp_of_mem ?_ (List.pairwise_lt_range (n := js.length))
      intro i j _ hj hij
      have := hs i j (Nat.zero_le _) hij (List.mem_range.1 hj)
      unfold RI keyI
      unfold St.R at this
      simpa using this
    · refine ⟨_, _, _, rfl, by simp, h3, h4, fun _ => ⟨g, 0, rfl, block_lt_of_cell (hD.row 0 (by omega)).1, fun k hk => ?_⟩⟩
      rw [Nat.zero_add, (hD.row k hk).1]
      simp [List.getD_eq_getElem?_getD, hk]
    · exact hK.mono fun k _ e => by rw [e]; rfl
end Go.Proofs.Ytonpbbflloljgaa
