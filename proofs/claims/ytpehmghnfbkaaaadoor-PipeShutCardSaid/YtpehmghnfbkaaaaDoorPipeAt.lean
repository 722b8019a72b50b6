/-
  Channels in memory, and tasks that wait at them. Whose each block is a role tells: two blocks of two roles are two.
-/
import Derived.Test.YtpehmghnfbkaaaaDoorRingI3
import Derived.Test.YtpehmghnfbkaaaaDoorPipeM2
import Derived.Test.YtpehmghnfbkaaaaDoorOwnI
import Derived.Maps.OwnSet
namespace Go.Proofs.YtpehmghnfbkaaaaDoor
open Go.RowKit Go.Maps Pp

inductive Role where
  | free | pipes | chans | asks | chan (k : Nat) | ring (k : Nat) | slots (k : Nat) | sends (k : Nat) | recvs (k : Nat) | talks (t : Int)
/-- It is a part of the channel in the k-th place. -/
def Role.of (k : Nat) : Role → Prop
  | .chan j => j = k | .ring j => j = k | .slots j => j = k | .sends j => j = k | .recvs j => j = k | _ => False

def cellsW (r : List (Int × Nat)) : List Value := r.flatMap fun w => [.int .i64 w.1, .int .i64 (w.2 : Int)]
theorem cellsW_len (r : List (Int × Nat)) : (cellsW r).length = r.length * 2 := by
  induction r with
  | nil => rfl
  | cons w r ih =>
    have : cellsW (w :: r) = .int .i64 w.1 :: .int .i64 (w.2 : Int) :: cellsW r := rfl
    rw [this, List.length_cons, List.length_cons, ih, List.length_cons]; omega
theorem cellsW_append (a b : List (Int × Nat)) : cellsW (a ++ b) = cellsW a ++ cellsW b := by simp [cellsW]
/-- A row of those that wait, of its own. -/
def RowW (w : World) (v : Value) (r : List (Int × Nat)) : Prop := w.ownsRow 0 90 2 v r.length (cellsW r)
theorem rowW_nil (w : World) : RowW w (.slice none 0 0) [] := World.ownsRow_nil _ _ _ _
theorem RowW.keeps {S : Nat → Prop} {w w' : World} {v : Value} {r : List (Int × Nat)} (h : RowW w v r) (hk : Keeps S w w') (hs : ∀ b, v.ownBlock = some b → ¬ S b) : RowW w' v r := hk.row h hs
theorem RowW.lt {w : World} {v : Value} {r : List (Int × Nat)} (h : RowW w v r) : ∀ b, v.ownBlock = some b → b < w.heap.size := fun b hb => (World.ownsRow.lt h b hb).2
theorem RowW.slice {w : World} {v : Value} {r : List (Int × Nat)} (h : RowW w v r) : ∃ ao cap, v = .slice ao r.length cap ∧ r.length ≤ cap ∧ cap ≤ maxLen := by
  rcases h.2 with ⟨rfl, h0⟩ | ⟨g, cap, cur, rfl, _, _, h1, h2, _⟩
  · exact ⟨none, 0, by rw [h0], by omega, Nat.zero_le _⟩
  · exact ⟨_, _, rfl, h1, h2⟩

/-- Talks that lie somewhere, to be read. -/
def TalksAt (w : World) (v : Value) (l : List Tk) : Prop :=
  ∃ ao n cap, v = .slice ao n cap ∧ n = l.length ∧ n ≤ cap ∧ cap ≤ maxLen ∧ (0 < n → ∃ b o, ao = some ⟨b, o, none⟩ ∧ b < w.heap.size ∧
    ∀ i x, l[i]? = some x → w.cell? ⟨b, o + i * 3, none⟩ = some (.int .i64 x.what) ∧ w.cell? ⟨b, o + i * 3 + 1, none⟩ = some (.int .i64 x.chan) ∧ w.cell? ⟨b, o + i * 3 + 2, none⟩ = some (.int .i64 x.n))
theorem TalksAt.keeps {S : Nat → Prop} {w w' : World} {v : Value} {l : List Tk} (h : TalksAt w v l) (hk : Keeps S w w') (ho : Off v S) : TalksAt w' v l := by
  obtain ⟨ao, n, cap, hv, hn, hc, hm, hx⟩ := h
  refine ⟨ao, n, cap, hv, hn, hc, hm, fun h0 => ?_⟩
  obtain ⟨b, o, h1, h2, h3⟩ := hx h0
  have hb : ¬ S b := ho b (by rw [hv, h1]; rfl)
  refine ⟨b, o, h1, Nat.lt_of_lt_of_le h2 hk.size, fun i x hi => ?_⟩
  obtain ⟨c1, c2, c3⟩ := h3 i x hi
  exact ⟨hk.cell_of c1 hb, hk.cell_of c2 hb, hk.cell_of c3 hb⟩

def heldE (v : Value) : Option (DataW Value × List MemPlace) := some (.held v, [])
theorem keyedP : Keyed Tryd.prog 3 := int_keyed Tryd.underlying3

/-- A channel in memory. -/
structure ChC (w : World) (ρ : Nat → Role) (k cb rb sb : Nat) (v1 v2 : Value) (c : Ch) : Prop where
  c0 : w.cell? ⟨cb, 0, none⟩ = some (.pointer (some ⟨rb, 0, none⟩))
  c1 : w.cell? ⟨cb, 1, none⟩ = some (.bool c.shut)
  c2 : w.cell? ⟨cb, 2, none⟩ = some v1
  c3 : w.cell? ⟨cb, 3, none⟩ = some v2
  z : ∀ j, w.frozen? ⟨cb, j, none⟩ = false
  ring : RingL eI w rb sb c.size c.nums
  lt : sb < w.heap.size
  r1 : RowW w v1 c.sends
  r2 : RowW w v2 c.recvs
  p0 : ρ cb = .chan k
  p1 : ρ rb = .ring k
  p2 : ρ sb = .slots k
  p3 : ∀ b, v1.ownBlock = some b → ρ b = .sends k
  p4 : ∀ b, v2.ownBlock = some b → ρ b = .recvs k
theorem ChC.keeps {S : Nat → Prop} {w w' : World} {ρ : Nat → Role} {k cb rb sb : Nat} {v1 v2 : Value} {c : Ch} (h : ChC w ρ k cb rb sb v1 v2 c) (hk : Keeps S w w') (hS : ∀ b, b < w.heap.size → (ρ b).of k → ¬ S b) : ChC w' ρ k cb rb sb v1 v2 c := by
  have hlt : cb < w.heap.size := block_lt_of_cell h.c0
  have hcb : ¬ S cb := hS _ hlt (by rw [h.p0]; rfl)
  exact ⟨hk.cell_of h.c0 hcb, hk.cell_of h.c1 hcb, hk.cell_of h.c2 hcb, hk.cell_of h.c3 hcb, fun j => by rw [hk.frozen (p := ⟨cb, j, none⟩) hlt hcb]; exact h.z j,
    h.ring.keeps hk (hS _ h.ring.lt (by rw [h.p1]; rfl)) (hS _ h.lt (by rw [h.p2]; rfl)), Nat.lt_of_lt_of_le h.lt hk.size, h.r1.keeps hk fun b hb => hS _ (h.r1.lt b hb) (by rw [h.p3 b hb]; rfl), h.r2.keeps hk fun b hb => hS _ (h.r2.lt b hb) (by rw [h.p4 b hb]; rfl), h.p0, h.p1, h.p2, h.p3, h.p4⟩
theorem ChC.role {w : World} {ρ ρ' : Nat → Role} {k cb rb sb : Nat} {v1 v2 : Value} {c : Ch} (h : ChC w ρ k cb rb sb v1 v2 c) (hx : ∀ b, b < w.heap.size → ρ' b = ρ b) : ChC w ρ' k cb rb sb v1 v2 c := by
  exact ⟨h.c0, h.c1, h.c2, h.c3, h.z, h.ring, h.lt, h.r1, h.r2, by rw [hx _ (block_lt_of_cell h.c0)]; exact h.p0, by rw [hx _ h.ring.lt]; exact h.p1, by rw [hx _ h.lt]; exact h.p2,
    fun b hb => by rw [hx _ (h.r1.lt b hb)]; exact h.p3 b hb, fun b hb => by rw [hx _ (h.r2.lt b hb)]; exact h.p4 b hb⟩

/-- All channels in memory, and what those that wait have asked for. -/
structure PipesAt (w : World) (ρ : Nat → Role) (pb : Nat) (vch : Value) (ptr : List Nat) (mb : Option Nat) (D : DataW Value) (N M : Nat) (s : St) : Prop where
  c0 : w.cell? ⟨pb, 0, none⟩ = some vch
  c1 : w.cell? ⟨pb, 1, none⟩ = some (.map mb)
  z : ∀ j, w.frozen? ⟨pb, j, none⟩ = false
  row : w.ownsRow 0 76 1 vch ptr.length (ptr.map fun b => .pointer (some ⟨b, 0, none⟩))
  len : ptr.length = s.chs.length
  many : s.chs.length ≤ 32
  chs : ∀ (k cb : Nat) c, ptr[k]? = some cb → s.chs[k]? = some c → ∃ rb sb v1 v2, ChC w ρ k cb rb sb v1 v2 c
  rows : ∀ (k : Nat) c, s.chs[k]? = some c → c.sends.length ≤ M ∧ c.recvs.length ≤ M
  map0 : mb = none → D = .map []
  map1 : ∀ b, mb = some b → w.ownsMap Tryd.prog 3 heldE b N D ∧ ρ b = .asks
  has : ∀ t : Int, Maps.has D (.int .i64 t) = (s.asks t).isSome
  talk : ∀ (t : Int) l, s.asks t = some l → (Lit.int .i64 t).wf = true ∧ ∃ v, (∀ z, D.atKey (.int .i64 t) z = .held v) ∧ TalksAt w v l ∧ ∀ b, v.ownBlock = some b → ρ b = .talks t
  p0 : ρ pb = .pipes
  p1 : ∀ b, vch.ownBlock = some b → ρ b = .chans
  dom : ∀ b, ρ b ≠ .free → b < w.heap.size

theorem Role.of_of {r : Role} {j k : Nat} (h : r.of k) (h' : r.of j) : k = j := by
  cases r <;> simp_all [Role.of]
theorem PipesAt.lt {w : World} {ρ : Nat → Role} {pb : Nat} {vch : Value} {ptr : List Nat} {mb : Option Nat} {D : DataW Value} {N M : Nat} {s : St} (h : PipesAt w ρ pb vch ptr mb D N M s) : pb < w.heap.size := block_lt_of_cell h.c0
/-- What is not the channels' turns; or one channel does. -/
theorem PipesAt.put {w w' : World} {ρ ρ' : Nat → Role} {pb : Nat} {vch : Value} {ptr : List Nat} {mb : Option Nat} {D : DataW Value} {N M M' : Nat} {s : St} (h : PipesAt w ρ pb vch ptr mb D N M s) {S : Nat → Prop} (hk : Keeps S w w')
    (hx : ∀ b, b < w.heap.size → ρ' b = ρ b) (hd : ∀ b, ρ' b ≠ .free → b < w'.heap.size) (k : Nat) (hS : ∀ b, S b → ρ b = .free ∨ (ρ b).of k) {c' : Ch} (hc : ∀ cb, ptr[k]? = some cb → ∃ rb sb v1 v2, ChC w' ρ' k cb rb sb v1 v2 c')
    (hM : c'.sends.length ≤ M' ∧ c'.recvs.length ≤ M') (hMM : M ≤ M') : PipesAt w' ρ' pb vch ptr mb D N M' ⟨s.chs.set k c', s.asks⟩ := by
  have hn : ∀ b r, ρ b = r → r ≠ .free → ¬ r.of k → ¬ S b := fun b r hr h1 h2 e => by
    rcases hS b e with h3 | h3
    · exact h1 (hr.symm.trans h3)
    · exact h2 (hr ▸ h3)
  have hpb : ¬ S pb := hn _ _ h.p0 (by simp) id
  refine ⟨hk.cell_of h.c0 hpb, hk.cell_of h.c1 hpb, fun j => by rw [hk.frozen (p := ⟨pb, j, none⟩) h.lt hpb]; exact h.z j, hk.row h.row fun b hb => hn b _ (h.p1 b hb) (by simp) id,
    by rw [List.length_set]; exact h.len, by rw [List.length_set]; exact h.many, fun j cb c hcb hj => ?_, fun j c hj => ?_, h.map0, fun b hb => ?_, h.has, fun t l hl => ?_, by rw [hx _ h.lt]; exact h.p0,
    fun b hb => by rw [hx _ (World.ownsRow.lt h.row b hb).2]; exact h.p1 b hb, hd⟩
  · by_cases e : k = j
    · subst e
      have hkl : k < s.chs.length := by simpa using (List.getElem?_eq_some_iff.1 hj).1
      rw [List.getElem?_set_self hkl] at hj
      cases hj
      exact hc cb hcb
    · rw [List.getElem?_set_ne e] at hj
      obtain ⟨rb, sb, v1, v2, h1⟩ := h.chs j cb c hcb hj
      refine ⟨rb, sb, v1, v2, (h1.role hx).keeps hk fun b hbl hb e2 => ?_⟩
      rw [hx b hbl] at hb
      rcases hS b e2 with h3 | h3
      · rw [h3] at hb; exact hb
      · exact e (Role.of_of h3 hb)
  · by_cases e : k = j
    · subst e
      have hkl : k < s.chs.length := by simpa using (List.getElem?_eq_some_iff.1 hj).1
      rw [List.getElem?_set_self hkl] at hj
      cases hj
      exact hM
    · rw [List.getElem?_set_ne e] at hj
      have := h.rows j c hj
      omega
  · obtain ⟨h1, h2⟩ := h.map1 b hb
    exact ⟨hk.map h1 (hn _ _ h2 (by simp) id), by rw [hx _ h1.lt]; exact h2⟩
  · obtain ⟨h1, v, h2, h3, h4⟩ := h.talk t l hl
    exact ⟨h1, v, h2, h3.keeps hk fun b hb => hn b _ (h4 b hb) (by simp) id, fun b hb => by rw [hx _ (h.dom b (by rw [h4 b hb]; simp))]; exact h4 b hb⟩
/-- Nothing of the channels' turns. -/
theorem PipesAt.same {w w' : World} {ρ ρ' : Nat → Role} {pb : Nat} {vch : Value} {ptr : List Nat} {mb : Option Nat} {D : DataW Value} {N M : Nat} {s : St} (h : PipesAt w ρ pb vch ptr mb D N M s) {S : Nat → Prop} (hk : Keeps S w w')
    (hx : ∀ b, b < w.heap.size → ρ' b = ρ b) (hd : ∀ b, ρ' b ≠ .free → b < w'.heap.size) (hS : ∀ b, S b → ρ b = .free) : PipesAt w' ρ' pb vch ptr mb D N M s := by
  have hl : s.chs.set s.chs.length (newCh 0) = s.chs := by rw [List.set_eq_of_length_le (Nat.le_refl _)]
  have := h.put hk hx hd s.chs.length (c' := newCh 0) (M' := M) (fun b e => Or.inl (hS b e)) (fun cb hcb => by
    have := (List.getElem?_eq_some_iff.1 hcb).1
    have := h.len
    omega) ⟨Nat.zero_le _, Nat.zero_le _⟩ (Nat.le_refl _)
  rw [hl] at this
  exact this
theorem PipesAt.keeps {w w' : World} {ρ : Nat → Role} {pb : Nat} {vch : Value} {ptr : List Nat} {mb : Option Nat} {D : DataW Value} {N M : Nat} {s : St} (h : PipesAt w ρ pb vch ptr mb D N M s) {S : Nat → Prop} (hk : Keeps S w w')
    (hS : ∀ b, b < w.heap.size → S b → ρ b = .free) : PipesAt w' ρ pb vch ptr mb D N M s :=
  h.same (S := fun b => S b ∧ b < w.heap.size) (hk.mono fun _ hb e => ⟨e, hb⟩) (fun _ _ => rfl) (fun b hb => Nat.lt_of_lt_of_le (h.dom b hb) hk.size) fun b e => hS b e.2 e.1
/-- The channels, and that all is as it may be. -/
def Pipes (w : World) (ρ : Nat → Role) (pb N : Nat) (s : St) : Prop := Ok s ∧ ∃ vch ptr mb D, PipesAt w ρ pb vch ptr mb D N (6 * N) s
theorem Pipes.keeps {w w' : World} {ρ : Nat → Role} {pb N : Nat} {s : St} (h : Pipes w ρ pb N s) {S : Nat → Prop} (hk : Keeps S w w') (hS : ∀ b, b < w.heap.size → S b → ρ b = .free) : Pipes w' ρ pb N s := by
  obtain ⟨h0, vch, ptr, mb, D, h1⟩ := h
  exact ⟨h0, vch, ptr, mb, D, h1.keeps hk hS⟩
end Go.Proofs.YtpehmghnfbkaaaaDoor
