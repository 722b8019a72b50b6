/-
  The reference's Lex: what its loop keeps, and what each of its steps comes to.
-/
import Derived.Test.YthkfdhglgonmnaaGreatDoorRefLex5
import Derived.Test.YthkfdhglgonmnaaGreatDoorLexTold
import Derived.Sort.Walk0
namespace Go.Proofs.YthkfdhglgonmnaaGreatDoor
open Go.RowKit Lx

/-- What the loop of the reference's Lex keeps; w: the world behind its first step. -/
structure RL (w wr : World) (s : ByteArray) (v : Value) (k : Nat) (ts : List Tok) : Prop where
  hk : k ≤ s.size
  own : wr.ownsRow w.heap.size 35 3 v ts.length (cellsT ts)
  fine : ∀ t, ts[ts.length - 1]? = some t → Fine t
  len : ts.length ≤ k
  bel : Below w.heap.size w wr
  lxe : lx (rs s 0) 0 false = (ts ++ (lx (rs s k) k (mayL ts)).1, (lx (rs s k) k (mayL ts)).2)

variable {w wr w' : World} {s : ByteArray} {v v' : Value} {k n kd : Nat} {ts : List Tok}
theorem RL.fresh (h : RL w wr s v k ts) (hb : Below wr.heap.size wr w') : RL w w' s v k ts :=
  ⟨h.hk, (Keeps.of_new (S := fun _ => False) hb).row h.own (fun _ _ h => h), h.fine, h.len, h.bel.trans (hb.mono h.bel.size), h.lxe⟩
theorem rne (hlt : k < s.size) : rs s k ≠ [] := by rw [rs_cons s k hlt]; simp
theorem RL.skip (h : RL w wr s v k ts) (hlt : k < s.size) (hst : stepV (rs s k) (mayL ts) = .skip n) : RL w wr s v (k + n) ts := by
  have h1 := Lx.step_skip (rne hlt) hst
  rw [rs_length] at h1
  refine ⟨by omega, h.own, h.fine, by have := h.len; omega, h.bel, ?_⟩
  rw [h.lxe, lx_skip (rne hlt) hst, rs_drop]
theorem RL.tok (h : RL w wr s v k ts) (hs : s.size ≤ 4000) (hlt : k < s.size) (hst : stepV (rs s k) (mayL ts) = .cut (.tok kd n)) (hb : Below w.heap.size w w')
    (ho : w'.ownsRow w.heap.size 35 3 v' (ts.length + 1) (cellsT ts ++ [.int .i64 kd, .string (mkT ((rs s k).take n)), .int .i64 k])) : RL w w' s v' (k + n) (ts ++ [⟨kd, (rs s k).take n, k⟩]) := by
  obtain ⟨h1, h2, _⟩ := step_tok (rne hlt) hst
  rw [rs_length] at h2
  refine ⟨by omega, by rw [List.length_append, ← cellsT_snoc]; exact ho, fun t ht => ?_, by have := h.len; simp; omega, hb, ?_⟩
  · rw [List.length_append, List.length_singleton, Nat.add_sub_cancel, List.getElem?_append_right (Nat.le_refl _), Nat.sub_self] at ht
    cases ht
    exact fine_step (rne hlt) (by rw [rs_length]; omega) hst
  · rw [h.lxe, lx_tok (rne hlt) hst, mayL_snoc, rs_drop]
    simp
theorem RL.err {e : Nat} (h : RL w wr s v k ts) (hlt : k < s.size) (hst : stepV (rs s k) (mayL ts) = .cut (.err e)) : lx (rs s 0) 0 false = (ts, some (e, k)) := by
  rw [h.lxe, lx_err (rne hlt) hst, List.append_nil]

theorem RL.grown {o : Obj} (h : RL w wr s v k ts) (hg : (wr.alloc o).grownBy w' v.ownBlock) : Below w.heap.size w w' :=
  (h.bel.alloc h.bel.size _).grown hg (by have := h.bel.size; simp; omega) (fun b hb => by
    rcases h.own.2 with ⟨rfl, _⟩ | ⟨g, cap, cur, rfl, hge, _⟩
    · cases hb
    · simp only [Value.ownBlock, Option.some.injEq] at hb; omega)
set_option maxRecDepth 100000 in
set_option maxHeartbeats 1600000 in
theorem rMayEnd_none (ao : Option Addr) (cap : Nat) (w : World) : Calls Tryz.prog 28 #[.slice ao 0 cap] w fun e w' => e = .returned (.bool false) ∧ Below w.heap.size w w' := by
  go_enter Tryz.func28, Tryz.ntmps28
  go_wp2_with fail
  go_ret
  exact ⟨rfl, Below.refl _ _⟩
theorem RL.may (h : RL w wr s v k ts) (hs : s.size ≤ 4000) (hM : MaxL wr) : Calls Tryz.prog 28 #[v] wr fun e w' => e = .returned (.bool (mayL ts)) ∧ Below wr.heap.size wr w' := by
  rcases List.eq_nil_or_concat ts with rfl | ⟨ini, t, rfl⟩
  · obtain ⟨ao, cap, rfl, _⟩ := own_slice h.own
    exact rMayEnd_none ao cap wr
  · rw [List.concat_eq_append] at h ⊢
    have hl : (ini ++ [t])[(ini ++ [t]).length - 1]? = some t := by
      rw [List.length_append, List.length_singleton, Nat.add_sub_cancel, List.getElem?_append_right (Nat.le_refl _), Nat.sub_self]; rfl
    obtain ⟨f1, f2, f3⟩ := h.fine t hl
    have hlen := h.len
    have hk := h.hk
    have := rMayEnd_any (ini ++ [t]) t v wr (rowT_own h.own) hl (by omega) f3 f2 hM
    rw [f1, ← mayL_snoc ini t] at this
    exact this

theorem gt_says (X : ByteArray) : (maxT < X.data.toList → Op.bytesLess X.toList [57, 50, 50, 51, 51, 55, 50, 48, 51, 54, 56, 53, 52, 55, 55, 53, 56, 48, 55] = false ∧ (X.toList == [57, 50, 50, 51, 51, 55, 50, 48, 51, 54, 56, 53, 52, 55, 55, 53, 56, 48, 55]) = false) ∧
    (¬ maxT < X.data.toList → Op.bytesLess X.toList [57, 50, 50, 51, 51, 55, 50, 48, 51, 54, 56, 53, 52, 55, 55, 53, 56, 48, 55] = true ∨ (X.toList == [57, 50, 50, 51, 51, 55, 50, 48, 51, 54, 56, 53, 52, 55, 55, 53, 56, 48, 55]) = true) := by
  rw [bytesLess_eq, Lib.toList_data]
  show (maxT < _ → decide (_ < maxT) = false ∧ (_ == maxT) = false) ∧ (¬ maxT < _ → decide (_ < maxT) = true ∨ (_ == maxT) = true)
  generalize X.data.toList = l
  refine ⟨fun h => ⟨decide_eq_false (List.lt_asymm h), beq_eq_false_iff_ne.2 (fun e => List.lt_irrefl _ (e ▸ h))⟩, fun h => ?_⟩
  by_cases g : l < maxT
  · exact Or.inl (decide_eq_true g)
  · exact Or.inr (beq_iff_eq.2 (List.le_antisymm (List.not_lt.1 h) (List.not_lt.1 g)))
theorem line_head (r : ByteArray) : ∃ x t, Lib.splitB ⟨#[10]⟩ 0 1 r = x :: t ∧ x.size = lineV r.data.toList := by
  have hx := index_line r.data.toList
  have hi : Lib.indexB r ⟨#[10]⟩ = Lib.indexByte r.data.toList 10 := by
    show Lib.index r.data.toList [10] = _
    exact Lib.index_one _ _
  have hl : r.data.toList.length = r.size := by simp
  have hle := lineV_le r.data.toList
  by_cases hm : lineV r.data.toList = r.data.toList.length
  · rw [if_pos hm] at hx
    exact ⟨r, [], Lib.splitB_miss _ _ _ _ (by rw [hi, hx]), by rw [hm, hl]⟩
  · rw [if_neg hm] at hx
    refine ⟨_, _, Lib.splitB_hit _ _ _ _ (lineV r.data.toList) (by rw [hi, hx]), ?_⟩
    rw [ByteArray.size_extract]; omega
theorem rFirst_any (r : ByteArray) (w : World) (h : 1 ≤ r.size) (hs : r.size ≤ 4000) (hM : MaxL w) : Calls Tryz.prog 27 #[.string r, .string ⟨#[10]⟩, .int .i64 2] w fun e w' =>
    ∃ x L, e = .returned (.slice (some ⟨w.heap.size, 0, none⟩) (L + 1) 2) ∧ w'.cell? ⟨w.heap.size, 0, none⟩ = some (.string x) ∧ x.size = lineV r.data.toList ∧ Below w.heap.size w w' := by
  obtain ⟨m, hm⟩ := hM
  have hmin : min 2 (r.size + 1) = 2 := by omega
  have H := Tryz.strings_SplitN r ⟨#[10]⟩ 2 m w (by omega) hm (by decide) (by decide) (by decide)
  rw [hmin] at H
  obtain ⟨x, t, hx, hsz⟩ := line_head r
  rw [show 2 - 1 = 1 from rfl, hx] at H
  refine H.mono ?_
  rintro e w' ⟨rfl, rfl⟩
  refine ⟨x, t.length, rfl, ?_, hsz, (Below.refl _ _).alloc (Nat.le_refl _) _⟩
  rw [World.cell?_alloc_at _ _ _ _ rfl]
  simp [Lib.cellsOf]

/-- How long the sign is that is found among the first j. -/
def sgV (l : B) (j : Nat) : Nat := match (sigsL.take j).find? (·.isPrefixOf l) with
  | some z => z.length
  | none => 0
theorem sgV_le (l : B) (j : Nat) : sgV l j ≤ l.length := by
  unfold sgV
  split
  · rename_i z hz
    exact (List.isPrefixOf_iff_prefix.1 (by simpa using List.find?_some hz)).length_le
  · omega
theorem sgV_pos {l : B} {j : Nat} {z : B} (h : (sigsL.take j).find? (·.isPrefixOf l) = some z) : sgV l j = z.length ∧ 0 < z.length := by
  have hm := List.mem_of_mem_take (List.mem_of_find?_eq_some h)
  exact ⟨by unfold sgV; rw [h], sigs_pos z hm⟩
theorem sgV_zero {l : B} {j : Nat} (h : sgV l j = 0) : (sigsL.take j).find? (·.isPrefixOf l) = none := by
  cases hf : (sigsL.take j).find? (·.isPrefixOf l) with
  | none => rfl
  | some z => have := sgV_pos hf; omega
theorem sgV_succ (l : B) (j : Nat) (z : B) (hz : sigsL[j]? = some z) : sgV l (j + 1) = if sgV l j = 0 then (if z.isPrefixOf l then z.length else 0) else sgV l j := by
  have ht : sigsL.take (j + 1) = sigsL.take j ++ [z] := by rw [List.take_add_one, hz]; rfl
  by_cases h0 : sgV l j = 0
  · rw [if_pos h0]
    have := sgV_zero h0
    unfold sgV
    rw [ht, List.find?_append, this]
    by_cases hp : z.isPrefixOf l = true
    · simp [hp]
    · simp [hp]
  · rw [if_neg h0]
    cases hf : (sigsL.take j).find? (·.isPrefixOf l) with
    | none => exact absurd (by unfold sgV; rw [hf]) h0
    | some y =>
      unfold sgV
      rw [ht, List.find?_append, hf]; rfl
theorem sigCut_sg (l : B) : sigCut l = if sgV l 28 = 0 then .err 3 else .tok 4 (sgV l 28) := by
  have ht : sigsL.take 28 = sigsL := rfl
  unfold sigCut
  cases hf : sigsL.find? (·.isPrefixOf l) with
  | none =>
    have : sgV l 28 = 0 := by unfold sgV; rw [ht, hf]
    rw [if_pos this]
  | some z =>
    have := sgV_pos (l := l) (j := 28) (z := z) (by rw [ht]; exact hf)
    rw [if_neg (by omega), this.1]
theorem signsX_at (j : Nat) (hj : j < 28) : ∃ z, sigsL[j]? = some z ∧ signsX[j]? = some (mkT z) := by
  have : j < sigsL.length := hj
  refine ⟨sigsL[j], List.getElem?_eq_getElem this, ?_⟩
  unfold signsX
  rw [List.getElem?_map, List.getElem?_eq_getElem this]; rfl
end Go.Proofs.YthkfdhglgonmnaaGreatDoor
