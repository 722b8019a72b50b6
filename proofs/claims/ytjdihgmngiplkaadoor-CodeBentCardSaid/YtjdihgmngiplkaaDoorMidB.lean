/-
  A row of bytes of the call's own, told cell by cell (so what '[]byte(s)' made fits, too): a byte, and a text, put behind. Of no chapter.
-/
import Derived.Test.YtjdihgmngiplkaaDoorText
import Derived.Test.YtjdihgmngiplkaaDoorKeeps
import Derived.ArgAppend
import Derived.Laws.IdiomCopy
import Derived.Lib.AppendStr
namespace Go.Proofs.YtjdihgmngiplkaaDoor
open Go.RowKit

def byV (l : List Nat) : List Value := l.map fun b : Nat => Value.int .u8 (b : Int)
theorem byV_length (l : List Nat) : (byV l).length = l.length := by simp [byV]
theorem byV_get {l : List Nat} {j : Nat} {u : Value} (h : (byV l)[j]? = some u) : ∃ x, l[j]? = some x ∧ u = .int .u8 (x : Int) := by
  unfold byV at h
  rw [List.getElem?_map] at h
  obtain ⟨x, hx, rfl⟩ := Option.map_eq_some_iff.1 h
  exact ⟨x, hx, rfl⟩
theorem byV_one {l : List Nat} : ∀ u ∈ byV l, u.oneCell' = true := by
  intro u hu
  obtain ⟨x, _, rfl⟩ := List.mem_map.1 hu
  rfl
theorem strCells_bs (s : ByteArray) : Lib.strCells s = byV (bs s) := by
  simp [Lib.strCells, byV, bs]
/-- So many bytes at the head of a block from B on, which may be written as far as the capacity goes. -/
def MidB (w : World) (B : Nat) (v : Value) (l : List Nat) : Prop :=
  ∃ b cap, v = .slice (some ⟨b, 0, none⟩) l.length cap ∧ l.length ≤ cap ∧ cap ≤ maxLen ∧ B ≤ b ∧ b < w.heap.size ∧
    (∀ (j x : Nat), l[j]? = some x → w.cell? ⟨b, j, none⟩ = some (.int .u8 (x : Int))) ∧ ∀ j, j < cap → (w.cell? ⟨b, j, none⟩).isSome = true ∧ w.frozen? ⟨b, j, none⟩ = false
theorem MidB.keeps {w w' : World} {B : Nat} {v : Value} {l : List Nat} {S : Nat → Prop} (h : MidB w B v l) (hk : Keeps S w w') (hs : ∀ k, v.ownBlock = some k → ¬ S k) : MidB w' B v l := by
  obtain ⟨b, cap, rfl, h1, h2, h3, h4, h5, h6⟩ := h
  have hn : ¬ S b := hs b rfl
  exact ⟨b, cap, rfl, h1, h2, h3, Nat.lt_of_lt_of_le h4 hk.size, fun j x hx => hk.cell_of (h5 j x hx) hn, fun j hj => ⟨by rw [hk.cell (p := ⟨b, j, none⟩) h4 hn]; exact (h6 j hj).1, by rw [hk.frozen (p := ⟨b, j, none⟩) h4 hn]; exact (h6 j hj).2⟩⟩
theorem MidB.below {w w' : World} {B : Nat} {v : Value} {l : List Nat} (h : MidB w B v l) (hb : Below w.heap.size w w') : MidB w' B v l := h.keeps (S := fun _ => False) (Keeps.of_new hb) fun _ _ => id
theorem MidB.slice {w : World} {B : Nat} {v : Value} {l : List Nat} (h : MidB w B v l) : ∃ b cap, v = .slice (some ⟨b, 0, none⟩) l.length cap := by
  obtain ⟨b, cap, rfl, _⟩ := h
  exact ⟨b, cap, rfl⟩
theorem MidB.le {w : World} {B : Nat} {v : Value} {l : List Nat} (h : MidB w B v l) : ∀ k, v.ownBlock = some k → B ≤ k ∧ k < w.heap.size := by
  obtain ⟨b, cap, rfl, _, _, h3, h4, _⟩ := h
  intro k e
  cases e
  exact ⟨h3, h4⟩
theorem MidB.text {w : World} {B b n c : Nat} {l : List Nat} (h : MidB w B (.slice (some ⟨b, 0, none⟩) n c) l) :
    (convert 53 9 (.slice (some ⟨b, 0, none⟩) n c)).run Tryd.prog w = .ok (.string (txt l)) w := by
  obtain ⟨b', cap, e, h1, _, _, _, h5, h6⟩ := h
  rw [Value.slice.injEq] at e
  obtain ⟨e1, rfl, rfl⟩ := e
  cases e1
  refine RowAt.text (fun j hj => ⟨?_, (h6 j (by omega)).2⟩) rfl
  rw [h5 j _ (List.getElem?_eq_getElem hj), List.getD_eq_getElem?_getD, List.getElem?_eq_getElem hj]
  rfl
/-- What '[]byte(s)' makes. -/
theorem midB_of (w : World) (s : ByteArray) (hs : s.size ≤ 1000000) : MidB (Lib.bytesWorld w 5 s) w.heap.size (.slice (some ⟨w.heap.size, 0, none⟩) s.size (grownCap w s.size 0 5)) (bs s) := by
  have hge := grownCap_ge w s.size 0 5
  have hcm := grownCap_le_maxLen w s.size 0 5 (by unfold maxLen; omega)
  have hn := Lib.bytesWorld_at_new w 5 s
  have hsz : (Lib.bytesCells w 5 s).size = grownCap w s.size 0 5 := by
    simp [Lib.bytesCells]
    show s.size + _ = _
    omega
  refine ⟨w.heap.size, _, by rw [bs_length], by rw [bs_length]; exact hge, hcm, Nat.le_refl _, by rw [Lib.bytesWorld_size]; omega, fun j x hx => ?_, fun j hj => ⟨?_, ?_⟩⟩
  · have hj := (List.getElem?_eq_some_iff.1 hx).1
    have := (RowAt.ofText w s j hj).1
    rw [this, List.getD_eq_getElem?_getD, hx]
    rfl
  · simp [World.cell?, hn]
    omega
  · simp [World.frozen?, hn]
    omega
theorem midB_own {w : World} {B n : Nat} {v : Value} {l : List Nat} (h : w.ownsRow B 5 1 v n (byV l)) (h0 : 0 < n) : MidB w B v l := by
  obtain ⟨h1, h2⟩ := h
  rw [byV_length, Nat.mul_one] at h1
  subst h1
  rcases h2 with ⟨rfl, h3⟩ | ⟨g, cap, cur, rfl, h3, h4, h5, h6, h7, h8⟩
  · omega
  · refine ⟨g, cap, rfl, h5, h6, h3, (Array.getElem?_eq_some_iff.1 h4).1, fun j x hx => ?_, fun j hj => ?_⟩
    · have hj := (List.getElem?_eq_some_iff.1 hx).1
      have e : (byV l)[j]? = some (.int .u8 (x : Int)) := by unfold byV; rw [List.getElem?_map, hx]; rfl
      rw [← h8, List.getElem?_take_of_lt (by omega), Array.getElem?_toList] at e
      simp [World.cell?, h4, e]
    · have hj2 : j < cur.size := by omega
      constructor
      · simp [World.cell?, h4, hj2]
      · simp [World.frozen?, h4]
theorem keeps_setCells (w : World) (b : Nat) : ∀ (vs : List Value) (o : Nat) (W : World), Keeps (fun k => k = b) w W → Keeps (fun k => k = b) w (W.setCells b o vs)
  | [], _, _, h => h
  | v :: vs, o, _, h => keeps_setCells w b vs (o + 1) _ (h.setCell (p := ⟨b, o, none⟩) (Or.inl rfl) v)
/-- Written behind, where there is room. -/
theorem midB_room {w : World} {B b cap : Nat} {l ns : List Nat} (h : MidB w B (.slice (some ⟨b, 0, none⟩) l.length cap) l) (hr : l.length + ns.length ≤ cap) :
    MidB (w.setCells b l.length (byV ns)) B (.slice (some ⟨b, 0, none⟩) (l.length + ns.length) cap) (l ++ ns) := by
  obtain ⟨b', cap', e, h1, h2, h3, h4, h5, h6⟩ := h
  rw [Value.slice.injEq] at e
  obtain ⟨e1, _, rfl⟩ := e
  cases e1
  have hk := keeps_setCells w b (byV ns) l.length w (Keeps.refl _ _)
  have hsome : ∀ j, j < (byV ns).length → (w.cell? ⟨b, l.length + j, none⟩).isSome = true := fun j hj => by rw [byV_length] at hj; exact (h6 _ (by omega)).1
  refine ⟨b, cap, by rw [List.length_append], by rw [List.length_append]; exact hr, h2, h3, Nat.lt_of_lt_of_le h4 hk.size, fun j x hx => ?_, fun j hj => ⟨?_, by rw [World.frozen?_setCells]; exact (h6 j hj).2⟩⟩
  · by_cases hj : j < l.length
    · rw [World.cell?_setCells_out _ _ _ _ _ (fun _ _ => Or.inl hj)]
      rw [List.getElem?_append_left hj] at hx
      exact h5 j x hx
    · rw [List.getElem?_append_right (by omega)] at hx
      have hl := (List.getElem?_eq_some_iff.1 hx).1
      have e : (byV ns)[j - l.length]? = some (.int .u8 (x : Int)) := by unfold byV; rw [List.getElem?_map, hx]; rfl
      have := World.cell?_setCells_in b (byV ns) l.length w hsome (j - l.length) (by rw [byV_length]; exact hl)
      rw [show l.length + (j - l.length) = j by omega] at this
      rw [this, ← List.getElem?_eq_getElem, e]
  · by_cases hj2 : l.length ≤ j ∧ j < l.length + (byV ns).length
    · have := World.cell?_setCells_in b (byV ns) l.length w hsome (j - l.length) (by omega)
      rw [show l.length + (j - l.length) = j by omega] at this
      rw [this]; rfl
    · rw [World.cell?_setCells_out _ _ _ _ _ (fun _ _ => by show j < _ ∨ _ ≤ j; omega)]
      exact (h6 j hj).1
theorem midB_grown {w w' : World} {B : Nat} {v' : Value} {l ns : List Nat} (hB : B ≤ w.heap.size) (hO : w'.ownsRow w.heap.size 5 1 v' (l.length + ns.length) (byV l ++ byV ns)) (h0 : 0 < l.length + ns.length) : MidB w' B v' (l ++ ns) := by
  have e : byV l ++ byV ns = byV (l ++ ns) := by simp [byV]
  rw [e] at hO
  obtain ⟨b, cap, e1, e2, e3, e4, e5⟩ := midB_own hO h0
  exact ⟨b, cap, e1, e2, e3, Nat.le_trans hB e4, e5⟩
/-- 'b = append(b, y)'. -/
theorem wpList_appendB {ops : Array Oper} {rest : List Oper} {o : Oper} {a : Act} {Q : Exit → Act → World → Prop} (hgd : o.guard = none) (s x : Operand)
    (ho : o.op = .call { callee := .builtin .append, args := #[s, x], argTypes := #[53, 53] }) (w : World) (B : Nat) (v : Value) (l : List Nat) (y : Nat) (hown : MidB w B v l) (hs : a.eval s = v)
    (hx : a.eval x = .slice (some ⟨w.heap.size, 0, none⟩) 1 1) (hl : l.length ≤ 1000000) (hB : B ≤ w.heap.size)
    (h : ∀ b' cap' w', MidB w' B (.slice (some ⟨b', 0, none⟩) (l.length + 1) cap') (l ++ [y]) → Keeps (fun b => v.ownBlock = some b) w w' →
      wpList Tryd.prog ops Q rest (a.put o.dst (.slice (some ⟨b', 0, none⟩) (l.length + 1) cap')) w') : wpList Tryd.prog ops Q (o :: rest) a (w.alloc (.cells #[.int .u8 (y : Int)] 5)) := by
  obtain ⟨i0, hi, hz0, hz1, hz2⟩ := info_parts info_u8
  have hka : Keeps (fun _ => False) w (w.alloc (.cells #[.int .u8 (y : Int)] 5)) := (Keeps.refl _ w).alloc _
  have hown' := hown.keeps hka fun _ _ => id
  have hownc := hown'
  obtain ⟨b, cap, rfl, h1, h2, h3, h4, h5, h6⟩ := hown'
  refine wpList_append_arg _ hgd s x 53 ho 5 i0 (.int .u8 0) 1 1 Tryd.underlying53 hi hz0 hz1 hz2 rfl (by decide) b 0 l.length cap (byV l) hs (by rw [byV_length, Nat.mul_one])
    (fun j u hu => by
      obtain ⟨z, hz, rfl⟩ := byV_get hu
      rw [Nat.zero_add]
      exact h5 j z hz) ⟨w.heap.size, 0, none⟩ 1 1 (byV [y]) hx rfl (cell_one_new _ _ _) byV_one
    (fun hr j hj => by
      have hj0 : j = 0 := by simpa [byV] using hj
      subst hj0
      rw [Nat.mul_one, Nat.add_zero, Nat.zero_add]
      exact h6 l.length (by omega)) (by unfold maxLen; omega) (by omega) (fun hr => ?_) (fun hg v' w' hO hgb => ?_)
  · rw [Nat.mul_one, Nat.zero_add]
    refine h b cap _ (midB_room (ns := [y]) hownc hr) ?_
    have := keeps_setCells (w.alloc (.cells #[.int .u8 (y : Int)] 5)) b (byV [y]) l.length _ (Keeps.refl _ _)
    exact (hka.mono fun _ _ e => e.elim).trans (this.mono fun k _ e => by rw [e]; rfl)
  · have hm : MidB w' B v' (l ++ [y]) := midB_grown (w := w.alloc (.cells #[.int .u8 (y : Int)] 5)) (ns := [y]) (Nat.le_trans hB hka.size) hO (by simp)
    obtain ⟨b', cap', e⟩ := hm.slice
    rw [List.length_append] at e
    have e' : v' = .slice (some ⟨b', 0, none⟩) (l.length + 1) cap' := e
    subst e'
    refine h b' cap' w' hm ((hka.mono fun _ _ e => e.elim).trans (Keeps.of_grownBy hgb fun k _ e => by cases e))
/-- 'b = append(b, t...)', t a text. -/
theorem wpList_appendBs {ops : Array Oper} {rest : List Oper} {o : Oper} {a : Act} {Q : Exit → Act → World → Prop} (hgd : o.guard = none) (s x : Operand)
    (ho : o.op = .call { callee := .builtin .append, args := #[s, x], argTypes := #[53, 9] }) (w : World) (B : Nat) (v : Value) (l : List Nat) (t : ByteArray) (hown : MidB w B v l) (hs : a.eval s = v)
    (hx : a.eval x = .string t) (hl : l.length ≤ 1000000) (ht : t.size ≤ 1000000) (ht0 : 0 < l.length + t.size) (hB : B ≤ w.heap.size)
    (h : ∀ b' cap' w', MidB w' B (.slice (some ⟨b', 0, none⟩) (l.length + t.size) cap') (l ++ bs t) → Keeps (fun b => v.ownBlock = some b) w w' →
      wpList Tryd.prog ops Q rest (a.put o.dst (.slice (some ⟨b', 0, none⟩) (l.length + t.size) cap')) w') : wpList Tryd.prog ops Q (o :: rest) a w := by
  obtain ⟨i0, hi, hz0, hz1, hz2⟩ := info_parts info_u8
  have hownc := hown
  obtain ⟨b, cap, rfl, h1, h2, h3, h4, h5, h6⟩ := hown
  refine wpList_plain hgd fun K hK' => ?_
  by_cases hr : l.length + t.size ≤ cap
  · have hst := run_storeCells_cells (P := Tryd.prog) b l.length (byV (bs t)) 0 w (fun j hj => by rw [byV_length, bs_length] at hj; simpa using (h6 (l.length + j) (by omega)).1) (fun j hj => by rw [byV_length, bs_length] at hj; simpa using (h6 (l.length + j) (by omega)).2) byV_one
    have hfc := Lib.run_firstCells_string (P := Tryd.prog) w i0.size t
    simp only [Nat.add_zero] at hst
    have hrun : (Builtin.append_ #[53, 9] o.type #[.slice (some ⟨b, 0, none⟩) l.length cap, .string t]).run Tryd.prog w = .ok (.slice (some ⟨b, 0, none⟩) (l.length + t.size) cap) (w.setCells b l.length (byV (bs t))) := by
      rw [strCells_bs] at hfc
      simp [Builtin.append_, run_underlying Tryd.underlying53, run_underlying Tryd.underlying9, sizeOf, typeInfo, hi, hz1, Builtin.lenOf, hr, Addr.add_lit]
      rw [hz1] at hfc
      simp [hfc, hst]
    unfold Oper.wp
    simp [execOp, ho, resolve, invoke, builtin, hs, hx, hrun, Result.andThen]
    have hm := midB_room (ns := bs t) hownc (by rw [bs_length]; exact hr)
    rw [bs_length] at hm
    exact hK' _ _ (h b cap _ hm ((keeps_setCells w b (byV (bs t)) l.length _ (Keeps.refl _ _)).mono fun k _ e => by rw [e]; rfl))
  · have hge := grownCap_ge w (l.length + t.size) cap 5
    have hcm := grownCap_le_maxLen w (l.length + t.size) cap 5 (by unfold maxLen; omega)
    have hrun := Lib.run_append_grow_string (P := Tryd.prog) w 53 9 o.type 5 i0 (.int .u8 0) Tryd.underlying53 Tryd.underlying9 hi hz0 ⟨b, 0, none⟩ l.length cap (byV l) (by rw [byV_length, hz1, Nat.mul_one])
      (fun j u hj => by
        obtain ⟨z, hz, rfl⟩ := byV_get hj
        have := h5 j z hz
        rwa [show (⟨b, 0, none⟩ : Addr).add j = ⟨b, j, none⟩ by unfold Addr.add; split <;> simp_all]) t (by omega) (by omega) (by rw [hz2]; exact growslice_fits (by omega) (by omega))
    have hO : (w.drew.alloc (.cells ((byV l).toArray ++ (Lib.strCells t).toArray ++ Builtin.zeroCells (Value.int .u8 0).cells (grownCap w (l.length + t.size) cap 5 - (l.length + t.size))) 5)).ownsRow w.heap.size 5 1 (.slice (some ⟨w.heap.size, 0, none⟩) (l.length + t.size) (grownCap w (l.length + t.size) cap 5)) (l.length + (bs t).length) (byV l ++ byV (bs t)) := by
      rw [bs_length, ← strCells_bs]
      have hlen : (byV l ++ Lib.strCells t).length = (l.length + t.size) * 1 := by rw [List.length_append, byV_length, strCells_bs, byV_length, bs_length, Nat.mul_one]
      refine ⟨hlen, .inr ⟨w.heap.size, _, _, rfl, Nat.le_refl _, heap_alloc_new w.drew _, hge, hcm, ?_, ?_⟩⟩
      · have hz1' : (Value.int IntKind.u8 0).cells.size = 1 := rfl
        simp only [Array.size_append, List.size_toArray, size_zeroCells, hz1', byV_length, strCells_bs, bs_length]
        omega
      · simp only [Array.toList_append, List.append_assoc]
        rw [← List.append_assoc, ← hlen]
        exact List.take_left
    have hgb : w.grownBy (w.drew.alloc (.cells ((byV l).toArray ++ (Lib.strCells t).toArray ++ Builtin.zeroCells (Value.int .u8 0).cells (grownCap w (l.length + t.size) cap 5 - (l.length + t.size))) 5)) none := ⟨rfl, rfl, rfl, by simp, fun k hk _ => Below.heap_alloc w.drew _ _ hk⟩
    generalize w.drew.alloc (.cells ((byV l).toArray ++ (Lib.strCells t).toArray ++ Builtin.zeroCells (Value.int .u8 0).cells (grownCap w (l.length + t.size) cap 5 - (l.length + t.size))) 5) = w' at hrun hO hgb
    unfold Oper.wp
    simp [execOp, ho, resolve, invoke, builtin, hs, hx, hrun, Result.andThen]
    exact hK' _ _ (h _ _ _ (midB_grown hB hO (by rw [bs_length]; exact ht0)) (Keeps.of_grownBy hgb fun k _ e => by cases e))
end Go.Proofs.YtjdihgmngiplkaaDoor
