/-
  Texts of one proof, in build order: The reader's small functions: the token that comes next. | The reader's small functions: what must come next, what may. | Ops by their signs, their levels; kinds by their words. | The reader's expressions: what stands for itself; what the reader's tables are. | The reader's expressions: what ops of two tie together. | The reader's expr, and named (by what is asked of call). | The reader's ONE: too deep, a number, a name, brackets. | The reader's list: brackets, items with commas between them, each read by a function that is handed in.
-/
import Derived.Test.YtgonbmcojjcabaaGreatDoorAg1
import Derived.Test.YtgonbmcojjcabaaGreatDoorAgShelf
namespace Go.Proofs.YtgonbmcojjcabaaGreatDoor
open Go.RowKit Lx Tr

/-- The reader in memory: its tokens, which one comes next, where the text ends, in how many blocks. -/
structure RdAt (w : World) (rb : Nat) (tv : Value) (E : Env) (n d : Nat) : Prop where
  c0 : w.cell? ⟨rb, 0, none⟩ = some tv
  c1 : w.cell? ⟨rb, 1, none⟩ = some (.int .i64 (n : Nat))
  c2 : w.cell? ⟨rb, 2, none⟩ = some (.int .i64 (E.en : Nat))
  c3 : w.cell? ⟨rb, 3, none⟩ = some (.int .i64 (d : Nat))
  z1 : w.frozen? ⟨rb, 1, none⟩ = false
  z3 : w.frozen? ⟨rb, 3, none⟩ = false
  row : RowT w tv E.toks
  lo : ∀ g m cap, tv = .slice (some ⟨g, 0, none⟩) m cap → g < rb
  hn : n ≤ E.toks.length
  hl : E.toks.length ≤ 10000
  hd : d ≤ 12

variable {w w' : World} {rb n d : Nat} {tv : Value} {E : Env}
theorem RdAt.lt (h : RdAt w rb tv E n d) : rb < w.heap.size := block_lt_of_cell h.c0
theorem RowT.keeps {S : Nat → Prop} {v : Value} {ts : List Tok} (h : RowT w v ts) (hk : Keeps S w w') (hs : ∀ g m cap, v = .slice (some ⟨g, 0, none⟩) m cap → ¬ S g) : RowT w' v ts := by
  rcases h with h | ⟨g, cap, h1, h2, h3, h4, h5⟩
  · exact Or.inl h
  · have hn := hs g _ _ h1
    exact Or.inr ⟨g, cap, h1, h2, h3, Nat.lt_of_lt_of_le h4 hk.size, fun i t hi => ⟨hk.cell_of (h5 i t hi).1 hn, hk.cell_of (h5 i t hi).2.1 hn, hk.cell_of (h5 i t hi).2.2 hn⟩⟩
theorem RdAt.keeps {S : Nat → Prop} (h : RdAt w rb tv E n d) (hk : Keeps S w w') (hs : ∀ b, S b → rb < b) : RdAt w' rb tv E n d := by
  have hr : ¬ S rb := fun e => Nat.lt_irrefl _ (hs rb e)
  refine ⟨hk.cell_of h.c0 hr, hk.cell_of h.c1 hr, hk.cell_of h.c2 hr, hk.cell_of h.c3 hr, by rw [hk.frozen h.lt hr]; exact h.z1, by rw [hk.frozen h.lt hr]; exact h.z3, h.row.keeps hk (fun g m cap e s => by have := h.lo g m cap e; have := hs g s; omega), h.lo, h.hn, h.hl, h.hd⟩
theorem RdAt.fresh (h : RdAt w rb tv E n d) (hb : Below w.heap.size w w') : RdAt w' rb tv E n d := h.keeps (S := fun _ => False) (Keeps.of_new hb) (fun _ e => e.elim)
theorem RdAt.drewN (h : RdAt w rb tv E n d) (q : Nat) : RdAt (w.drewN q) rb tv E n d := ⟨h.c0, h.c1, h.c2, h.c3, h.z1, h.z3, h.row, h.lo, h.hn, h.hl, h.hd⟩

theorem tok_field0 (a b c : Value) (w : World) : (Instr.field 100 (.agg #[a, b, c]) 0).run Tryz.prog w = .ok a w := by kernel_rfl
theorem tok_field1 (a b c : Value) (w : World) : (Instr.field 100 (.agg #[a, b, c]) 1).run Tryz.prog w = .ok b w := by kernel_rfl
theorem tok_field2 (a b c : Value) (w : World) : (Instr.field 100 (.agg #[a, b, c]) 2).run Tryz.prog w = .ok c w := by kernel_rfl
theorem RdAt.set1 (h : RdAt w rb tv E n d) (m : Nat) (hm : m ≤ E.toks.length) : RdAt (w.setCell ⟨rb, 1, none⟩ (.int .i64 (m : Nat))) rb tv E m d := by
  have hk : Keeps (fun b => b = rb) w (w.setCell ⟨rb, 1, none⟩ (.int .i64 (m : Nat))) := (Keeps.refl (fun b : Nat => b = rb) w).setCell (S := fun b : Nat => b = rb) (p := ⟨rb, 1, none⟩) (Or.inl rfl) _
  refine ⟨?_, World.cell?_setCell_same _ _ _ h.c1, ?_, ?_, by rw [World.frozen?_setCell]; exact h.z1, by rw [World.frozen?_setCell]; exact h.z3, h.row.keeps hk (fun g m cap e s => by have := h.lo g m cap e; omega), h.lo, hm, h.hl, h.hd⟩
  · rw [World.cell?_setCell_other _ _ _ _ (off_neq (by decide) rb)]; exact h.c0
  · rw [World.cell?_setCell_other _ _ _ _ (off_neq (by decide) rb)]; exact h.c2
  · rw [World.cell?_setCell_other _ _ _ _ (off_neq (by decide) rb)]; exact h.c3
theorem RdAt.set3 (h : RdAt w rb tv E n d) (m : Nat) (hm : m ≤ 12) : RdAt (w.setCell ⟨rb, 3, none⟩ (.int .i64 (m : Nat))) rb tv E n m := by
  have hk : Keeps (fun b => b = rb) w (w.setCell ⟨rb, 3, none⟩ (.int .i64 (m : Nat))) := (Keeps.refl (fun b : Nat => b = rb) w).setCell (S := fun b : Nat => b = rb) (p := ⟨rb, 3, none⟩) (Or.inl rfl) _
  refine ⟨?_, ?_, ?_, World.cell?_setCell_same _ _ _ h.c3, by rw [World.frozen?_setCell]; exact h.z1, by rw [World.frozen?_setCell]; exact h.z3, h.row.keeps hk (fun g m cap e s => by have := h.lo g m cap e; omega), h.lo, h.hn, h.hl, hm⟩
  · rw [World.cell?_setCell_other _ _ _ _ (off_neq (by decide) rb)]; exact h.c0
  · rw [World.cell?_setCell_other _ _ _ _ (off_neq (by decide) rb)]; exact h.c1
  · rw [World.cell?_setCell_other _ _ _ _ (off_neq (by decide) rb)]; exact h.c2
/-- A token's cells in a block. -/
structure TokC (W : World) (b : Nat) (K : Nat) (T : ByteArray) (A : Nat) : Prop where
  c0 : W.cell? ⟨b, 0, none⟩ = some (.int .i64 (K : Nat))
  c1 : W.cell? ⟨b, 1, none⟩ = some (.string T)
  c2 : W.cell? ⟨b, 2, none⟩ = some (.int .i64 (A : Nat))
  z0 : W.frozen? ⟨b, 0, none⟩ = false
  z1 : W.frozen? ⟨b, 1, none⟩ = false
  z2 : W.frozen? ⟨b, 2, none⟩ = false
theorem tokC_new (w : World) (K A : Nat) (T : ByteArray) (t : TypeId) : TokC (w.alloc (.cells #[.int .i64 K, .string T, .int .i64 A] t)) w.heap.size K T A :=
  ⟨by rw [World.cell?_alloc_at _ _ _ _ rfl]; rfl, by rw [World.cell?_alloc_at _ _ _ _ rfl]; rfl, by rw [World.cell?_alloc_at _ _ _ _ rfl]; rfl, World.frozen?_alloc_new _ _ _ _, World.frozen?_alloc_new _ _ _ _, World.frozen?_alloc_new _ _ _ _⟩
theorem TokC.keeps {S : Nat → Prop} {b K A : Nat} {T : ByteArray} (h : TokC w b K T A) (hk : Keeps S w w') (hs : ¬ S b) : TokC w' b K T A :=
  have hl : b < w.heap.size := block_lt_of_cell h.c0
  ⟨hk.cell_of h.c0 hs, hk.cell_of h.c1 hs, hk.cell_of h.c2 hs, by rw [hk.frozen (p := ⟨b, 0, none⟩) hl hs]; exact h.z0, by rw [hk.frozen (p := ⟨b, 1, none⟩) hl hs]; exact h.z1, by rw [hk.frozen (p := ⟨b, 2, none⟩) hl hs]; exact h.z2⟩
theorem TokC.fresh {b K A : Nat} {T : ByteArray} (h : TokC w b K T A) (hb : Below w.heap.size w w') : TokC w' b K T A := h.keeps (S := fun _ => False) (Keeps.of_new hb) (fun e => e)
def tokV (t : Tok) : Value := .agg #[.int .i64 (t.kind : Nat), .string (mkT t.text), .int .i64 (t.at_ : Nat)]

set_option maxRecDepth 100000 in
set_option maxHeartbeats 3200000 in
theorem ahead_any (k : Nat) (w : World) (h : RdAt w rb tv E n d) (hk : k ≤ 1) : Calls Tryz.prog 117 #[.pointer (some ⟨rb, 0, none⟩), .int .i64 k] w fun e w' => e = .returned (tokV (pk E (n + k))) ∧ Below w.heap.size w w' := by
  have H0 := Lib.hid h
  have c0 := h.c0
  have c1 := h.c1
  have c2 := h.c2
  have hn := h.hn
  have hl := h.hl
  have hlt := h.lt
  have hw : IntKind.i64.wrap ((n : Int) + (k : Int)) = (n : Int) + (k : Int) := IntWalk.i64_in _ (by omega)
  obtain ⟨ao, cap, hv⟩ : ∃ ao cap, tv = .slice ao E.toks.length cap := by
    rcases h.row with ⟨h1, h2⟩ | ⟨g, cap, h1, _⟩
    · exact ⟨none, 0, by rw [h1, h2]; rfl⟩
    · exact ⟨_, _, h1⟩
  subst hv
  clear h
  by_cases hin : n + k < E.toks.length
  · obtain ⟨t, ht⟩ : ∃ t, E.toks[n + k]? = some t := ⟨_, List.getElem?_eq_getElem hin⟩
    have hpk : pk E (n + k) = t := by unfold pk; rw [ht]; rfl
    rw [hpk]
    rcases H0.out.row with ⟨_, h2⟩ | ⟨g, cap', e, h1, h2, _, h3⟩
    · rw [h2] at hin; exact absurd hin (Nat.not_lt_zero _)
    injection e with e1 _ e3
    subst e1
    subst e3
    obtain ⟨a0, a1, a2⟩ := h3 _ _ ht
    unfold tokV
    clear h3 hpk ht
    generalize mkT t.text = T at *
    generalize t.kind = K at *
    generalize t.at_ = A at *
    generalize E.toks.length = L at *
    have hin1 : ¬ ((L : Int) ≤ (n : Int) + (k : Int)) := by omega
    have hii : (0 : Int) ≤ (n : Int) + (k : Int) ∧ (n : Int) + (k : Int) < (L : Int) := by omega
    have htn : ((n : Int) + (k : Int)).toNat = n + k := by omega
    go_enter Tryz.func117, Tryz.ntmps117
    go_wp2_with fail
    go_quiet (fail)
    go_wp2_with fail
    have hb0 : Below w.heap.size w ((w.alloc (.cells #[.int .i64 0, .string ⟨#[]⟩, .int .i64 0] 100)).drewN nq) := below_drewNs ((Below.refl _ _).alloc (Nat.le_refl _) _) _
    have hg : g < w.heap.size := block_lt_of_cell a0
    rw [← hb0.cell (p := ⟨rb, 0, none⟩) hlt] at c0
    rw [← hb0.cell (p := ⟨rb, 1, none⟩) hlt] at c1
    rw [← hb0.cell (p := ⟨g, (n + k) * 3, none⟩) hg] at a0
    rw [← hb0.cell (p := ⟨g, (n + k) * 3 + 1, none⟩) hg] at a1
    rw [← hb0.cell (p := ⟨g, (n + k) * 3 + 2, none⟩) hg] at a2
    have d0 : ((w.alloc (.cells #[.int .i64 0, .string ⟨#[]⟩, .int .i64 0] 100)).drewN nq).cell? ⟨w.heap.size, 0, none⟩ = some (.int .i64 0) := by rw [World.cell?_drewN, World.cell?_alloc_at _ _ _ _ rfl]; rfl
    have d1 : ((w.alloc (.cells #[.int .i64 0, .string ⟨#[]⟩, .int .i64 0] 100)).drewN nq).cell? ⟨w.heap.size, 1, none⟩ = some (.string ⟨#[]⟩) := by rw [World.cell?_drewN, World.cell?_alloc_at _ _ _ _ rfl]; rfl
    have d2 : ((w.alloc (.cells #[.int .i64 0, .string ⟨#[]⟩, .int .i64 0] 100)).drewN nq).cell? ⟨w.heap.size, 2, none⟩ = some (.int .i64 0) := by rw [World.cell?_drewN, World.cell?_alloc_at _ _ _ _ rfl]; rfl
    have y0 : ∀ j, ((w.alloc (.cells #[.int .i64 0, .string ⟨#[]⟩, .int .i64 0] 100)).drewN nq).frozen? ⟨w.heap.size, j, none⟩ = false := fun j => World.frozen?_alloc_new w _ _ _
    have y1 := y0 0
    have y2 := y0 1
    have y3 := y0 2
    have HB0 := Lib.hid hb0
    clear y0 hb0
    generalize (w.alloc (.cells #[.int .i64 0, .string ⟨#[]⟩, .int .i64 0] 100)).drewN nq = W0 at *
    generalize hnb : w.heap.size = nb at *
    have HNB := Lib.hid hnb
    clear hnb
    go_still_tail 12, (by kernel_rfl)
    change wpList _ _ _ _ _ (World.drew _)
    go_wp2_with fail
    refine bodyPost_ret (v := .agg #[.int .i64 K, .string T, .int .i64 A]) (by simp [results, Tryz.results117, go_sem, d0, d1, d2]) rfl ⟨rfl, ?_⟩
    rw [HNB.out]
    exact (((HB0.out.setCell (p := ⟨nb, 0, none⟩) (Nat.le_refl _) _).setCell (p := ⟨nb, 1, none⟩) (Nat.le_refl _) _).setCell (p := ⟨nb, 2, none⟩) (Nat.le_refl _) _).drew
  · have hpk : pk E (n + k) = ⟨0, [], E.en⟩ := by unfold pk; rw [List.getElem?_eq_none (by omega)]; rfl
    rw [hpk]
    generalize E.toks.length = L at *
    have hin1 : (L : Int) ≤ (n : Int) + (k : Int) := by omega
    go_enter Tryz.func117, Tryz.ntmps117
    go_wp2_with fail
    go_quiet (fail)
    go_wp2_with fail
    refine bodyPost_ret (v := .agg #[.int .i64 0, .string ⟨#[]⟩, .int .i64 E.en]) (by simp [results, Tryz.results117, go_sem]) rfl ⟨rfl, ?_⟩
    exact (((below_drewNs ((Below.refl _ _).alloc (Nat.le_refl _) _) _).setCell (p := ⟨w.heap.size, 0, none⟩) (Nat.le_refl _) _).setCell (p := ⟨w.heap.size, 1, none⟩) (Nat.le_refl _) _).setCell (p := ⟨w.heap.size, 2, none⟩) (Nat.le_refl _) _

set_option maxRecDepth 100000 in
set_option maxHeartbeats 1600000 in
theorem peek_any (w : World) (h : RdAt w rb tv E n d) : Calls Tryz.prog 88 #[.pointer (some ⟨rb, 0, none⟩)] w fun e w' => e = .returned (tokV (pk E n)) ∧ Below w.heap.size w w' := by
  have H := Lib.hid h
  have hb1 : Below w.heap.size w (w.alloc (.cells #[.int .i64 0, .string ByteArray.empty, .int .i64 0] 100)) := (Below.refl _ _).alloc (Nat.le_refl _) _
  have HA := Lib.hid (ahead_any 0 _ (h.fresh hb1) (by omega))
  have HB1 := Lib.hid hb1
  rw [Nat.add_zero] at HA
  unfold tokV at *
  clear h hb1
  generalize mkT (pk E n).text = T at *
  go_enter Tryz.func88, Tryz.ntmps88
  go_wp2_with fail
  refine HA.out.mono ?_
  rintro e w1 ⟨rfl, hb2⟩
  have hsz : w.heap.size < (w.alloc (.cells #[.int .i64 0, .string ByteArray.empty, .int .i64 0] 100)).heap.size := by simp
  have d0 : w1.cell? ⟨w.heap.size, 0, none⟩ = some (.int .i64 0) := by rw [hb2.cell (p := ⟨w.heap.size, 0, none⟩) hsz, World.cell?_alloc_at _ _ _ _ rfl]; rfl
  have d1 : w1.cell? ⟨w.heap.size, 1, none⟩ = some (.string ByteArray.empty) := by rw [hb2.cell (p := ⟨w.heap.size, 1, none⟩) hsz, World.cell?_alloc_at _ _ _ _ rfl]; rfl
  have d2 : w1.cell? ⟨w.heap.size, 2, none⟩ = some (.int .i64 0) := by rw [hb2.cell (p := ⟨w.heap.size, 2, none⟩) hsz, World.cell?_alloc_at _ _ _ _ rfl]; rfl
  have y0 : w1.frozen? ⟨w.heap.size, 0, none⟩ = false := by rw [hb2.frozen (p := ⟨w.heap.size, 0, none⟩) hsz]; exact World.frozen?_alloc_new _ _ _ _
  have y1 : w1.frozen? ⟨w.heap.size, 1, none⟩ = false := by rw [hb2.frozen (p := ⟨w.heap.size, 1, none⟩) hsz]; exact World.frozen?_alloc_new _ _ _ _
  have y2 : w1.frozen? ⟨w.heap.size, 2, none⟩ = false := by rw [hb2.frozen (p := ⟨w.heap.size, 2, none⟩) hsz]; exact World.frozen?_alloc_new _ _ _ _
  have HB2 := Lib.hid (HB1.out.trans (hb2.mono HB1.out.size))
  clear hb2 hsz
  go_wp2_with fail
  refine bodyPost_ret (v := .agg #[.int .i64 (pk E n).kind, .string T, .int .i64 (pk E n).at_]) (by simp [results, Tryz.results88, go_sem, d0, d1, d2]) rfl ⟨rfl, ?_⟩
  exact ((HB2.out.setCell (p := ⟨w.heap.size, 0, none⟩) (Nat.le_refl _) _).setCell (p := ⟨w.heap.size, 1, none⟩) (Nat.le_refl _) _).setCell (p := ⟨w.heap.size, 2, none⟩) (Nat.le_refl _) _

/-- A text is this one, by its bytes. -/
theorem text_is (l m : B) : ((mkT l).toList == m) = decide (l = m) := by
  rw [Lib.toList_data]
  show (l == m) = _
  by_cases h : l = m
  · rw [decide_eq_true h, beq_iff_eq.2 h]
  · rw [decide_eq_false h, beq_eq_false_iff_ne.2 h]

set_option maxRecDepth 100000 in
set_option maxHeartbeats 1600000 in
theorem is_any (x : ByteArray) (w : World) (h : RdAt w rb tv E n d) : Calls Tryz.prog 58 #[.pointer (some ⟨rb, 0, none⟩), .string x] w fun e w' => e = .returned (.bool (decide ((pk E n).text = x.data.toList))) ∧ Below w.heap.size w w' := by
  have H := Lib.hid (peek_any w h)
  have HT := Lib.hid (text_is (pk E n).text x.toList)
  rw [← Lib.toList_data]
  unfold tokV at H
  clear h
  generalize mkT (pk E n).text = T at *
  generalize decide ((pk E n).text = x.toList) = b at *
  go_enter Tryz.func58, Tryz.ntmps58
  go_wp2_with fail
  refine H.out.mono ?_
  rintro e w1 ⟨rfl, hb⟩
  have ht := HT.out
  have hf := tok_field1
  go_wp2_with fail
  go_ret
  exact ⟨rfl, hb⟩

set_option maxRecDepth 100000 in
set_option maxHeartbeats 1600000 in
theorem ended_any (w : World) (h : RdAt w rb tv E n d) : Calls Tryz.prog 57 #[.pointer (some ⟨rb, 0, none⟩)] w fun e w' => e = .returned (.bool (decide (E.toks.length ≤ n))) ∧ ∃ q, w' = w.drewN q := by
  have c0 := h.c0
  have c1 := h.c1
  have hn := h.hn
  have hl := h.hl
  obtain ⟨ao, cap, hv⟩ : ∃ ao cap, tv = .slice ao E.toks.length cap := by
    rcases h.row with ⟨h1, h2⟩ | ⟨g, cap, h1, _⟩
    · exact ⟨none, 0, by rw [h1, h2]; rfl⟩
    · exact ⟨_, _, h1⟩
  subst hv
  clear h
  generalize E.toks.length = L at *
  by_cases hLn : L ≤ n
  all_goals
    go_enter Tryz.func57, Tryz.ntmps57
    go_wp2_with fail
    go_quiet (fail)
    go_wp2_with fail
    go_ret
    exact ⟨by simp [hLn], _, rfl⟩

/-- What a panic of the reader's bears: an error at a place. -/
def Threw (w w' : World) (rb k a : Nat) (e : Ending) : Prop :=
  ∃ b, e = .panicked [{ v := .iface 107 (.pointer (some ⟨b, 0, none⟩)), recovered := false }] ∧ rb < b ∧ w'.cell? ⟨b, 0, none⟩ = some (.int .i64 (k : Nat)) ∧ w'.cell? ⟨b, 1, none⟩ = some (.int .i64 (a : Nat)) ∧ Below rb w w'
set_option maxRecDepth 100000 in
set_option maxHeartbeats 1600000 in
theorem fail_any (k : Nat) (w : World) (h : RdAt w rb tv E n d) : Calls Tryz.prog 62 #[.pointer (some ⟨rb, 0, none⟩), .int .i64 k] w fun e w' => Threw w w' rb k (pk E n).at_ e := by
  have H := Lib.hid (peek_any w h)
  have hlt := h.lt
  unfold tokV at H
  clear h
  generalize mkT (pk E n).text = T at *
  generalize (pk E n).at_ = A at *
  go_enter Tryz.func62, Tryz.ntmps62
  go_wp2_with fail
  refine H.out.mono ?_
  rintro e w1 ⟨rfl, hb⟩
  have hf := tok_field2
  go_wp2_with fail
  refine ⟨rfl, w1.heap.size, rfl, Nat.lt_of_lt_of_le hlt hb.size, by rw [World.cell?_alloc_at _ _ _ _ rfl]; rfl, by rw [World.cell?_alloc_at _ _ _ _ rfl]; rfl, ?_⟩
  exact (Below.mono hb (Nat.le_of_lt hlt)).alloc (Nat.le_trans (Nat.le_of_lt hlt) hb.size) _

/-- What a function of the reader's answers, by what is read: a thing (V), the reader behind it, nothing else of old; or a panic. -/
def Says {α : Type} (V : World → World → α → Value → Prop) (w w' : World) (rb : Nat) (tv : Value) (E : Env) (d : Nat) (r : Res α) (e : Ending) : Prop := match r with
  | .ok x m => ∃ v, e = .returned v ∧ V w w' x v ∧ RdAt w' rb tv E m d ∧ Keeps (fun b => b = rb) w w'
  | .bad k a => Threw w w' rb k a e
  | .out => False
def TokIs (_ _ : World) (t : Tok) (v : Value) : Prop := v = tokV t

set_option maxRecDepth 100000 in
set_option maxHeartbeats 3200000 in
theorem skip_tok (w : World) (h : RdAt w rb tv E n d) (hlt : n < E.toks.length) : Calls Tryz.prog 94 #[.pointer (some ⟨rb, 0, none⟩)] w fun e w' => e = .returned (tokV (pk E n)) ∧ RdAt w' rb tv E (n + 1) d ∧ Keeps (fun b => b = rb) w w' := by
  have H0 := Lib.hid h
  have hb1 : Below w.heap.size w (w.alloc (.cells #[.int .i64 0, .string ⟨#[]⟩, .int .i64 0] 100)) := (Below.refl _ _).alloc (Nat.le_refl _) _
  have HP := Lib.hid (peek_any _ (h.fresh hb1))
  have hl := h.hl
  have hw : IntKind.i64.wrap ((n : Int) + 1) = (n : Int) + 1 := IntWalk.i64_in _ (by omega)
  have HLT := Lib.hid hlt
  have hb1' := hb1
  unfold tokV at *
  clear h hb1 hlt
  generalize mkT (pk E n).text = T at *
  generalize (pk E n).kind = K at *
  generalize (pk E n).at_ = A at *
  go_enter Tryz.func94, Tryz.ntmps94
  go_wp2_with fail
  refine HP.out.mono ?_
  rintro e w1 ⟨rfl, hb2⟩
  have hb3 : Below w1.heap.size w1 (w1.alloc (.cells #[.int .i64 K, .string T, .int .i64 A] 100)) := (Below.refl _ _).alloc (Nat.le_refl _) _
  have hr := ((H0.out.fresh hb1').fresh hb2).fresh hb3
  have ht := ((tokC_new w 0 0 ⟨#[]⟩ 100).fresh hb2).fresh hb3
  have hp := tokC_new w1 K A T 100
  have hk : Keeps (fun b => b = rb) w (w1.alloc (.cells #[.int .i64 K, .string T, .int .i64 A] 100)) := Keeps.of_new ((hb1'.trans (hb2.mono hb1'.size)).trans (hb3.mono (Nat.le_trans hb1'.size hb2.size)))
  have hne : rb ≠ w.heap.size := Nat.ne_of_lt H0.out.lt
  have hne2 : rb ≠ w1.heap.size := Nat.ne_of_lt (Nat.lt_of_lt_of_le H0.out.lt (Nat.le_trans hb1'.size hb2.size))
  have hne3 : w.heap.size ≠ w1.heap.size := Nat.ne_of_lt (Nat.lt_of_lt_of_le (by simp) hb2.size)
  have c1 := hr.c1
  have z1 := hr.z1
  have p0 := hp.c0
  have p1 := hp.c1
  have p2 := hp.c2
  have t0 := ht.c0
  have t1 := ht.c1
  have t2 := ht.c2
  have y0 := ht.z0
  have y1 := ht.z1
  have y2 := ht.z2
  have HR := Lib.hid hr
  have HK := Lib.hid hk
  have hb1'' := hb1'
  have hb2' := hb2
  clear hb1' hb2 hb3 hr ht hp hk
  have hlt1 : rb < w1.heap.size := Nat.lt_of_lt_of_le H0.out.lt (Nat.le_trans hb1''.size hb2'.size)
  have hr1 := (H0.out.fresh hb1'').fresh hb2'
  have d1 := hr1.c1
  have x1 := hr1.z1
  have HR1 := Lib.hid hr1
  have hs1 := (tokC_new w 0 0 ⟨#[]⟩ 100).fresh hb2'
  have s0 := hs1.c0
  have s1 := hs1.c1
  have s2 := hs1.c2
  have x0 := hs1.z0
  have x2 := hs1.z1
  have x3 := hs1.z2
  have hlt2 : w.heap.size < w1.heap.size := Nat.lt_of_lt_of_le (by simp) hb2'.size
  clear hs1
  have HK1 : Hid (Keeps (fun b => b = rb) w w1) := Lib.hid (Keeps.of_new (hb1''.trans (hb2'.mono hb1''.size)))
  clear hr1 hb1'' hb2'
  go_wp2_with fail
  have hr2 := HR1.out.set1 (n + 1) HLT.out
  refine bodyPost_ret (v := .agg #[.int .i64 K, .string T, .int .i64 A]) (by simp [results, Tryz.results94, go_sem, s0, s1, s2, hlt2]) rfl ⟨rfl, ?_, ?_⟩
  · refine hr2.keeps (S := fun b => b = w.heap.size) ?_ (fun b e => by rw [e]; exact H0.out.lt)
    exact ((((Keeps.refl (fun b => b = w.heap.size) _).setCell (S := fun b => b = w.heap.size) (p := ⟨w.heap.size, 0, none⟩) (Or.inl rfl) _).setCell (S := fun b => b = w.heap.size) (p := ⟨w.heap.size, 1, none⟩) (Or.inl rfl) _).setCell (S := fun b => b = w.heap.size) (p := ⟨w.heap.size, 2, none⟩) (Or.inl rfl) _).alloc _
  · exact (((((HK1.out.setCell (S := fun b => b = rb) (p := ⟨rb, 1, none⟩) (Or.inl rfl) _).setCell (S := fun b => b = rb) (p := ⟨w.heap.size, 0, none⟩) (Or.inr (Nat.le_refl _)) _).setCell (S := fun b => b = rb) (p := ⟨w.heap.size, 1, none⟩) (Or.inr (Nat.le_refl _)) _).setCell (S := fun b => b = rb) (p := ⟨w.heap.size, 2, none⟩) (Or.inr (Nat.le_refl _)) _).alloc _)
end Go.Proofs.YtgonbmcojjcabaaGreatDoor

namespace Go.Proofs.YtgonbmcojjcabaaGreatDoor
open Go.RowKit Lx Tr
variable {w w' : World} {rb n d : Nat} {tv : Value} {E : Env}

theorem pk_lt {t : B} (h : (pk E n).text = t) (ht : t ≠ []) : n < E.toks.length := by
  apply Nat.lt_of_not_le
  intro hn
  unfold pk at h
  rw [List.getElem?_eq_none hn] at h
  exact ht h.symm
theorem pk_ltk {k : Nat} (h : (pk E n).kind = k) (hk : k ≠ 0) : n < E.toks.length := by
  apply Nat.lt_of_not_le
  intro hn
  unfold pk at h
  rw [List.getElem?_eq_none hn] at h
  exact hk h.symm
theorem Threw.after {a : World} {k p : Nat} {e : Ending} (h : Threw w w' rb k p e) (hb : Below rb a w) : Threw a w' rb k p e := by
  obtain ⟨b, h1, h2, h3, h4, h5⟩ := h
  exact ⟨b, h1, h2, h3, h4, hb.trans h5⟩

set_option maxRecDepth 100000 in
set_option maxHeartbeats 3200000 in
theorem take_tok (x : ByteArray) (hx : x.data.toList ≠ []) (w : World) (h : RdAt w rb tv E n d) : Calls Tryz.prog 89 #[.pointer (some ⟨rb, 0, none⟩), .string x] w fun e w' => Says TokIs w w' rb tv E d (take E x.data.toList n) e := by
  have hb1 : Below w.heap.size w (w.alloc (.cells #[.int .i64 0, .string ⟨#[]⟩, .int .i64 0] 100)) := (Below.refl _ _).alloc (Nat.le_refl _) _
  have h1 := h.fresh hb1
  have hs0 := tokC_new w 0 0 ⟨#[]⟩ 100
  have HI := Lib.hid (is_any x _ h1)
  have H0 := Lib.hid h
  have H1 := Lib.hid h1
  have HB1 := Lib.hid hb1
  have HS0 := Lib.hid hs0
  by_cases hc : (pk E n).text = x.data.toList
  · have hn := pk_lt hc hx
    rw [decide_eq_true hc] at HI
    have hv : take E x.data.toList n = .ok (pk E n) (n + 1) := by unfold take; rw [if_pos hc]
    rw [hv]
    have HN := Lib.hid hn
    clear h h1 hb1 hs0 hv hx hc hn
    unfold Says TokIs
    simp only
    have HSK : Hid (∀ W, RdAt W rb tv E n d → Calls Tryz.prog 94 #[.pointer (some ⟨rb, 0, none⟩)] W fun e w' => e = .returned (tokV (pk E n)) ∧ RdAt w' rb tv E (n + 1) d ∧ Keeps (fun b => b = rb) W w') := Lib.hid fun W hW => skip_tok W hW HN.out
    unfold tokV at *
    generalize mkT (pk E n).text = T at *
    generalize (pk E n).kind = K at *
    generalize (pk E n).at_ = A at *
    go_enter Tryz.func89, Tryz.ntmps89
    go_wp2_with (go_at_call 58; refine HI.out.mono ?_; rintro e w1 ⟨rfl, hb2⟩)
    refine (HSK.out w1 (H1.out.fresh hb2)).mono ?_
    rintro e w2 ⟨rfl, hr2, hk2⟩
    have hne : w.heap.size ≠ rb := fun e => Nat.lt_irrefl rb (by have := H0.out.lt; omega)
    have hs2 := (HS0.out.fresh hb2).keeps hk2 hne
    have s0 := hs2.c0
    have s1 := hs2.c1
    have s2 := hs2.c2
    have x0 := hs2.z0
    have x1 := hs2.z1
    have x2 := hs2.z2
    have HR2 := Lib.hid hr2
    have HK2 : Hid (Keeps (fun b => b = rb) w w2) := Lib.hid ((Keeps.of_new (HB1.out.trans (hb2.mono HB1.out.size))).trans hk2)
    clear hs2 hr2 hk2 hb2
    go_wp2_with fail
    refine bodyPost_ret (v := .agg #[.int .i64 K, .string T, .int .i64 A]) (by simp [results, Tryz.results89, go_sem, s0, s1, s2]) rfl ⟨_, rfl, rfl, ?_, ?_⟩
    · refine HR2.out.keeps (S := fun b => b = w.heap.size) ?_ (fun b e => by rw [e]; exact H0.out.lt)
      exact ((Keeps.refl (fun b => b = w.heap.size) _).setCell (S := fun b => b = w.heap.size) (p := ⟨w.heap.size, 0, none⟩) (Or.inl rfl) _).setCell (S := fun b => b = w.heap.size) (p := ⟨w.heap.size, 1, none⟩) (Or.inl rfl) _ |>.setCell (S := fun b => b = w.heap.size) (p := ⟨w.heap.size, 2, none⟩) (Or.inl rfl) _
    · exact ((HK2.out.setCell (S := fun b => b = rb) (p := ⟨w.heap.size, 0, none⟩) (Or.inr (Nat.le_refl _)) _).setCell (S := fun b => b = rb) (p := ⟨w.heap.size, 1, none⟩) (Or.inr (Nat.le_refl _)) _).setCell (S := fun b => b = rb) (p := ⟨w.heap.size, 2, none⟩) (Or.inr (Nat.le_refl _)) _
  · rw [decide_eq_false hc] at HI
    have hv : take E x.data.toList n = .bad 3 (pk E n).at_ := by unfold take; rw [if_neg hc]; rfl
    rw [hv]
    clear h h1 hb1 hs0 hv hx hc
    unfold Says
    simp only
    go_enter Tryz.func89, Tryz.ntmps89
    go_wp2_with (go_at_call 58; refine HI.out.mono ?_; rintro e w1 ⟨rfl, hb2⟩)
    refine (fail_any 3 w1 (H1.out.fresh hb2)).mono ?_
    rintro e w2 ht
    have ht2 := ht.after ((HB1.out.trans (hb2.mono HB1.out.size)).mono (Nat.le_of_lt H0.out.lt))
    obtain ⟨b, rfl, _⟩ := ht
    exact ⟨rfl, ht2⟩

set_option maxRecDepth 100000 in
set_option maxHeartbeats 3200000 in
theorem takeKind_tok (k : Nat) (hk : k ≠ 0) (w : World) (h : RdAt w rb tv E n d) : Calls Tryz.prog 63 #[.pointer (some ⟨rb, 0, none⟩), .int .i64 k] w fun e w' => Says TokIs w w' rb tv E d (takeKind E k n) e := by
  have hb1 : Below w.heap.size w (w.alloc (.cells #[.int .i64 0, .string ⟨#[]⟩, .int .i64 0] 100)) := (Below.refl _ _).alloc (Nat.le_refl _) _
  have h1 := h.fresh hb1
  have hs0 := tokC_new w 0 0 ⟨#[]⟩ 100
  have HI := Lib.hid (peek_any _ h1)
  unfold tokV at HI
  have H0 := Lib.hid h
  have H1 := Lib.hid h1
  have HB1 := Lib.hid hb1
  have HS0 := Lib.hid hs0
  by_cases hc : (pk E n).kind = k
  · have hn := pk_ltk hc hk
    have hci : ((pk E n).kind : Int) = (k : Int) := by omega
    have hv : takeKind E k n = .ok (pk E n) (n + 1) := by unfold takeKind; rw [if_pos hc]
    rw [hv]
    have HN := Lib.hid hn
    clear h h1 hb1 hs0 hv hk hc hn
    unfold Says TokIs
    simp only
    have HSK : Hid (∀ W, RdAt W rb tv E n d → Calls Tryz.prog 94 #[.pointer (some ⟨rb, 0, none⟩)] W fun e w' => e = .returned (tokV (pk E n)) ∧ RdAt w' rb tv E (n + 1) d ∧ Keeps (fun b => b = rb) W w') := Lib.hid fun W hW => skip_tok W hW HN.out
    unfold tokV at *
    generalize mkT (pk E n).text = T at *
    generalize (pk E n).kind = K at *
    generalize (pk E n).at_ = A at *
    go_enter Tryz.func63, Tryz.ntmps63
    have hf := tok_field0
    go_wp2_with (go_at_call 88; refine HI.out.mono ?_; rintro e w1 ⟨rfl, hb2⟩)
    refine (HSK.out w1 (H1.out.fresh hb2)).mono ?_
    rintro e w2 ⟨rfl, hr2, hk2⟩
    have hne : w.heap.size ≠ rb := fun e => Nat.lt_irrefl rb (by have := H0.out.lt; omega)
    have hs2 := (HS0.out.fresh hb2).keeps hk2 hne
    have s0 := hs2.c0
    have s1 := hs2.c1
    have s2 := hs2.c2
    have x0 := hs2.z0
    have x1 := hs2.z1
    have x2 := hs2.z2
    have HR2 := Lib.hid hr2
    have HK2 : Hid (Keeps (fun b => b = rb) w w2) := Lib.hid ((Keeps.of_new (HB1.out.trans (hb2.mono HB1.out.size))).trans hk2)
    clear hs2 hr2 hk2 hb2
    go_wp2_with fail
    refine bodyPost_ret (v := .agg #[.int .i64 K, .string T, .int .i64 A]) (by simp [results, Tryz.results63, go_sem, s0, s1, s2, hci]) rfl ⟨_, rfl, rfl, ?_, ?_⟩
    · refine HR2.out.keeps (S := fun b => b = w.heap.size) ?_ (fun b e => by rw [e]; exact H0.out.lt)
      exact ((Keeps.refl (fun b => b = w.heap.size) _).setCell (S := fun b => b = w.heap.size) (p := ⟨w.heap.size, 0, none⟩) (Or.inl rfl) _).setCell (S := fun b => b = w.heap.size) (p := ⟨w.heap.size, 1, none⟩) (Or.inl rfl) _ |>.setCell (S := fun b => b = w.heap.size) (p := ⟨w.heap.size, 2, none⟩) (Or.inl rfl) _
    · exact ((HK2.out.setCell (S := fun b => b = rb) (p := ⟨w.heap.size, 0, none⟩) (Or.inr (Nat.le_refl _)) _).setCell (S := fun b => b = rb) (p := ⟨w.heap.size, 1, none⟩) (Or.inr (Nat.le_refl _)) _).setCell (S := fun b => b = rb) (p := ⟨w.heap.size, 2, none⟩) (Or.inr (Nat.le_refl _)) _
  · have hci : ¬ ((pk E n).kind : Int) = (k : Int) := by omega
    have hv : takeKind E k n = .bad 3 (pk E n).at_ := by unfold takeKind; rw [if_neg hc]; rfl
    rw [hv]
    clear h h1 hb1 hs0 hv hk hc
    unfold Says
    simp only
    generalize mkT (pk E n).text = T at *
    go_enter Tryz.func63, Tryz.ntmps63
    have hf := tok_field0
    go_wp2_with (go_at_call 88; refine HI.out.mono ?_; rintro e w1 ⟨rfl, hb2⟩)
    refine (fail_any 3 w1 (H1.out.fresh hb2)).mono ?_
    rintro e w2 ht
    have ht2 := ht.after ((HB1.out.trans (hb2.mono HB1.out.size)).mono (Nat.le_of_lt H0.out.lt))
    obtain ⟨b, rfl, _⟩ := ht
    exact ⟨rfl, ht2⟩

/-- Whether this one comes next; then it is gone over. -/
def takeIfV (E : Env) (t : B) (n : Nat) : Nat := if (pk E n).text = t then n + 1 else n
set_option maxRecDepth 100000 in
set_option maxHeartbeats 3200000 in
theorem takeIf_tok (x : ByteArray) (hx : x.data.toList ≠ []) (w : World) (h : RdAt w rb tv E n d) : Calls Tryz.prog 118 #[.pointer (some ⟨rb, 0, none⟩), .string x] w fun e w' =>
    e = .returned (.bool (decide ((pk E n).text = x.data.toList))) ∧ RdAt w' rb tv E (takeIfV E x.data.toList n) d ∧ Keeps (fun b => b = rb) w w' := by
  have HI := Lib.hid (is_any x _ h)
  have H0 := Lib.hid h
  by_cases hc : (pk E n).text = x.data.toList
  · have hn := pk_lt hc hx
    rw [decide_eq_true hc] at HI ⊢
    have hv : takeIfV E x.data.toList n = n + 1 := by unfold takeIfV; rw [if_pos hc]
    rw [hv]
    have HN := Lib.hid hn
    clear h hv hx hc hn
    have HSK : Hid (∀ W, RdAt W rb tv E n d → Calls Tryz.prog 94 #[.pointer (some ⟨rb, 0, none⟩)] W fun e w' => e = .returned (tokV (pk E n)) ∧ RdAt w' rb tv E (n + 1) d ∧ Keeps (fun b => b = rb) W w') := Lib.hid fun W hW => skip_tok W hW HN.out
    go_enter Tryz.func118, Tryz.ntmps118
    go_wp2_with (go_at_call 58; refine HI.out.mono ?_; rintro e w1 ⟨rfl, hb2⟩)
    refine (HSK.out w1 (H0.out.fresh hb2)).mono ?_
    rintro e w2 ⟨rfl, hr2, hk2⟩
    go_wp2_with fail
    go_ret
    exact ⟨rfl, hr2, (Keeps.of_new hb2).trans hk2⟩
  · rw [decide_eq_false hc] at HI ⊢
    have hv : takeIfV E x.data.toList n = n := by unfold takeIfV; rw [if_neg hc]
    rw [hv]
    clear h hv hx hc
    go_enter Tryz.func118, Tryz.ntmps118
    go_wp2_with (go_at_call 58; refine HI.out.mono ?_; rintro e w1 ⟨rfl, hb2⟩)
    go_ret
    exact ⟨rfl, H0.out.fresh hb2, Keeps.of_new hb2⟩

set_option maxRecDepth 100000 in
set_option maxHeartbeats 3200000 in
theorem hasRoom_tok (a m : Nat) (w : World) (h : RdAt w rb tv E n d) : Calls Tryz.prog 59 #[.pointer (some ⟨rb, 0, none⟩), .int .i64 a, .int .i64 m] w fun e w' =>
    if m ≤ a then Threw w w' rb 4 (pk E n).at_ e else e = .returned (.tuple #[]) ∧ w = w' := by
  have HF := Lib.hid (fail_any 4 w h)
  clear h
  by_cases hc : m ≤ a
  · have hi : (m : Int) ≤ (a : Int) := by omega
    simp only [if_pos hc]
    go_enter Tryz.func59, Tryz.ntmps59
    go_wp2_with fail
    refine HF.out.mono ?_
    rintro e w2 ht
    have ht2 := ht
    obtain ⟨b, rfl, _⟩ := ht
    exact ⟨rfl, ht2⟩
  · have hi : ¬ (m : Int) ≤ (a : Int) := by omega
    simp only [if_neg hc]
    go_enter Tryz.func59, Tryz.ntmps59
    go_wp2_with fail
    go_end0
    exact ⟨rfl, rfl⟩
end Go.Proofs.YtgonbmcojjcabaaGreatDoor

namespace Go.Proofs.YtgonbmcojjcabaaGreatDoor
open Go.RowKit Lx Tr
variable {w w' : World} {rb n d : Nat} {tv : Value} {E : Env}

set_option maxRecDepth 100000 in
set_option maxHeartbeats 1600000 in
theorem treeTwo_any (s : ByteArray) (w : World) (hS : Signs w) : Calls Tryz.prog 201 #[.string s] w fun e w' => e = .returned (.int .i64 (opV s.data.toList : Nat)) ∧ w = w' := by
  have H := Lib.hid (two_any s w hS)
  rw [← Lib.toList_data]
  unfold opV
  clear hS
  generalize writV s.toList 16 1 = R at *
  by_cases h1 : s.toList = [38, 38]
  · rw [if_pos h1]
    have b1 : (s.toList == [38, 38]) = true := beq_iff_eq.2 h1
    clear h1
    go_enter Tryz.func201, Tryz.ntmps201
    go_wp2_with fail
    go_ret
    exact ⟨rfl, rfl⟩
  · rw [if_neg h1]
    have b1 : (s.toList == [38, 38]) = false := beq_eq_false_iff_ne.2 h1
    by_cases h2 : s.toList = [124, 124]
    · rw [if_pos h2]
      have b2 : (s.toList == [124, 124]) = true := beq_iff_eq.2 h2
      clear h1 h2
      go_enter Tryz.func201, Tryz.ntmps201
      go_wp2_with fail
      all_goals
        go_ret
        exact ⟨rfl, rfl⟩
    · rw [if_neg h2]
      have b2 : (s.toList == [124, 124]) = false := beq_eq_false_iff_ne.2 h2
      clear h1 h2
      go_enter Tryz.func201, Tryz.ntmps201
      go_wp2_with (go_at_call 212; refine H.out.mono ?_; rintro e w1 ⟨rfl, rfl⟩)
      go_ret
      exact ⟨rfl, rfl⟩

set_option maxRecDepth 100000 in
set_option maxHeartbeats 3200000 in
theorem level_any (op : Nat) (w : World) : Calls Tryz.prog 104 #[.int .i64 op] w fun e w' => e = .returned (.int .i64 (levV op : Nat)) ∧ w = w' := by
  go_enter Tryz.func104, Tryz.ntmps104
  go_wp2_with fail
  all_goals
    go_ret
    refine ⟨ret_i64 ?_, rfl⟩
    simp only [beq_iff_eq, beq_eq_false_iff_ne, ne_eq] at *
    unfold levV
    (repeat' split) <;> omega

theorem beq_dec (l m : B) : (m == l) = decide (l = m) := by
  by_cases h : l = m
  · rw [decide_eq_true h, h]; exact beq_iff_eq.2 rfl
  · rw [decide_eq_false h]; exact beq_eq_false_iff_ne.2 (fun e => h e.symm)
def kindsL : List (List UInt8) := [[], [105, 110, 116], [98, 111, 111, 108], [99, 104, 97, 110]]
def KindsT (w : World) : Prop := ∀ n : Nat, n < 4 → w.cell? ⟨2, n, none⟩ = some (.string ⟨(kindsL.getD n []).toArray⟩)

set_option maxRecDepth 100000 in
set_option maxHeartbeats 3200000 in
theorem kindOf_any (s : ByteArray) (w : World) (hK : KindsT w) : Calls Tryz.prog 119 #[.string s] w fun e w' => e = .returned (.int .i64 (kindV s.data.toList : Nat)) ∧ w = w' := by
  have k1 := hK 1 (by decide)
  have k2 := hK 2 (by decide)
  have k3 := hK 3 (by decide)
  have e1 : ((⟨(kindsL.getD 1 []).toArray⟩ : ByteArray)).toList = [105, 110, 116] := by rw [Lib.toList_data]; rfl
  have e2 : ((⟨(kindsL.getD 2 []).toArray⟩ : ByteArray)).toList = [98, 111, 111, 108] := by rw [Lib.toList_data]; rfl
  have e3 : ((⟨(kindsL.getD 3 []).toArray⟩ : ByteArray)).toList = [99, 104, 97, 110] := by rw [Lib.toList_data]; rfl
  clear hK
  generalize (⟨(kindsL.getD 1 []).toArray⟩ : ByteArray) = A1 at *
  generalize (⟨(kindsL.getD 2 []).toArray⟩ : ByteArray) = A2 at *
  generalize (⟨(kindsL.getD 3 []).toArray⟩ : ByteArray) = A3 at *
  rw [← Lib.toList_data]
  have b1 : (A1.toList == s.toList) = decide (s.toList = tInt) := by rw [e1]; exact beq_dec _ _
  have b2 : (A2.toList == s.toList) = decide (s.toList = tBool) := by rw [e2]; exact beq_dec _ _
  have b3 : (A3.toList == s.toList) = decide (s.toList = tChan) := by rw [e3]; exact beq_dec _ _
  clear e1 e2 e3
  unfold kindV
  by_cases h1 : s.toList = tInt
  · rw [decide_eq_true h1] at b1
    rw [if_pos h1]
    clear h1 b2 b3
    go_enter Tryz.func119, Tryz.ntmps119
    go_wp2_with fail
    refine wp_loop_rounds 1 ?_
    rw [rounds_succ]
    go_wp2_with fail
    go_ret
    exact ⟨rfl, rfl⟩
  · rw [decide_eq_false h1] at b1
    rw [if_neg h1]
    by_cases h2 : s.toList = tBool
    · rw [decide_eq_true h2] at b2
      rw [if_pos h2]
      clear h1 h2 b3
      go_enter Tryz.func119, Tryz.ntmps119
      go_wp2_with fail
      refine wp_loop_rounds 2 ?_
      rw [rounds_succ]
      go_wp2_with fail
      rw [rounds_succ]
      go_wp2_with fail
      go_ret
      exact ⟨rfl, rfl⟩
    · rw [decide_eq_false h2] at b2
      rw [if_neg h2]
      by_cases h3 : s.toList = tChan
      · rw [decide_eq_true h3] at b3
        rw [if_pos h3]
        clear h1 h2 h3
        go_enter Tryz.func119, Tryz.ntmps119
        go_wp2_with fail
        refine wp_loop_rounds 3 ?_
        rw [rounds_succ]
        go_wp2_with fail
        rw [rounds_succ]
        go_wp2_with fail
        rw [rounds_succ]
        go_wp2_with fail
        go_ret
        exact ⟨rfl, rfl⟩
      · rw [decide_eq_false h3] at b3
        rw [if_neg h3]
        clear h1 h2 h3
        go_enter Tryz.func119, Tryz.ntmps119
        go_wp2_with fail
        refine wp_loop_rounds 4 ?_
        rw [rounds_succ]
        go_wp2_with fail
        rw [rounds_succ]
        go_wp2_with fail
        rw [rounds_succ]
        go_wp2_with fail
        rw [rounds_succ]
        go_wp2_with fail
        go_ret
        exact ⟨rfl, rfl⟩

set_option maxRecDepth 100000 in
set_option maxHeartbeats 3200000 in
theorem kind_tok (w : World) (h : RdAt w rb tv E n d) (hK : KindsT w) (hg : 2 < w.heap.size) : Calls Tryz.prog 92 #[.pointer (some ⟨rb, 0, none⟩)] w fun e w' =>
    e = .returned (.int .i64 (kindV (pk E n).text : Nat)) ∧ RdAt w' rb tv E (if kindV (pk E n).text = 0 then n else n + 1) d ∧ Keeps (fun b => b = rb) w w' := by
  have HP := Lib.hid (peek_any w h)
  have H0 := Lib.hid h
  have HKO : Hid (∀ W, Below w.heap.size w W → Calls Tryz.prog 119 #[.string (mkT (pk E n).text)] W fun e w' => e = .returned (.int .i64 (kindV (pk E n).text : Nat)) ∧ W = w') := Lib.hid fun W hb => kindOf_any (mkT (pk E n).text) W fun k hk => by
    rw [hb.cell (p := ⟨2, k, none⟩) hg]; exact hK k hk
  have hlt : kindV (pk E n).text ≠ 0 → n < E.toks.length := fun hc => pk_lt rfl (fun e => hc (by rw [e]; rfl))
  have HSK : Hid (kindV (pk E n).text ≠ 0 → ∀ W, RdAt W rb tv E n d → Calls Tryz.prog 94 #[.pointer (some ⟨rb, 0, none⟩)] W fun e w' => e = .returned (tokV (pk E n)) ∧ RdAt w' rb tv E (n + 1) d ∧ Keeps (fun b => b = rb) W w') := Lib.hid fun hc W hW => skip_tok W hW (hlt hc)
  unfold tokV at HP
  clear h hK hg hlt
  have hf := tok_field1
  generalize mkT (pk E n).text = T at *
  generalize kindV (pk E n).text = kd at *
  by_cases hc : kd = 0
  · subst hc
    go_enter Tryz.func92, Tryz.ntmps92
    go_wp2_with (first | (go_at_call 88; refine HP.out.mono ?_; rintro e w1 ⟨rfl, hb1⟩) | (go_at_call 119; refine (HKO.out _ hb1).mono ?_; rintro e w2 ⟨rfl, rfl⟩))
    go_ret
    exact ⟨rfl, H0.out.fresh hb1, Keeps.of_new hb1⟩
  · have hci : ¬ (kd : Int) = 0 := by omega
    have HC := Lib.hid hc
    rw [if_neg hc]
    clear hc
    go_enter Tryz.func92, Tryz.ntmps92
    go_wp2_with (first | (go_at_call 88; refine HP.out.mono ?_; rintro e w1 ⟨rfl, hb1⟩) | (go_at_call 119; refine (HKO.out _ hb1).mono ?_; rintro e w2 ⟨rfl, rfl⟩))
    refine (HSK.out HC.out w1 (H0.out.fresh hb1)).mono ?_
    rintro e w2 ⟨rfl, hr2, hk2⟩
    go_wp2_with fail
    go_ret
    exact ⟨rfl, hr2, (Keeps.of_new hb1).trans hk2⟩
end Go.Proofs.YtgonbmcojjcabaaGreatDoor

namespace Go.Proofs.YtgonbmcojjcabaaGreatDoor
open Go.RowKit Lx Tr
variable {w w' : World} {rb n d dd : Nat} {tv : Value} {E : Env}

/-- The tables that the reader looks at, and what its tokens are. -/
structure TEnv (rb : Nat) (E : Env) (w : World) : Prop where
  signs : Signs w
  kinds : KindsT w
  b1 : 0 < rb
  b2 : 2 < rb
  nums : ∀ t ∈ E.toks, t.kind = 3 → Lib.atoiAll t.text = .ok (numV t.text : Nat) ∧ t.text.length ≤ 4000
theorem TEnv.keeps {S : Nat → Prop} (h : TEnv rb E w) (hk : Keeps S w w') (hs : ∀ b, S b → rb ≤ b) : TEnv rb E w' := by
  have h1 := h.b1
  have h2 := h.b2
  exact ⟨fun k hk' => hk.cell_of (h.signs k hk') (fun e => Nat.lt_irrefl _ (Nat.lt_of_lt_of_le h1 (hs _ e))), fun k hk' => hk.cell_of (h.kinds k hk') (fun e => Nat.lt_irrefl _ (Nat.lt_of_lt_of_le h2 (hs _ e))), h1, h2, h.nums⟩
theorem TEnv.fresh (h : TEnv rb E w) (hb : Below w.heap.size w w') : TEnv rb E w' := h.keeps (S := fun _ => False) (Keeps.of_new hb) (fun _ e => e.elim)
theorem TEnv.own (h : TEnv rb E w) (hk : Keeps (fun b => b = rb) w w') : TEnv rb E w' := h.keeps hk (fun _ e => Nat.le_of_eq e.symm)

/-- An expression that was made by the call. -/
def ExV (w w' : World) (x : Ex) (v : Value) : Prop := ExIn w' (fun b => w.heap.size ≤ b) v x

theorem leaf_new (w : World) (code at_ m : Nat) (name : B) (t : TypeId) {F : Nat → Prop} (hF : F w.heap.size) :
    ExIn (w.alloc (.cells #[.int .i64 code, .int .i64 at_, .int .i64 m, .string (mkT name), .int .i64 0, .pointer none, .pointer none, .slice none 0 0] t)) F (.pointer (some ⟨w.heap.size, 0, none⟩)) (leaf code at_ m name) := by
  have hc : ∀ (j : Nat) (v : Value), (#[Value.int .i64 code, .int .i64 at_, .int .i64 m, .string (mkT name), .int .i64 0, .pointer none, .pointer none, .slice none 0 0] : Array Value)[j]? = some v →
      (w.alloc (.cells #[.int .i64 code, .int .i64 at_, .int .i64 m, .string (mkT name), .int .i64 0, .pointer none, .pointer none, .slice none 0 0] t)).cell? ⟨w.heap.size, j, none⟩ = some v := fun j v h => by
    rw [World.cell?_alloc_at _ _ _ _ rfl]; exact h
  refine ⟨w.heap.size, .pointer none, .pointer none, .slice none 0 0, rfl, hF, hc 0 _ rfl, hc 1 _ rfl, hc 2 _ rfl, hc 3 _ rfl, hc 4 _ rfl, hc 5 _ rfl, hc 6 _ rfl, hc 7 _ rfl, rfl, rfl, Or.inl ⟨rfl, rfl⟩, fun g m cap e => by cases e⟩

set_option maxRecDepth 100000 in
set_option maxHeartbeats 3200000 in
theorem number_any (w : World) (h : RdAt w rb tv E n d) (hE : TEnv rb E w) (hk : (pk E n).kind = 3) : Calls Tryz.prog 204 #[.pointer (some ⟨rb, 0, none⟩)] w fun e w' =>
    Says ExV w w' rb tv E d (.ok (leaf 1 (pk E n).at_ (numV (pk E n).text) []) (n + 1)) e := by
  have hn := pk_ltk hk (by decide)
  have hmem : pk E n ∈ E.toks := by
    unfold pk
    rw [List.getElem?_eq_getElem hn]
    exact List.getElem_mem hn
  obtain ⟨hat, hlen⟩ := hE.nums _ hmem hk
  have HTK := Lib.hid (takeKind_tok 3 (by decide) w h)
  have hv : takeKind E 3 n = .ok (pk E n) (n + 1) := by unfold takeKind; rw [if_pos hk]
  rw [hv] at HTK
  have H0 := Lib.hid h
  have HAT : Hid (∀ W, Calls Tryz.prog 213 #[.string (mkT (pk E n).text)] W fun e w' => e = .returned (.tuple #[.int .i64 (numV (pk E n).text : Nat), .nilIface]) ∧ Below W.heap.size W w') := Lib.hid fun W => by
    refine (Tryz.strconv_Atoi_ok (mkT (pk E n).text) (by rw [mkT_size]; omega) _ hat W).mono ?_
    rintro e w' ⟨rfl, hw⟩
    refine ⟨rfl, ?_⟩
    rcases hw with rfl | ⟨t, rfl⟩
    · exact Below.refl _ _
    · exact Lib.bytesWorld_below _ _ _
  clear h hE hk hn hmem hat hlen hv
  unfold Says TokIs tokV at HTK
  simp only at HTK
  unfold Says
  simp only
  generalize numV (pk E n).text = N at *
  generalize mkT (pk E n).text = T at *
  generalize (pk E n).at_ = A at *
  generalize (pk E n).kind = K at *
  go_enter Tryz.func204, Tryz.ntmps204
  go_wp2_with fail
  refine HTK.out.mono ?_
  rintro e w1 ⟨v, rfl, rfl, hr1, hk1⟩
  have HR1 := Lib.hid hr1
  have HK1 := Lib.hid hk1
  clear hr1 hk1
  go_wp2_with (go_at_call 213; refine (HAT.out _).mono ?_; rintro e w2 ⟨rfl, hb2⟩; have p2 := ((tokC_new w1 K A T 100).fresh hb2).c2)
  have HB2 := Lib.hid hb2
  clear hb2
  go_ret
  have hb12 : Below w1.heap.size w1 w2 := ((Below.refl _ _).alloc (Nat.le_refl _) _).trans (HB2.out.mono (by simp))
  exact ⟨_, rfl, leaf_new w2 1 A N [] _ (Nat.le_trans HK1.out.size hb12.size), (HR1.out.fresh hb12).fresh ((Below.refl _ _).alloc (Nat.le_refl _) _), (HK1.out.trans (Keeps.of_new hb12)).alloc _⟩

/-- What is asked of the reader's expr where it lies one deeper. -/
def ExprC (rb : Nat) (tv : Value) (E : Env) (dep d : Nat) : Prop :=
  ∀ (n : Nat) (w : World), RdAt w rb tv E n dep → TEnv rb E w → Calls Tryz.prog 174 #[.pointer (some ⟨rb, 0, none⟩), .int .i64 (d : Nat)] w fun e w' => ∃ r, Ev (fun f => expr E f d n) r ∧ Says ExV w w' rb tv E dep r e
def OneC (rb : Nat) (tv : Value) (E : Env) (dep d : Nat) : Prop :=
  ∀ (n : Nat) (w : World), RdAt w rb tv E n dep → TEnv rb E w → Calls Tryz.prog 195 #[.pointer (some ⟨rb, 0, none⟩), .int .i64 (d : Nat)] w fun e w' => ∃ r, Ev (fun f => one E f d n) r ∧ Says ExV w w' rb tv E dep r e
def TiedC (rb : Nat) (tv : Value) (E : Env) (dep least d : Nat) : Prop :=
  ∀ (n : Nat) (w : World), RdAt w rb tv E n dep → TEnv rb E w → Calls Tryz.prog 190 #[.pointer (some ⟨rb, 0, none⟩), .int .i64 (least : Nat), .int .i64 (d : Nat)] w fun e w' => ∃ r, Ev (fun f => tied E f least d n) r ∧ Says ExV w w' rb tv E dep r e

/-- What is behind what was read stays, if no more is done than to read on. -/
theorem ExV.on {w1 w2 : World} {x : Ex} {v : Value} (h : ExV w w1 x v) (hlt : rb < w.heap.size) (hk : Keeps (fun b => b = rb) w1 w2) : ExV w w2 x v :=
  ExIn.keeps h hk (fun b hb e => by omega)
theorem ExV.of {w1 w2 : World} {x : Ex} {v : Value} (h : ExV w1 w2 x v) (hs : w.heap.size ≤ w1.heap.size) : ExV w w2 x v := ExIn.mono (fun _ _ hb => Nat.le_trans hs hb) _ _ h
theorem Threw.own {a : World} {k p : Nat} {e : Ending} (h : Threw w w' rb k p e) (hlt : rb < a.heap.size) (hk : Keeps (fun b => b = rb) a w) : Threw a w' rb k p e :=
  h.after (hk.below (Nat.le_of_lt hlt) (fun _ _ e => Nat.le_of_eq e.symm))
theorem threw_panic {k p : Nat} {e : Ending} (h : Threw w w' rb k p e) : ∃ b, e = .panicked [{ v := .iface 107 (.pointer (some ⟨b, 0, none⟩)), recovered := false }] := by
  obtain ⟨b, h1, _⟩ := h; exact ⟨b, h1⟩

set_option maxRecDepth 100000 in
set_option maxHeartbeats 6400000 in
theorem bracketed_any (hX : ExprC rb tv E d (dd + 1)) (hdd : dd ≤ 20) (w : World) (h : RdAt w rb tv E n d) (hE : TEnv rb E w) : Calls Tryz.prog 173 #[.pointer (some ⟨rb, 0, none⟩), .int .i64 (dd : Nat)] w fun e w' =>
    ∃ r, Ev (fun f => bracketed E f dd n) r ∧ Says ExV w w' rb tv E d r e := by
  have HX := Lib.hid hX
  have H0 := Lib.hid h
  have HE := Lib.hid hE
  have HTK := Lib.hid (take_tok ⟨#[40]⟩ (by decide) w h)
  have hlt := Lib.hid h.lt
  have e40 : (⟨#[40]⟩ : ByteArray).data.toList = tLp := rfl
  have e41 : (⟨#[41]⟩ : ByteArray).data.toList = tRp := rfl
  rw [e40] at HTK
  have hw : IntKind.i64.wrap ((dd : Int) + 1) = (dd : Int) + 1 := IntWalk.i64_in _ (by omega)
  clear hX h hE
  cases ht : take E tLp n with
  | out => exact absurd ht (take_ne E _ _)
  | bad k a =>
    rw [ht] at HTK
    have HEV : Hid (Ev (fun f => bracketed E f dd n) (.bad k a)) := Lib.hid (Ev.now (fun e => by cases e) fun f => by rw [bracketed_eq, ht]; rfl)
    clear ht
    go_enter Tryz.func173, Tryz.ntmps173
    go_wp2_with fail
    refine HTK.out.mono ?_
    rintro e w1 hth
    obtain ⟨b, rfl⟩ := threw_panic hth
    exact ⟨rfl, _, HEV.out, hth⟩
  | ok t n1 =>
    rw [ht] at HTK
    have HT := Lib.hid ht
    clear ht
    go_enter Tryz.func173, Tryz.ntmps173
    go_wp2_with fail
    refine HTK.out.mono ?_
    rintro e w1 ⟨v, rfl, _, hr1, hk1⟩
    have HR1 := Lib.hid hr1
    have HK1 := Lib.hid hk1
    clear hr1 hk1
    go_wp2_with fail
    refine (HX.out n1 w1 HR1.out (HE.out.own HK1.out)).mono ?_
    rintro e w2 ⟨r, hev, hsay⟩
    cases r with
    | out => exact hsay.elim
    | bad k a =>
      have hsay' : Threw w1 w2 rb k a e := hsay
      obtain ⟨b, rfl⟩ := threw_panic hsay'
      refine ⟨rfl, .bad k a, ?_, hsay'.own hlt.out HK1.out⟩
      exact Ev.step (h := fun f => (tied E f 1 (dd + 1) n1).bind fun x n2 => (take E tRp n2).bind fun _ n3 => .ok x n3) (fun f => by rw [bracketed_eq, HT.out]; rfl) (Ev.bad hev)
    | ok x n2 =>
      obtain ⟨v2, rfl, hx, hr2, hk2⟩ := hsay
      have HEV := Lib.hid hev
      have HXV := Lib.hid hx
      have HR2 := Lib.hid hr2
      have HK2 := Lib.hid hk2
      clear hev hx hr2 hk2
      have HTK2 := Lib.hid (take_tok ⟨#[41]⟩ (by decide) w2 HR2.out)
      rw [e41] at HTK2
      go_wp2_with fail
      cases ht2 : take E tRp n2 with
      | out => exact absurd ht2 (take_ne E _ _)
      | bad k a =>
        rw [ht2] at HTK2
        refine HTK2.out.mono ?_
        rintro e w3 hth
        obtain ⟨b, rfl⟩ := threw_panic hth
        refine ⟨rfl, .bad k a, ?_, Threw.own hth hlt.out (HK1.out.trans HK2.out)⟩
        refine Ev.step (h := fun f => (tied E f 1 (dd + 1) n1).bind fun x n2 => (take E tRp n2).bind fun _ n3 => .ok x n3) (fun f => by rw [bracketed_eq, HT.out]; rfl) (Ev.then HEV.out (Ev.pure (fun e => by cases e) fun f => ?_))
        show (take E tRp n2).bind _ = _
        rw [ht2]; rfl
      | ok t2 n3 =>
        rw [ht2] at HTK2
        have HT2 := Lib.hid ht2
        clear ht2
        refine HTK2.out.mono ?_
        rintro e w3 ⟨v3, rfl, _, hr3, hk3⟩
        have HR3 := Lib.hid hr3
        have HK3 := Lib.hid hk3
        clear hr3 hk3
        go_wp2_with fail
        go_ret
        refine ⟨.ok x n3, ?_, _, rfl, (HXV.out.of HK1.out.size).on hlt.out HK3.out, HR3.out, (HK1.out.trans HK2.out).trans HK3.out⟩
        refine Ev.step (h := fun f => (tied E f 1 (dd + 1) n1).bind fun x n2 => (take E tRp n2).bind fun _ n3 => .ok x n3) (fun f => by rw [bracketed_eq, HT.out]; rfl) (Ev.then HEV.out (Ev.pure (fun e => by cases e) fun f => ?_))
        show (take E tRp n2).bind _ = _
        rw [HT2.out]; rfl
end Go.Proofs.YtgonbmcojjcabaaGreatDoor

namespace Go.Proofs.YtgonbmcojjcabaaGreatDoor
open Go.RowKit Lx Tr
variable {w w' : World} {rb n d dd : Nat} {tv : Value} {E : Env}

/-- Which token comes next. -/
def posOf (w : World) (rb : Nat) : Nat := (intOf ((w.cell? ⟨rb, 1, none⟩).getD (.int .i64 0))).toNat
theorem RdAt.pos (h : RdAt w rb tv E n d) : posOf w rb = n := by simp [posOf, h.c1, intOf]
theorem opV_nil : opV [] = 0 := by decide
theorem levV_zero : levV 0 = 0 := by decide

theorem ex_ptr {F : Nat → Prop} {v : Value} {x : Ex} (h : ExIn w F v x) : ∃ o, v = .pointer o := by
  cases x with
  | nil => exact ⟨_, h⟩
  | mk => obtain ⟨b, _, _, _, e, _⟩ := h; exact ⟨_, e⟩
/-- What the loop over ops of a level keeps. -/
structure TL (w wr : World) (rb : Nat) (tv : Value) (E : Env) (dep least d n : Nat) (v : Value) (x : Ex) (m : Nat) : Prop where
  rd : RdAt wr rb tv E m dep
  ex : ExV w wr x v
  kp : Keeps (fun b => b = rb) w wr
  env : TEnv rb E wr
  ev : ∀ r, Ev (fun f => tloop E f least d x m) r → Ev (fun f => tied E f least d n) r

set_option maxRecDepth 100000 in
set_option maxHeartbeats 6400000 in
theorem tied_any {least dep : Nat} (hl : least ≤ 6) (h1 : 1 ≤ least) (hO : least = 6 → OneC rb tv E dep dd) (hT : least ≠ 6 → TiedC rb tv E dep (least + 1) dd) : TiedC rb tv E dep least dd := by
  intro n w h hE
  have H0 := Lib.hid h
  have HE := Lib.hid hE
  have hlt := Lib.hid h.lt
  clear h hE
  by_cases h6 : least = 6
  · subst h6
    have HO := Lib.hid (hO rfl n w H0.out HE.out)
    clear hO hT
    go_enter Tryz.func190, Tryz.ntmps190
    go_wp2_with fail
    refine HO.out.mono ?_
    rintro e w1 ⟨r, hev, hsay⟩
    have HEV : Hid (Ev (fun f => tied E f 6 dd n) r) := Lib.hid (Ev.step (fun f => by rw [tied_eq, if_pos rfl]) hev)
    cases r with
    | out => exact hsay.elim
    | bad k a =>
      have hsay' : Threw w w1 rb k a e := hsay
      obtain ⟨b, rfl⟩ := threw_panic hsay'
      exact ⟨rfl, _, HEV.out, hsay'⟩
    | ok x m =>
      obtain ⟨v, rfl, hx, hr, hk⟩ := hsay
      go_wp2_with fail
      go_ret
      exact ⟨_, HEV.out, v, rfl, hx, hr, hk⟩
  · have HT := Lib.hid (hT h6)
    have h6i : ¬ (least : Int) = 6 := by omega
    have hw : IntKind.i64.wrap ((least : Int) + 1) = (least : Int) + 1 := IntWalk.i64_in _ (by omega)
    have HC := Lib.hid (HT.out n w H0.out HE.out)
    rw [Int.natCast_add] at HC
    clear hO hT
    go_enter Tryz.func190, Tryz.ntmps190
    go_wp2_with fail
    refine HC.out.mono ?_
    rintro e w1 ⟨r, hev, hsay⟩
    cases r with
    | out => exact hsay.elim
    | bad k a =>
      have hsay' : Threw w w1 rb k a e := hsay
      obtain ⟨b, rfl⟩ := threw_panic hsay'
      exact ⟨rfl, .bad k a, Ev.step (h := fun f => (tied E f (least + 1) dd n).bind fun x m => tloop E f least dd x m) (fun f => by rw [tied_eq, if_neg h6]) (Ev.bad hev), hsay'⟩
    | ok x m =>
      obtain ⟨v, rfl, hx, hr, hk⟩ := hsay
      have HI : Hid (TL w w1 rb tv E dep least dd n v x m) := Lib.hid ⟨hr, hx, hk, HE.out.own hk, fun r h => Ev.step (h := fun f => (tied E f (least + 1) dd n).bind fun x m => tloop E f least dd x m) (fun f => by rw [tied_eq, if_neg h6]) (Ev.then hev h)⟩
      have H6 := Lib.hid h6
      clear hr hx hk hev HC h6
      go_wp2_with fail
      go_loopw [7] (fun v wr => ∃ x m, TL w wr rb tv E dep least dd n v x m) (fun _ wr => E.toks.length - posOf wr rb)
      case atStart => exact ⟨x, m, HI.out⟩
      case round =>
        obtain ⟨x, m, htl⟩ := hrel
        obtain ⟨o1, rfl⟩ := ex_ptr htl.ex
        have HL := Lib.hid htl
        have HP := Lib.hid (peek_any wr htl.rd)
        have HTW : Hid (∀ W, Below wr.heap.size wr W → Calls Tryz.prog 201 #[.string (mkT (pk E m).text)] W fun e w' => e = .returned (.int .i64 (opV (pk E m).text : Nat)) ∧ W = w') := Lib.hid fun W hb => treeTwo_any (mkT (pk E m).text) W (HL.out.env.fresh hb).signs
        have HLV : Hid (∀ W, Calls Tryz.prog 104 #[.int .i64 (opV (pk E m).text : Nat)] W fun e w' => e = .returned (.int .i64 (levV (opV (pk E m).text) : Nat)) ∧ W = w') := Lib.hid fun W => level_any _ W
        have HTW2 : Hid (∀ W, TEnv rb E W → Calls Tryz.prog 201 #[.string (mkT (pk E m).text)] W fun e w' => e = .returned (.int .i64 (opV (pk E m).text : Nat)) ∧ W = w') := Lib.hid fun W hW => treeTwo_any (mkT (pk E m).text) W hW.signs
        unfold tokV at HP
        clear htl
        have hf := tok_field1
        by_cases hc : levV (opV (pk E m).text) = least
        · have hci : (levV (opV (pk E m).text) : Int) = (least : Int) := by omega
          have hne : (pk E m).text ≠ [] := fun e => by rw [e, opV_nil, levV_zero] at hc; omega
          have hmlt := pk_lt rfl hne
          have HM := Lib.hid hmlt
          have HCC := Lib.hid hc
          have HSK : Hid (∀ W, RdAt W rb tv E m dep → Calls Tryz.prog 94 #[.pointer (some ⟨rb, 0, none⟩)] W fun e w' => e = .returned (tokV (pk E m)) ∧ RdAt w' rb tv E (m + 1) dep ∧ Keeps (fun b => b = rb) W w') := Lib.hid fun W hW => skip_tok W hW hmlt
          have HNX : Hid (∀ W, RdAt W rb tv E (m + 1) dep → TEnv rb E W → Calls Tryz.prog 190 #[.pointer (some ⟨rb, 0, none⟩), .int .i64 ((least : Int) + 1), .int .i64 (dd : Nat)] W fun e w' => ∃ r, Ev (fun f => tied E f (least + 1) dd (m + 1)) r ∧ Says ExV W w' rb tv E dep r e) := Lib.hid fun W h1 h2 => HT.out (m + 1) W h1 h2
          have HLO : Hid (∀ r, Ev (fun f => (tied E f (least + 1) dd (m + 1)).bind fun y m' => tloop E f least dd (.mk 5 (pk E m).at_ 0 (opV (pk E m).text) [] x y .nil) m') r → Ev (fun f => tied E f least dd n) r) := Lib.hid fun r h => HL.out.ev r (Ev.step (fun f => by rw [tloop_eq, if_pos hc]) h)
          unfold tokV at HSK
          clear hc hne hmlt
          generalize levV (opV (pk E m).text) = lv at *
          generalize opV (pk E m).text = ov at *
          generalize mkT (pk E m).text = T at *
          generalize (pk E m).at_ = A at *
          generalize (pk E m).kind = K at *
          go_wp2_with (first | (go_at_call 88; refine HP.out.mono ?_; rintro e w2 ⟨rfl, hb2⟩) | (go_at_call 201; refine (HTW.out _ hb2).mono ?_; rintro e w3 ⟨rfl, rfl⟩) | (go_at_call 104; refine (HLV.out _).mono ?_; rintro e w4 ⟨rfl, rfl⟩))
          refine (HSK.out _ (HL.out.rd.fresh hb2)).mono ?_
          rintro e w5 ⟨rfl, hr5, hk5⟩
          have HR5 := Lib.hid hr5
          have HK5 : Hid (Keeps (fun b => b = rb) wr w5) := Lib.hid ((Keeps.of_new hb2).trans hk5)
          clear hr5 hk5 hb2
          go_wp2_with fail
          have hb6 : Below w5.heap.size w5 (w5.alloc (.cells #[.int .i64 K, .string T, .int .i64 A] 100)) := (Below.refl _ _).alloc (Nat.le_refl _) _
          have HTC := Lib.hid (tokC_new w5 K A T 100)
          have HR6 := Lib.hid (HR5.out.fresh hb6)
          have HK6 : Hid (Keeps (fun b => b = rb) wr (w5.alloc (.cells #[.int .i64 K, .string T, .int .i64 A] 100))) := Lib.hid (HK5.out.trans (Keeps.of_new hb6))
          have hgt : w5.heap.size < (w5.alloc (.cells #[.int .i64 K, .string T, .int .i64 A] 100)).heap.size := by simp
          have HGT := Lib.hid hgt
          clear hb6 hgt
          generalize w5.alloc (.cells #[.int .i64 K, .string T, .int .i64 A] 100) = w6 at *
          have hne5 : w5.heap.size ≠ rb := fun e => by have h1 := HK5.out.size; have h2 := HL.out.rd.lt; omega
          have HNE := Lib.hid hne5
          generalize w5.heap.size = pb at *
          refine (HNX.out w6 HR6.out (HL.out.env.own HK6.out)).mono ?_
          rintro e w7 ⟨r, hev, hsay⟩
          cases r with
          | out => exact hsay.elim
          | bad k a =>
            have hsay' : Threw w6 w7 rb k a e := hsay
            obtain ⟨b, rfl⟩ := threw_panic hsay'
            exact ⟨rfl, .bad k a, HLO.out _ (Ev.bad hev), hsay'.own hlt.out (HL.out.kp.trans HK6.out)⟩
          | ok y m' =>
            obtain ⟨v7, rfl, hy, hr7, hk7⟩ := hsay
            obtain ⟨o2, rfl⟩ := ex_ptr hy
            have HEV := Lib.hid hev
            have HY := Lib.hid hy
            have HR7 := Lib.hid hr7
            have HK7 := Lib.hid hk7
            have ht7 := HTC.out.keeps hk7 hne5
            have t1 := ht7.c1
            have t2 := ht7.c2
            clear hev hy hr7 hk7 ht7 hne5
            have HT2 : Calls Tryz.prog 201 #[.string T] w7.drew fun e w' => e = .returned (.int .i64 (ov : Nat)) ∧ w' = w7.drew := (HTW2.out w7.drew (((HL.out.env.own HK6.out).own HK7.out).fresh ((Below.refl _ _).drew))).mono fun _ _ h => ⟨h.1, h.2.symm⟩
            have HT3 := Lib.hid HT2
            clear HT2
            go_wp2_with fail
            refine wp_region_still_tail 7 (by kernel_rfl) (by kernel_rfl) ?_
            simp only [List.take_succ_cons, List.take_zero, List.drop_succ_cons, List.drop_zero]
            repeat still_step
            still_call HT3.out
            repeat still_step
            refine wpStill_nil ?_
            change wpList _ _ _ _ _ w7.drew
            go_wp2_with fail
            have hon := ev_tied_on HEV.out
            have hb8 : Below w7.heap.size w7 (w7.alloc (.cells #[.int .i64 5, .int .i64 A, .int .i64 0, .string ⟨#[]⟩, .int .i64 ov, .pointer o1, .pointer o2, .slice none 0 0] 89)).drew := ((Below.refl _ _).alloc (Nat.le_refl _) _).drew
            have hr8 := HR7.out.fresh hb8
            have hk8 : Keeps (fun b => b = rb) wr w7 := HK6.out.trans HK7.out
            have hs8 : w.heap.size ≤ w7.heap.size := Nat.le_trans HL.out.kp.size hk8.size
            refine ⟨⟨.mk 5 A 0 ov [] x y .nil, m', hr8, ?_, (HL.out.kp.trans hk8).trans (Keeps.of_new hb8), ((HL.out.env.own hk8).fresh hb8), fun r h => HLO.out r (Ev.then HEV.out h)⟩, ?_⟩
            · have hc : ∀ (j : Nat) (v : Value), (#[Value.int .i64 5, .int .i64 A, .int .i64 0, .string ⟨#[]⟩, .int .i64 ov, .pointer o1, .pointer o2, .slice none 0 0] : Array Value)[j]? = some v →
                  (w7.alloc (.cells #[.int .i64 5, .int .i64 A, .int .i64 0, .string ⟨#[]⟩, .int .i64 ov, .pointer o1, .pointer o2, .slice none 0 0] 89)).drew.cell? ⟨w7.heap.size, j, none⟩ = some v := fun j v h => by
                show (w7.alloc _).cell? _ = _
                rw [World.cell?_alloc_at _ _ _ _ rfl]; exact h
              refine ⟨w7.heap.size, .pointer o1, .pointer o2, .slice none 0 0, rfl, hs8, hc 0 _ rfl, hc 1 _ rfl, hc 2 _ rfl, hc 3 _ rfl, hc 4 _ rfl, hc 5 _ rfl, hc 6 _ rfl, hc 7 _ rfl, ?_, ?_, Or.inl ⟨rfl, rfl⟩, fun g m cap e => by cases e⟩
              · exact (HL.out.ex.on hlt.out hk8).on hlt.out (Keeps.of_new hb8)
              · exact (HY.out.of (Nat.le_trans HL.out.kp.size HK6.out.size)).on hlt.out (Keeps.of_new hb8)
            · rw [hr8.pos, HL.out.rd.pos]
              have := HM.out
              omega
        · have hci : ¬ (levV (opV (pk E m).text) : Int) = (least : Int) := by omega
          have HEV : Hid (Ev (fun f => tied E f least dd n) (.ok x m)) := Lib.hid (HL.out.ev _ (Ev.now (fun e => by cases e) fun f => by rw [tloop_eq, if_neg hc]))
          clear hc
          generalize levV (opV (pk E m).text) = lv at *
          generalize opV (pk E m).text = ov at *
          generalize mkT (pk E m).text = T at *
          go_wp2_with (first | (go_at_call 88; refine HP.out.mono ?_; rintro e w2 ⟨rfl, hb2⟩) | (go_at_call 201; refine (HTW.out _ hb2).mono ?_; rintro e w3 ⟨rfl, rfl⟩) | (go_at_call 104; refine (HLV.out _).mono ?_; rintro e w4 ⟨rfl, rfl⟩))
          go_ret
          exact ⟨_, HEV.out, _, rfl, HL.out.ex.on hlt.out (Keeps.of_new hb2), HL.out.rd.fresh hb2, HL.out.kp.trans (Keeps.of_new hb2)⟩
end Go.Proofs.YtgonbmcojjcabaaGreatDoor

namespace Go.Proofs.YtgonbmcojjcabaaGreatDoor
open Go.RowKit Lx Tr
variable {w w' : World} {rb n d dd : Nat} {tv : Value} {E : Env}

set_option maxRecDepth 100000 in
set_option maxHeartbeats 3200000 in
theorem expr_any {dep : Nat} (hT : TiedC rb tv E dep 1 dd) : ExprC rb tv E dep dd := by
  intro n w h hE
  have HT := Lib.hid (hT n w h hE)
  clear hT h hE
  go_enter Tryz.func174, Tryz.ntmps174
  go_wp2_with fail
  refine HT.out.mono ?_
  rintro e w1 ⟨r, hev, hsay⟩
  cases r with
  | out => exact hsay.elim
  | bad k a =>
    have hsay' : Threw w w1 rb k a e := hsay
    obtain ⟨b, rfl⟩ := threw_panic hsay'
    exact ⟨rfl, .bad k a, hev, hsay'⟩
  | ok x m =>
    obtain ⟨v, rfl, hx, hr, hk⟩ := hsay
    go_wp2_with fail
    go_ret
    exact ⟨.ok x m, hev, v, rfl, hx, hr, hk⟩

/-- What is asked of the reader's call, of a name. -/
def CallC (rb : Nat) (tv : Value) (E : Env) (dep d : Nat) : Prop :=
  ∀ (t : Tok) (n : Nat) (w : World), RdAt w rb tv E n dep → TEnv rb E w → Calls Tryz.prog 175 #[.pointer (some ⟨rb, 0, none⟩), tokV t, .int .i64 (d : Nat)] w fun e w' => ∃ r, Ev (fun f => call E f d t n) r ∧ Says ExV w w' rb tv E dep r e

set_option maxRecDepth 100000 in
set_option maxHeartbeats 3200000 in
theorem named_any {dep : Nat} (hC : CallC rb tv E dep dd) (w : World) (h : RdAt w rb tv E n dep) (hE : TEnv rb E w) (hk : (pk E n).kind = 1) : Calls Tryz.prog 205 #[.pointer (some ⟨rb, 0, none⟩), .int .i64 (dd : Nat)] w fun e w' =>
    ∃ r, Ev (fun f => named E f dd n) r ∧ Says ExV w w' rb tv E dep r e := by
  have HTK := Lib.hid (takeKind_tok 1 (by decide) w h)
  have hv : takeKind E 1 n = .ok (pk E n) (n + 1) := by unfold takeKind; rw [if_pos hk]
  rw [hv] at HTK
  have H0 := Lib.hid h
  have HE := Lib.hid hE
  have HC := Lib.hid hC
  have HLT := Lib.hid h.lt
  have e40 : (⟨#[40]⟩ : ByteArray).data.toList = tLp := rfl
  clear h hE hk hv hC
  unfold Says TokIs tokV at HTK
  simp only at HTK
  obtain ⟨tk, htk⟩ : ∃ tk, tk = pk E n := ⟨_, rfl⟩
  rw [← htk] at HTK
  have HTKE := Lib.hid htk
  clear htk
  have hTK := HTK.out
  obtain ⟨T, hT⟩ : ∃ T, T = mkT tk.text := ⟨_, rfl⟩
  have HTX := Lib.hid hT
  rw [← hT] at hTK
  have HTK2 := Lib.hid hTK
  clear hT hTK HTK
  go_enter Tryz.func205, Tryz.ntmps205
  go_wp2_with fail
  refine HTK2.out.mono ?_
  rintro e w1 ⟨v, rfl, rfl, hr1, hk1⟩
  have HR1 := Lib.hid hr1
  have HK1 := Lib.hid hk1
  clear hr1 hk1
  have hb2 : Below w1.heap.size w1 (w1.alloc (.cells #[.int .i64 tk.kind, .string T, .int .i64 tk.at_] 100)) := (Below.refl _ _).alloc (Nat.le_refl _) _
  have HIS := is_any ⟨#[40]⟩ _ (HR1.out.fresh hb2)
  rw [e40] at HIS
  have HI := Lib.hid HIS
  have HB2 := Lib.hid hb2
  clear HIS hb2
  by_cases hc : (pk E (n + 1)).text = tLp
  · rw [decide_eq_true hc] at HI
    have HC1 := Lib.hid hc
    clear hc
    go_wp2_with (go_at_call 58; refine HI.out.mono ?_; rintro e w3 ⟨rfl, hb3⟩; have p := (tokC_new w1 tk.kind tk.at_ T 100).fresh hb3; have p0 := p.c0; have p1 := p.c1; have p2 := p.c2; clear p)
    have hr3 := (HR1.out.fresh HB2.out).fresh hb3
    have hk3 : Keeps (fun b => b = rb) w w3 := HK1.out.trans (Keeps.of_new (HB2.out.trans (hb3.mono HB2.out.size)))
    have hcall := HC.out tk (n + 1) w3 hr3 (HE.out.own hk3)
    unfold tokV at hcall
    rw [← HTX.out] at hcall
    refine hcall.mono ?_
    rintro e w4 ⟨r, hev, hsay⟩
    have HEV : Hid (Ev (fun f => named E f dd n) r) := Lib.hid (Ev.step (fun f => by rw [named_eq, if_pos HC1.out, ← HTKE.out]) hev)
    have HK3 := Lib.hid hk3
    clear hcall hr3 hk3 hb3 hev p0 p1 p2
    cases r with
    | out => exact hsay.elim
    | bad k a =>
      have hsay' : Threw w3 w4 rb k a e := hsay
      obtain ⟨b, rfl⟩ := threw_panic hsay'
      exact ⟨rfl, .bad k a, HEV.out, hsay'.own HLT.out HK3.out⟩
    | ok x m =>
      obtain ⟨v, rfl, hx, hr, hk⟩ := hsay
      go_wp2_with fail
      go_ret
      exact ⟨.ok x m, HEV.out, v, rfl, hx.of HK3.out.size, hr, HK3.out.trans hk⟩
  · rw [decide_eq_false hc] at HI
    have HEV : Hid (Ev (fun f => named E f dd n) (.ok (leaf 4 tk.at_ 0 tk.text) (n + 1))) := Lib.hid (Ev.now (fun e => by cases e) fun f => by rw [named_eq, if_neg hc, ← HTKE.out])
    clear hc
    go_wp2_with (go_at_call 58; refine HI.out.mono ?_; rintro e w3 ⟨rfl, hb3⟩; have p := (tokC_new w1 tk.kind tk.at_ T 100).fresh hb3; have p0 := p.c0; have p1 := p.c1; have p2 := p.c2; clear p)
    go_ret
    have hk3 : Keeps (fun b => b = rb) w w3 := HK1.out.trans (Keeps.of_new (HB2.out.trans (hb3.mono HB2.out.size)))
    refine ⟨_, HEV.out, _, rfl, ?_, (((HR1.out.fresh HB2.out).fresh hb3)).fresh ((Below.refl _ _).alloc (Nat.le_refl _) _), hk3.alloc _⟩
    have hl := leaf_new w3 4 tk.at_ 0 tk.text 89 (F := fun b => w.heap.size ≤ b) hk3.size
    rw [← HTX.out] at hl
    exact hl
end Go.Proofs.YtgonbmcojjcabaaGreatDoor

namespace Go.Proofs.YtgonbmcojjcabaaGreatDoor
open Go.RowKit Lx Tr
variable {w w' : World} {rb n d dd : Nat} {tv : Value} {E : Env}

theorem one_eq (f d n : Nat) : Tr.one E (f + 1) d n =
    if 12 < d then fail E 4 n
    else if (pk E n).kind = 3 then .ok (leaf 1 (pk E n).at_ (numV (pk E n).text) []) (n + 1)
    else if (pk E n).kind = 1 then named E f d n
    else if (pk E n).text = tLp then bracketed E f d n
    else if (pk E n).text = [45] ∨ (pk E n).text = [94] ∨ (pk E n).text = [33] then (Tr.one E f (d + 1) (n + 1)).bind fun x m => .ok (.mk 6 (pk E n).at_ 0 (op1V (pk E n).text) [] x .nil .nil) m
    else if (pk E n).text = tArrow then (Tr.one E f (d + 1) (n + 1)).bind fun x m => .ok (.mk 10 (pk E n).at_ 0 0 [] x .nil .nil) m
    else if (pk E n).text = tMake then (bracketed E f d (n + 1)).bind fun x m => .ok (.mk 8 (pk E n).at_ 0 0 [] x .nil .nil) m
    else if (pk E n).text = tLen then (bracketed E f d (n + 1)).bind fun x m => .ok (.mk 9 (pk E n).at_ 0 0 [] x .nil .nil) m
    else if (pk E n).text = tTrue then .ok (leaf 2 (pk E n).at_ 1 []) (n + 1)
    else if (pk E n).text = tFalse then .ok (leaf 2 (pk E n).at_ 0 []) (n + 1)
    else if (pk E n).text = tNil then .ok (leaf 3 (pk E n).at_ 0 []) (n + 1)
    else fail E 3 n := by rw [Tr.one]

set_option maxRecDepth 100000 in
set_option maxHeartbeats 3200000 in
theorem rone_deep {dep : Nat} (hd : 12 < dd) : OneC rb tv E dep dd := by
  intro n w h hE
  have HF := Lib.hid (fail_any 4 w h)
  have hi : ¬ ((dd : Int) ≤ 12) := by omega
  have hi2 : (12 : Int) < (dd : Int) := by omega
  have HEV : Hid (Ev (fun f => Tr.one E f dd n) (.bad 4 (pk E n).at_)) := Lib.hid (Ev.now (fun e => by cases e) fun f => by rw [one_eq, if_pos hd]; rfl)
  clear h hE hd
  go_enter Tryz.func195, Tryz.ntmps195
  go_wp2_with fail
  refine HF.out.mono ?_
  rintro e w1 ht
  have ht2 := ht
  obtain ⟨b, rfl⟩ := threw_panic ht
  exact ⟨rfl, _, HEV.out, ht2⟩

set_option maxRecDepth 100000 in
set_option maxHeartbeats 3200000 in
theorem rone_num {dep : Nat} (hd : dd ≤ 12) (w : World) (h : RdAt w rb tv E n dep) (hE : TEnv rb E w) (hk : (pk E n).kind = 3) : Calls Tryz.prog 195 #[.pointer (some ⟨rb, 0, none⟩), .int .i64 (dd : Nat)] w fun e w' =>
    ∃ r, Ev (fun f => Tr.one E f dd n) r ∧ Says ExV w w' rb tv E dep r e := by
  have HP := Lib.hid (peek_any w h)
  have HN : Hid (∀ W, Below w.heap.size w W → Calls Tryz.prog 204 #[.pointer (some ⟨rb, 0, none⟩)] W fun e w' => Says ExV W w' rb tv E dep (.ok (leaf 1 (pk E n).at_ (numV (pk E n).text) []) (n + 1)) e) :=
    Lib.hid fun W hb => number_any W (h.fresh hb) (hE.fresh hb) hk
  have HEV : Hid (Ev (fun f => Tr.one E f dd n) (.ok (leaf 1 (pk E n).at_ (numV (pk E n).text) []) (n + 1))) := Lib.hid (Ev.now (fun e => by cases e) fun f => by rw [one_eq, if_neg (by omega), if_pos hk])
  have hi : (dd : Int) ≤ 12 := by omega
  have hki : ((pk E n).kind : Int) = 3 := by omega
  clear h hE hk hd
  unfold tokV at HP
  rw [hki] at HP
  generalize mkT (pk E n).text = T at *
  have hf := tok_field0
  go_enter Tryz.func195, Tryz.ntmps195
  go_wp2_with (go_at_call 88; refine HP.out.mono ?_; rintro e w1 ⟨rfl, hb1⟩)
  refine (HN.out w1 hb1).mono ?_
  rintro e w2 ⟨v, rfl, hx, hr, hk2⟩
  go_wp2_with fail
  go_ret
  exact ⟨_, HEV.out, v, rfl, hx.of hb1.size, hr, (Keeps.of_new hb1).trans hk2⟩

set_option maxRecDepth 100000 in
set_option maxHeartbeats 3200000 in
theorem rone_name {dep : Nat} (hd : dd ≤ 12) (hC : CallC rb tv E dep dd) (w : World) (h : RdAt w rb tv E n dep) (hE : TEnv rb E w) (hk : (pk E n).kind = 1) : Calls Tryz.prog 195 #[.pointer (some ⟨rb, 0, none⟩), .int .i64 (dd : Nat)] w fun e w' =>
    ∃ r, Ev (fun f => Tr.one E f dd n) r ∧ Says ExV w w' rb tv E dep r e := by
  have HP := Lib.hid (peek_any w h)
  have HN : Hid (∀ W, Below w.heap.size w W → Calls Tryz.prog 205 #[.pointer (some ⟨rb, 0, none⟩), .int .i64 (dd : Nat)] W fun e w' => ∃ r, Ev (fun f => named E f dd n) r ∧ Says ExV W w' rb tv E dep r e) :=
    Lib.hid fun W hb => named_any hC W (h.fresh hb) (hE.fresh hb) hk
  have HEV : Hid (∀ r, Ev (fun f => named E f dd n) r → Ev (fun f => Tr.one E f dd n) r) := Lib.hid fun r hr => Ev.step (fun f => by rw [one_eq, if_neg (by omega), if_neg (by omega), if_pos hk]) hr
  have hi : (dd : Int) ≤ 12 := by omega
  have hki : ((pk E n).kind : Int) = 1 := by omega
  have hlt := Lib.hid h.lt
  clear h hE hk hd hC
  unfold tokV at HP
  rw [hki] at HP
  generalize mkT (pk E n).text = T at *
  have hf := tok_field0
  go_enter Tryz.func195, Tryz.ntmps195
  go_wp2_with (go_at_call 88; refine HP.out.mono ?_; rintro e w1 ⟨rfl, hb1⟩)
  refine (HN.out w1 hb1).mono ?_
  rintro e w2 ⟨r, hev, hsay⟩
  cases r with
  | out => exact hsay.elim
  | bad k a =>
    have hsay' : Threw w1 w2 rb k a e := hsay
    obtain ⟨b, rfl⟩ := threw_panic hsay'
    exact ⟨rfl, _, HEV.out _ hev, hsay'.own hlt.out (Keeps.of_new hb1)⟩
  | ok x m =>
    obtain ⟨v, rfl, hx, hr, hk2⟩ := hsay
    go_wp2_with fail
    go_ret
    exact ⟨_, HEV.out _ hev, v, rfl, hx.of hb1.size, hr, (Keeps.of_new hb1).trans hk2⟩
end Go.Proofs.YtgonbmcojjcabaaGreatDoor

namespace Go.Proofs.YtgonbmcojjcabaaGreatDoor
open Go.RowKit Lx Tr
variable {w w' : World} {rb n d dd : Nat} {tv : Value} {E : Env}

/-- What stands behind an item. -/
def AfterItem {β : Type} (E : Env) (P : β → Nat → Res β → Prop) (acc : β) (m : Nat) (r : Res β) : Prop :=
  ((pk E m).text = tComma ∧ P acc (m + 1) r) ∨ ((pk E m).text ≠ tComma ∧ r = (take E tRp m).bind fun _ m2 => .ok acc m2)
/-- What a list comes to. -/
def ListR {β : Type} (E : Env) (P : β → Nat → Res β → Prop) (acc : β) (n : Nat) (r : Res β) : Prop :=
  (∃ k a, take E tLp n = .bad k a ∧ r = .bad k a) ∨ ∃ t n1, take E tLp n = .ok t n1 ∧ (((pk E n1).text = tRp ∧ r = .ok acc (n1 + 1)) ∨ ((pk E n1).text ≠ tRp ∧ P acc n1 r))

structure ItemC {β : Type} (w : World) (rb : Nat) (tv : Value) (E : Env) (d : Nat) (F : FuncId) (caps : Array Value) (J : World → Nat → β → Prop) (P : β → Nat → Res β → Prop) : Prop where
  rd : ∀ W m acc, J W m acc → RdAt W rb tv E m d
  on : ∀ W W' m m' acc, m ≤ m' → J W m acc → Keeps (fun b => b = rb) W W' → RdAt W' rb tv E m' d → J W' m' acc
  old : ∀ W m acc, J W m acc → Below rb w W
  item : ∀ W m acc, J W m acc → Calls Tryz.prog F caps W fun e W' => (∃ k a, P acc m (.bad k a) ∧ Threw W W' rb k a e) ∨ (∃ acc' m', m < m' ∧ e = .returned (.tuple #[]) ∧ J W' m' acc' ∧ ∀ r, AfterItem E P acc' m' r → P acc m r)

set_option maxRecDepth 100000 in
set_option maxHeartbeats 6400000 in
theorem list_call {β : Type} {caps : Array Value} {J : World → Nat → β → Prop} {P : β → Nat → Res β → Prop} (hC : ItemC w rb tv E d 191 caps J P) (acc0 : β) (hJ : J w n acc0) :
    Calls Tryz.prog 90 #[.pointer (some ⟨rb, 0, none⟩), .func (.func 191) #[] caps] w fun e w' => ∃ r : Res β, ListR E P acc0 n r ∧ match r with
      | .ok acc m => e = .returned (.tuple #[]) ∧ J w' m acc
      | .bad k a => Threw w w' rb k a e
      | .out => False := by
  have HC := Lib.hid hC
  have h0 := hC.rd _ _ _ hJ
  have HJ := Lib.hid hJ
  have HTK := Lib.hid (take_tok ⟨#[40]⟩ (by decide) w h0)
  have HLT := Lib.hid h0.lt
  have e40 : (⟨#[40]⟩ : ByteArray).data.toList = tLp := rfl
  have e41 : (⟨#[41]⟩ : ByteArray).data.toList = tRp := rfl
  have e44 : (⟨#[44]⟩ : ByteArray).data.toList = tComma := rfl
  rw [e40] at HTK
  clear hC hJ h0 e40
  cases ht : take E tLp n with
  | out => exact absurd ht (take_ne E _ _)
  | bad k a =>
    rw [ht] at HTK
    have HT := Lib.hid ht
    clear ht e41 e44
    go_enter Tryz.func90, Tryz.ntmps90
    go_wp2_with fail
    refine HTK.out.mono ?_
    rintro e w1 hth
    obtain ⟨b, rfl⟩ := threw_panic hth
    exact ⟨rfl, .bad k a, Or.inl ⟨k, a, HT.out, rfl⟩, hth⟩
  | ok t n1 =>
    rw [ht] at HTK
    have HT := Lib.hid ht
    clear ht
    go_enter Tryz.func90, Tryz.ntmps90
    go_wp2_with fail
    refine HTK.out.mono ?_
    rintro e w1 ⟨v, rfl, _, hr1, hk1⟩
    have HJ1 := Lib.hid (HC.out.on _ _ _ _ _ (Nat.le_of_lt (take_on HT.out)) HJ.out hk1 hr1)
    have HTI := takeIf_tok ⟨#[41]⟩ (by decide) w1 hr1
    rw [e41] at HTI
    have HI := Lib.hid HTI
    clear HTI hr1 hk1
    go_wp2_with fail
    by_cases hrp : (pk E n1).text = tRp
    · have hv : takeIfV E tRp n1 = n1 + 1 := by unfold takeIfV; rw [if_pos hrp]
      rw [hv, decide_eq_true hrp] at HI
      have HRP := Lib.hid hrp
      clear hv hrp
      refine HI.out.mono ?_
      rintro e w2 ⟨rfl, hr2, hk2⟩
      have HJ2 := Lib.hid (HC.out.on _ _ _ _ _ (Nat.le_succ _) HJ1.out hk2 hr2)
      clear hr2 hk2
      go_wp2_with fail
      try simp only [Exit.inBlock, Exit.then]
      refine bodyPost_ret (results_none rfl _ _ _) rfl ?_
      exact ⟨.ok acc0 (n1 + 1), Or.inr ⟨t, n1, HT.out, Or.inl ⟨HRP.out, rfl⟩⟩, rfl, HJ2.out⟩
    · have hv : takeIfV E tRp n1 = n1 := by unfold takeIfV; rw [if_neg hrp]
      rw [hv, decide_eq_false hrp] at HI
      have HRP := Lib.hid hrp
      clear hv hrp
      refine HI.out.mono ?_
      rintro e w2 ⟨rfl, hr2, hk2⟩
      have HJ2 := Lib.hid (HC.out.on _ _ _ _ _ (Nat.le_refl _) HJ1.out hk2 hr2)
      clear hr2 hk2
      go_wp2_with fail
      refine (HC.out.item _ _ _ HJ2.out).mono ?_
      rintro e w3 hit
      rcases hit with ⟨k, a, hp, hth⟩ | ⟨acc1, m1, hm1, rfl, hj3, hr⟩
      · have hth2 := hth.after (HC.out.old _ _ _ HJ2.out)
        obtain ⟨b, rfl⟩ := threw_panic hth
        exact ⟨rfl, .bad k a, Or.inr ⟨t, n1, HT.out, Or.inr ⟨HRP.out, hp⟩⟩, hth2⟩
      · have HI3 : Hid (∃ acc m, J w3 m acc ∧ ∀ r, AfterItem E P acc m r → ListR E P acc0 n r) := Lib.hid ⟨acc1, m1, hj3, fun r h => Or.inr ⟨t, n1, HT.out, Or.inr ⟨HRP.out, hr r h⟩⟩⟩
        clear hj3 hr hm1
        go_wp2_with fail
        go_loopw [] (fun wr => ∃ acc m, J wr m acc ∧ ∀ r, AfterItem E P acc m r → ListR E P acc0 n r) (fun wr => E.toks.length - posOf wr rb)
        case atStart => exact HI3.out
        case round =>
          obtain ⟨acc, m, hj, hr⟩ := hrel
          have HJ4 := Lib.hid hj
          have HR := Lib.hid hr
          have HTI := takeIf_tok ⟨#[44]⟩ (by decide) wr (HC.out.rd _ _ _ hj)
          rw [e44] at HTI
          have HI := Lib.hid HTI
          clear HTI hj hr
          by_cases hcm : (pk E m).text = tComma
          · have hv : takeIfV E tComma m = m + 1 := by unfold takeIfV; rw [if_pos hcm]
            rw [hv, decide_eq_true hcm] at HI
            have HCM := Lib.hid hcm
            clear hv hcm
            go_wp2_with fail
            refine HI.out.mono ?_
            rintro e w5 ⟨rfl, hr5, hk5⟩
            have HJ5 := Lib.hid (HC.out.on _ _ _ _ _ (Nat.le_succ _) HJ4.out hk5 hr5)
            clear hr5 hk5
            go_wp2_with fail
            refine (HC.out.item _ _ _ HJ5.out).mono ?_
            rintro e w6 hit
            rcases hit with ⟨k, a, hp, hth⟩ | ⟨acc1, m1, hm1, rfl, hj6, hr6⟩
            · have hth2 := hth.after (HC.out.old _ _ _ HJ5.out)
              obtain ⟨b, rfl⟩ := threw_panic hth
              exact ⟨rfl, .bad k a, HR.out _ (Or.inl ⟨HCM.out, hp⟩), hth2⟩
            · go_wp2_with fail
              refine ⟨⟨acc1, m1, hj6, fun r h => HR.out r (Or.inl ⟨HCM.out, hr6 r h⟩)⟩, ?_⟩
              have h1 := HC.out.rd _ _ _ hj6
              have h2 := HC.out.rd _ _ _ HJ4.out
              rw [h1.pos, h2.pos]
              have := h1.hn
              omega
          · have hv : takeIfV E tComma m = m := by unfold takeIfV; rw [if_neg hcm]
            rw [hv, decide_eq_false hcm] at HI
            have HCM := Lib.hid hcm
            clear hv hcm
            go_wp2_with fail
            refine HI.out.mono ?_
            rintro e w5 ⟨rfl, hr5, hk5⟩
            have HJ5 := Lib.hid (HC.out.on _ _ _ _ _ (Nat.le_refl _) HJ4.out hk5 hr5)
            have HT5 := take_tok ⟨#[41]⟩ (by decide) w5 hr5
            rw [e41] at HT5
            have HTT := Lib.hid HT5
            clear hr5 hk5 HT5
            go_wp2_with fail
            cases ht2 : take E tRp m with
            | out => exact absurd ht2 (take_ne E _ _)
            | bad k a =>
              rw [ht2] at HTT
              refine HTT.out.mono ?_
              rintro e w6 hth
              have hth2 := Threw.after hth (HC.out.old _ _ _ HJ5.out)
              obtain ⟨b, rfl⟩ := threw_panic hth
              exact ⟨rfl, .bad k a, HR.out _ (Or.inr ⟨HCM.out, by rw [ht2]; rfl⟩), hth2⟩
            | ok t2 m2 =>
              rw [ht2] at HTT
              refine HTT.out.mono ?_
              rintro e w6 ⟨v6, rfl, _, hr6, hk6⟩
              have HJ6 := Lib.hid (HC.out.on _ _ _ _ _ (Nat.le_of_lt (take_on ht2)) HJ5.out hk6 hr6)
              have HT2 := Lib.hid ht2
              clear hr6 hk6 ht2
              go_wp2_with fail
              go_end0
              exact ⟨.ok acc m2, HR.out _ (Or.inr ⟨HCM.out, by rw [HT2.out]; rfl⟩), rfl, HJ6.out⟩
set_option maxRecDepth 100000 in
set_option maxHeartbeats 6400000 in
theorem list_fn {β : Type} {caps : Array Value} {J : World → Nat → β → Prop} {P : β → Nat → Res β → Prop} (hC : ItemC w rb tv E d 91 caps J P) (acc0 : β) (hJ : J w n acc0) :
    Calls Tryz.prog 90 #[.pointer (some ⟨rb, 0, none⟩), .func (.func 91) #[] caps] w fun e w' => ∃ r : Res β, ListR E P acc0 n r ∧ match r with
      | .ok acc m => e = .returned (.tuple #[]) ∧ J w' m acc
      | .bad k a => Threw w w' rb k a e
      | .out => False := by
  have HC := Lib.hid hC
  have h0 := hC.rd _ _ _ hJ
  have HJ := Lib.hid hJ
  have HTK := Lib.hid (take_tok ⟨#[40]⟩ (by decide) w h0)
  have HLT := Lib.hid h0.lt
  have e40 : (⟨#[40]⟩ : ByteArray).data.toList = tLp := rfl
  have e41 : (⟨#[41]⟩ : ByteArray).data.toList = tRp := rfl
  have e44 : (⟨#[44]⟩ : ByteArray).data.toList = tComma := rfl
  rw [e40] at HTK
  clear hC hJ h0 e40
  cases ht : take E tLp n with
  | out => exact absurd ht (take_ne E _ _)
  | bad k a =>
    rw [ht] at HTK
    have HT := Lib.hid ht
    clear ht e41 e44
    go_enter Tryz.func90, Tryz.ntmps90
    go_wp2_with fail
    refine HTK.out.mono ?_
    rintro e w1 hth
    obtain ⟨b, rfl⟩ := threw_panic hth
    exact ⟨rfl, .bad k a, Or.inl ⟨k, a, HT.out, rfl⟩, hth⟩
  | ok t n1 =>
    rw [ht] at HTK
    have HT := Lib.hid ht
    clear ht
    go_enter Tryz.func90, Tryz.ntmps90
    go_wp2_with fail
    refine HTK.out.mono ?_
    rintro e w1 ⟨v, rfl, _, hr1, hk1⟩
    have HJ1 := Lib.hid (HC.out.on _ _ _ _ _ (Nat.le_of_lt (take_on HT.out)) HJ.out hk1 hr1)
    have HTI := takeIf_tok ⟨#[41]⟩ (by decide) w1 hr1
    rw [e41] at HTI
    have HI := Lib.hid HTI
    clear HTI hr1 hk1
    go_wp2_with fail
    by_cases hrp : (pk E n1).text = tRp
    · have hv : takeIfV E tRp n1 = n1 + 1 := by unfold takeIfV; rw [if_pos hrp]
      rw [hv, decide_eq_true hrp] at HI
      have HRP := Lib.hid hrp
      clear hv hrp
      refine HI.out.mono ?_
      rintro e w2 ⟨rfl, hr2, hk2⟩
      have HJ2 := Lib.hid (HC.out.on _ _ _ _ _ (Nat.le_succ _) HJ1.out hk2 hr2)
      clear hr2 hk2
      go_wp2_with fail
      try simp only [Exit.inBlock, Exit.then]
      refine bodyPost_ret (results_none rfl _ _ _) rfl ?_
      exact ⟨.ok acc0 (n1 + 1), Or.inr ⟨t, n1, HT.out, Or.inl ⟨HRP.out, rfl⟩⟩, rfl, HJ2.out⟩
    · have hv : takeIfV E tRp n1 = n1 := by unfold takeIfV; rw [if_neg hrp]
      rw [hv, decide_eq_false hrp] at HI
      have HRP := Lib.hid hrp
      clear hv hrp
      refine HI.out.mono ?_
      rintro e w2 ⟨rfl, hr2, hk2⟩
      have HJ2 := Lib.hid (HC.out.on _ _ _ _ _ (Nat.le_refl _) HJ1.out hk2 hr2)
      clear hr2 hk2
      go_wp2_with fail
      refine (HC.out.item _ _ _ HJ2.out).mono ?_
      rintro e w3 hit
      rcases hit with ⟨k, a, hp, hth⟩ | ⟨acc1, m1, hm1, rfl, hj3, hr⟩
      · have hth2 := hth.after (HC.out.old _ _ _ HJ2.out)
        obtain ⟨b, rfl⟩ := threw_panic hth
        exact ⟨rfl, .bad k a, Or.inr ⟨t, n1, HT.out, Or.inr ⟨HRP.out, hp⟩⟩, hth2⟩
      · have HI3 : Hid (∃ acc m, J w3 m acc ∧ ∀ r, AfterItem E P acc m r → ListR E P acc0 n r) := Lib.hid ⟨acc1, m1, hj3, fun r h => Or.inr ⟨t, n1, HT.out, Or.inr ⟨HRP.out, hr r h⟩⟩⟩
        clear hj3 hr hm1
        go_wp2_with fail
        go_loopw [] (fun wr => ∃ acc m, J wr m acc ∧ ∀ r, AfterItem E P acc m r → ListR E P acc0 n r) (fun wr => E.toks.length - posOf wr rb)
        case atStart => exact HI3.out
        case round =>
          obtain ⟨acc, m, hj, hr⟩ := hrel
          have HJ4 := Lib.hid hj
          have HR := Lib.hid hr
          have HTI := takeIf_tok ⟨#[44]⟩ (by decide) wr (HC.out.rd _ _ _ hj)
          rw [e44] at HTI
          have HI := Lib.hid HTI
          clear HTI hj hr
          by_cases hcm : (pk E m).text = tComma
          · have hv : takeIfV E tComma m = m + 1 := by unfold takeIfV; rw [if_pos hcm]
            rw [hv, decide_eq_true hcm] at HI
            have HCM := Lib.hid hcm
            clear hv hcm
            go_wp2_with fail
            refine HI.out.mono ?_
            rintro e w5 ⟨rfl, hr5, hk5⟩
            have HJ5 := Lib.hid (HC.out.on _ _ _ _ _ (Nat.le_succ _) HJ4.out hk5 hr5)
            clear hr5 hk5
            go_wp2_with fail
            refine (HC.out.item _ _ _ HJ5.out).mono ?_
            rintro e w6 hit
            rcases hit with ⟨k, a, hp, hth⟩ | ⟨acc1, m1, hm1, rfl, hj6, hr6⟩
            · have hth2 := hth.after (HC.out.old _ _ _ HJ5.out)
              obtain ⟨b, rfl⟩ := threw_panic hth
              exact ⟨rfl, .bad k a, HR.out _ (Or.inl ⟨HCM.out, hp⟩), hth2⟩
            · go_wp2_with fail
              refine ⟨⟨acc1, m1, hj6, fun r h => HR.out r (Or.inl ⟨HCM.out, hr6 r h⟩)⟩, ?_⟩
              have h1 := HC.out.rd _ _ _ hj6
              have h2 := HC.out.rd _ _ _ HJ4.out
              rw [h1.pos, h2.pos]
              have := h1.hn
              omega
          · have hv : takeIfV E tComma m = m := by unfold takeIfV; rw [if_neg hcm]
            rw [hv, decide_eq_false hcm] at HI
            have HCM := Lib.hid hcm
            clear hv hcm
            go_wp2_with fail
            refine HI.out.mono ?_
            rintro e w5 ⟨rfl, hr5, hk5⟩
            have HJ5 := Lib.hid (HC.out.on _ _ _ _ _ (Nat.le_refl _) HJ4.out hk5 hr5)
            have HT5 := take_tok ⟨#[41]⟩ (by decide) w5 hr5
            rw [e41] at HT5
            have HTT := Lib.hid HT5
            clear hr5 hk5 HT5
            go_wp2_with fail
            cases ht2 : take E tRp m with
            | out => exact absurd ht2 (take_ne E _ _)
            | bad k a =>
              rw [ht2] at HTT
              refine HTT.out.mono ?_
              rintro e w6 hth
              have hth2 := Threw.after hth (HC.out.old _ _ _ HJ5.out)
              obtain ⟨b, rfl⟩ := threw_panic hth
              exact ⟨rfl, .bad k a, HR.out _ (Or.inr ⟨HCM.out, by rw [ht2]; rfl⟩), hth2⟩
            | ok t2 m2 =>
              rw [ht2] at HTT
              refine HTT.out.mono ?_
              rintro e w6 ⟨v6, rfl, _, hr6, hk6⟩
              have HJ6 := Lib.hid (HC.out.on _ _ _ _ _ (Nat.le_of_lt (take_on ht2)) HJ5.out hk6 hr6)
              have HT2 := Lib.hid ht2
              clear hr6 hk6 ht2
              go_wp2_with fail
              go_end0
              exact ⟨.ok acc m2, HR.out _ (Or.inr ⟨HCM.out, by rw [HT2.out]; rfl⟩), rfl, HJ6.out⟩
end Go.Proofs.YtgonbmcojjcabaaGreatDoor
