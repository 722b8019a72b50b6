/-
  What the laws of package verify ask of shapes: that they are the same (slices.EqualFunc, twice); slices.Clone of functions; the program with a function more.
-/
import Derived.Test.YtlfcfaceeloedaaDoorVerL1
import Derived.Test.YtlfcfaceeloedaaDoorEqualI
namespace Go.Proofs.YtlfcfaceeloedaaDoor
open Go.RowKit Go.Shelf Cd Ve

set_option maxRecDepth 100000 in
set_option maxHeartbeats 1600000 in
theorem same1_any (L : Bool) (a1 a2 : Option Addr) (n c1 c2 : Nat) (l : List Int) (w : World) (h1 : IntsAt w (.slice a1 n c1) l) (h2 : IntsAt w (.slice a2 n c2) l) :
    Calls Tryd.prog 40 #[.agg #[.bool L, .slice a1 n c1], .agg #[.bool L, .slice a2 n c2]] w fun e w' => e = .returned (.bool true) ∧ Below w.heap.size w w' := by
  obtain ⟨W1, hW1⟩ : ∃ W1, W1 = (w.alloc (.cells #[.bool L, .slice a1 n c1] 49)).alloc (.cells #[.bool L, .slice a2 n c2] 49) := ⟨_, rfl⟩
  have hb1 : Below w.heap.size w W1 := by rw [hW1]; exact ((Below.refl _ w).alloc (Nat.le_refl _) _).alloc (by simp) _
  have HEQ := Lib.hid (equalI_any (.slice a1 n c1) (.slice a2 n c2) l W1 (h1.below hb1) (h2.below hb1))
  have HB1 := Lib.hid hb1
  have hx1 := (BlkO.new w #[.bool L, .slice a1 n c1] 49).keeps ((Keeps.refl (fun _ : Nat => False) _).alloc (.cells #[.bool L, .slice a2 n c2] 49)) id
  have hx2 := BlkO.new (w.alloc (.cells #[.bool L, .slice a1 n c1] 49)) #[.bool L, .slice a2 n c2] 49
  rw [show (w.alloc (.cells #[.bool L, .slice a1 n c1] 49)).heap.size = w.heap.size + 1 by simp] at hx2
  rw [← hW1] at hx1 hx2
  have x0 := hx1.at_ 0 _ rfl
  have x1 := hx1.at_ 1 _ rfl
  have y0 := hx2.at_ 0 _ rfl
  have y1 := hx2.at_ 1 _ rfl
  clear h1 h2 hb1 hx1 hx2
  go_enter Tryd.func40, Tryd.ntmps40
  go_upto_region 1 with fail
  rw [← hW1]
  clear hW1
  go_wp2_with fail
  refine HEQ.out.mono ?_
  rintro e w2 ⟨rfl, m, rfl⟩
  go_wp2_with fail
  go_ret
  exact ⟨rfl, below_drewK HB1.out m⟩

theorem ShpsAt.get {w : World} {v : Value} {ss : List Sh} (h : ShpsAt (fun _ => False) w v ss) : ∃ ao cap, v = .slice ao ss.length cap ∧ ss.length ≤ cap ∧ cap ≤ maxLen ∧ ∀ (i : Nat) (s : Sh), ss[i]? = some s → ∃ b o a n c, ao = some ⟨b, o, none⟩ ∧ n = s.2.length ∧ w.cell? ⟨b, o + i * 2, none⟩ = some (.bool s.1) ∧ w.cell? ⟨b, o + i * 2 + 1, none⟩ = some (.slice a n c) ∧ IntsAt w (.slice a n c) s.2 := by
  obtain ⟨ao, n, cap, rfl, rfl, hc, hm, hx⟩ := h
  refine ⟨ao, cap, rfl, hc, hm, fun i s hi => ?_⟩
  obtain ⟨b, o, kv, q1, _, q3, q4, q5, _⟩ := hx i s hi
  have hq := q5
  obtain ⟨a, n, c, rfl, hn, -⟩ := q5
  exact ⟨b, o, a, n, c, q1, hn, q3, q4, hq⟩
set_option maxRecDepth 100000 in
set_option maxHeartbeats 3200000 in
theorem same2_any (v u : Value) (ss : List Sh) (w : World) (hv : ShpsAt (fun _ => False) w v ss) (hu : ShpsAt (fun _ => False) w u ss) :
    Calls Tryd.prog 39 #[v, u, .func (.func 40) #[] #[]] w fun e w' => e = .returned (.bool true) ∧ Below w.heap.size w w' := by
  obtain ⟨a1, k1, rfl, hc1, hm1, h1⟩ := hv.get
  obtain ⟨a2, k2, rfl, hc2, hm2, h2⟩ := hu.get
  have H1 := Lib.hid h1
  have H2 := Lib.hid h2
  obtain ⟨n, hn⟩ : ∃ n, n = ss.length := ⟨_, rfl⟩
  have HN := Lib.hid hn
  rw [← hn] at hc1 hc2 ⊢
  unfold maxLen at hm1
  clear hn hm2 h1 h2 hv hu
  go_enter Tryd.func39, Tryd.ntmps39
  go_wp2_with fail
  go_loopw [17] (fun i wr => ∃ k : Nat, k ≤ n ∧ i = .int .i64 k ∧ Below w.heap.size w wr) (fun i _ => n - (intOf i).toNat)
  case atStart => exact ⟨0, Nat.zero_le _, rfl, Below.refl _ _⟩
  case round =>
    obtain ⟨i, hi, rfl, hbw⟩ := hrel
    rename World => wr
    by_cases hin : i < n
    · obtain ⟨⟨L, is⟩, hx⟩ : ∃ x, ss[i]? = some x := ⟨_, List.getElem?_eq_getElem (by rw [← HN.out]; exact hin)⟩
      obtain ⟨b1, o1, x1, q1, y1, e1, hq1, g0, g1, g2⟩ := H1.out i _ hx
      obtain ⟨b2, o2, x2, q2, y2, e2, hq2, g3, g4, g5⟩ := H2.out i _ hx
      subst e1 e2
      dsimp only at hq1 hq2 g0 g2 g3 g5
      have hqq : q2 = q1 := by rw [hq1, hq2]
      subst hqq
      have hkw := keeps_none hbw
      have g0 := hkw.cell_of g0 id
      have g1 := hkw.cell_of g1 id
      have g3 := hkw.cell_of g3 id
      have g4 := hkw.cell_of g4 id
      obtain ⟨W1, hW1⟩ : ∃ W1, W1 = (wr.alloc (.cells #[.bool L, .slice x1 q2 y1] 49)).alloc (.cells #[.bool L, .slice x2 q2 y2] 49) := ⟨_, rfl⟩
      have hb1 : Below w.heap.size w W1 := by rw [hW1]; exact (hbw.alloc hbw.size _).alloc (by have := hbw.size; simp; omega) _
      have hz1 := (BlkO.new wr #[.bool L, .slice x1 q2 y1] 49).keeps ((Keeps.refl (fun _ : Nat => False) _).alloc (.cells #[.bool L, .slice x2 q2 y2] 49)) id
      have hz2 := BlkO.new (wr.alloc (.cells #[.bool L, .slice x1 q2 y1] 49)) #[.bool L, .slice x2 q2 y2] 49
      rw [show (wr.alloc (.cells #[.bool L, .slice x1 q2 y1] 49)).heap.size = wr.heap.size + 1 by simp] at hz2
      rw [← hW1] at hz1 hz2
      have l1 := block_lt_of_cell g3
      have l2 := block_lt_of_cell g4
      dsimp only at l1 l2
      have HS := Lib.hid (same1_any L x1 x2 q2 y1 y2 is W1 (g2.below hb1) (g5.below hb1))
      have z0 := hz1.at_ 0 _ rfl
      have z1 := hz1.at_ 1 _ rfl
      have z2 := hz2.at_ 0 _ rfl
      have z3 := hz2.at_ 1 _ rfl
      have HB1 := Lib.hid hb1
      have hii : (0 : Int) ≤ (i : Int) ∧ (i : Int) < (n : Int) := by omega
      have hii1 : (i : Int) < (n : Int) := by omega
      clear hx hb1 hz1 hz2 hkw g2 g5 hq1 hq2 H1 H2
      go_upto_region 7 with fail
      rw [← hW1]
      clear hW1 g0 g1 g3 g4 l1 l2
      go_wp2_with fail
      refine HS.out.mono ?_
      rintro e w2 ⟨rfl, hb2⟩
      have HB2 := Lib.hid (HB1.out.trans (hb2.mono HB1.out.size))
      clear hb2 z0 z1 z2 z3
      go_wp2_with fail
      go_roundw
      case rel => exact ⟨i + 1, by omega, by go_num, HB2.out⟩
      case measure => simp [intOf]; omega
    · obtain rfl : i = n := by omega
      have HB := Lib.hid hbw
      clear hbw H1 H2
      go_wp2_with fail
      go_ret
      exact ⟨rfl, HB.out⟩
set_option maxRecDepth 100000 in
set_option maxHeartbeats 1600000 in
theorem same3_any (v u : Value) (ss : List Sh) (w : World) (hv : ShpsAt (fun _ => False) w v ss) (hu : ShpsAt (fun _ => False) w u ss) :
    Calls Tryd.prog 21 #[v, u] w fun e w' => e = .returned (.bool true) ∧ Below w.heap.size w w' := by
  have HS := Lib.hid (same2_any v u ss w hv hu)
  obtain ⟨a1, k1, rfl, -⟩ := hv.get
  obtain ⟨a2, k2, rfl, -⟩ := hu.get
  clear hv hu
  go_enter Tryd.func21, Tryd.ntmps21
  go_wp2_with fail
  refine HS.out.mono ?_
  rintro e w2 ⟨rfl, hb2⟩
  have HB2 := Lib.hid hb2
  clear hb2
  go_wp2_with fail
  go_ret
  exact ⟨rfl, HB2.out⟩
set_option maxRecDepth 100000 in
set_option maxHeartbeats 3200000 in
theorem same4_any (v u : Value) (l : List (List Sh)) (w : World) (hv : TellsAt w v l) (hu : TellsAt w u l) :
    Calls Tryd.prog 20 #[v, u, .func (.func 21) #[] #[]] w fun e w' => e = .returned (.bool true) ∧ Below w.heap.size w w' := by
  obtain ⟨a1, n, k1, rfl, hn, hc1, hm1, h1⟩ := hv
  obtain ⟨a2, n2, k2, rfl, hn2, hc2, hm2, h2⟩ := hu
  have e12 : n2 = n := by rw [hn, hn2]
  subst e12
  have H1 := Lib.hid h1
  have H2 := Lib.hid h2
  have HN := Lib.hid hn
  unfold maxLen at hm1
  clear hn hn2 hm2 h1 h2
  go_enter Tryd.func20, Tryd.ntmps20
  go_wp2_with fail
  go_loopw [17] (fun i wr => ∃ k : Nat, k ≤ n2 ∧ i = .int .i64 k ∧ Below w.heap.size w wr) (fun i _ => n2 - (intOf i).toNat)
  case atStart => exact ⟨0, Nat.zero_le _, rfl, Below.refl _ _⟩
  case round =>
    obtain ⟨i, hi, rfl, hbw⟩ := hrel
    rename World => wr
    by_cases hin : i < n2
    · obtain ⟨ss, hx⟩ : ∃ x, l[i]? = some x := ⟨_, List.getElem?_eq_getElem (by rw [← HN.out]; exact hin)⟩
      obtain ⟨b1, o1, s1, e1, g0, g1⟩ := H1.out i _ hx
      obtain ⟨b2, o2, s2, e2, g2, g3⟩ := H2.out i _ hx
      subst e1 e2
      have hkw := keeps_none hbw
      have g0 := hkw.cell_of g0 id
      have g2 := hkw.cell_of g2 id
      have HS := Lib.hid (same3_any s1 s2 ss wr (g1.keeps hkw fun _ e => e) (g3.keeps hkw fun _ e => e))
      obtain ⟨x1, y1, rfl, -⟩ := g1.get
      obtain ⟨x2, y2, rfl, -⟩ := g3.get
      have HB1 := Lib.hid hbw
      have hii : (0 : Int) ≤ (i : Int) ∧ (i : Int) < (n2 : Int) := by omega
      have hii1 : (i : Int) < (n2 : Int) := by omega
      clear hx hbw hkw g1 g3 H1 H2
      go_wp2_with fail
      refine HS.out.mono ?_
      rintro e w2 ⟨rfl, hb2⟩
      have HB2 := Lib.hid (HB1.out.trans (hb2.mono HB1.out.size))
      clear hb2 g0 g2
      go_wp2_with fail
      go_roundw
      case rel => exact ⟨i + 1, by omega, by go_num, HB2.out⟩
      case measure => simp [intOf]; omega
    · obtain rfl : i = n2 := by omega
      have HB := Lib.hid hbw
      clear hbw H1 H2
      go_wp2_with fail
      go_ret
      exact ⟨rfl, HB.out⟩

/-- 'append(own, other...)', whatever the elements. -/
theorem wpList_appendM {ops : Array Oper} {rest : List Oper} {o : Oper} {a : Act} {w : World} {Q : Exit → Act → World → Prop} (hgd : o.guard = none) (s x : Operand) (t e : TypeId) (z : Value) (size bytes : Nat)
    (ho : o.op = .call { callee := .builtin .append, args := #[s, x], argTypes := #[t, t] }) (ht : Tryd.prog.underlying t = some (.slice e)) (hinfo : (Tryd.prog.info? e).map (fun i => (i.zero, i.size, i.bytes)) = some (some z, size, bytes)) (hz : z.cells.size = size) (hsz : 0 < size) (hby : bytes ≤ 100)
    (B : Nat) (v : Value) (n : Nat) (xs news : List Value) (g og m c : Nat) (hown : w.ownsRow B e size v n xs) (hn : n ≤ 1000000) (hm : m ≤ 1000000) (hnl : news.length = m * size) (hcell : ∀ j u, news[j]? = some u → w.cell? ⟨g, og + j, none⟩ = some u) (hone : ∀ u ∈ news, u.oneCell' = true) (hB : B ≤ w.heap.size)
    (hs : a.eval s = v) (hx : a.eval x = .slice (some ⟨g, og, none⟩) m c)
    (h : ∀ ao cap w', w'.ownsRow B e size (.slice ao (n + m) cap) (n + m) (xs ++ news) → Keeps (fun b => v.ownBlock = some b) w w' → wpList Tryd.prog ops Q rest (a.put o.dst (.slice ao (n + m) cap)) w') :
    wpList Tryd.prog ops Q (o :: rest) a w := by
  obtain ⟨i0, hi, hz0, hz1, hz2⟩ := tinfoA hinfo
  have hb3 : (n + m) * bytes ≤ 140737488355328 := Nat.le_trans (Nat.mul_le_mul (show n + m ≤ 2000000 by omega) hby) (by decide)
  obtain ⟨v', w', hr, h1, h2, _, _⟩ := run_append_own_at (P := Tryd.prog) w B t o.type e i0 z size bytes ht hi hz0 hz1 hz2 hz hsz v n xs hown ⟨g, og, none⟩ m c news hnl
    (fun j u hj => by rw [show (⟨g, og, none⟩ : Addr).add j = ⟨g, og + j, none⟩ by unfold Addr.add; split <;> simp_all]; exact hcell j u hj) hone (by unfold maxLen; omega) hb3 hB
  obtain ⟨ao', cap', rfl⟩ := slice_of_own h1
  refine wpList_plain hgd fun K hK => ?_
  unfold Oper.wp
  simp [execOp, ho, resolve, invoke, builtin, hs, hx, hr, Result.andThen]
  exact hK _ _ (h ao' cap' w' h1 (Keeps.of_grownBy h2 fun k _ e => e))
theorem info_fn : (Tryd.prog.info? 47).map (fun i => (i.zero, i.size, i.bytes)) = some (some (.agg #[.int .i64 0, .slice none 0 0, .int .i64 0, .slice none 0 0]), 4, 64) := by kernel_rfl
/-- A function with the slices of its locals and its instructions. -/
abbrev Fx := FnV × Value × Value
def fxC (g : Fx) : List Value := [.int .i64 g.1.params, g.2.1, .int .i64 g.1.kind, g.2.2]
def fxsC (gs : List Fx) : List Value := gs.flatMap fxC
theorem fxsC_length (gs : List Fx) : (fxsC gs).length = gs.length * 4 := by
  induction gs with
  | nil => rfl
  | cons p ps ih => simp only [fxsC, fxC, List.flatMap_cons, List.length_append, List.length_cons, List.length_nil] at ih ⊢; omega
theorem fxsC_get : ∀ (gs : List Fx) (i j : Nat) (g : Fx) (u : Value), gs[i]? = some g → (fxC g)[j]? = some u → (fxsC gs)[i * 4 + j]? = some u
  | [], _, _, _, _, h, _ => by simp at h
  | y :: l, 0, j, g, u, h, hu => by
    cases h
    have hj := (List.getElem?_eq_some_iff.1 hu).1
    show (fxC y ++ fxsC l)[0 * 4 + j]? = _
    rw [Nat.zero_mul, Nat.zero_add, List.getElem?_append_left hj, hu]
  | y :: l, i + 1, j, g, u, h, hu => by
    have ih := fxsC_get l i j g u (by simpa using h) hu
    show (fxC y ++ fxsC l)[(i + 1) * 4 + j]? = _
    have e : (fxC y).length = 4 := rfl
    rw [List.getElem?_append_right (by rw [e]; omega), e, show (i + 1) * 4 + j - 4 = i * 4 + j by omega, ih]
theorem fxsC_inv : ∀ (gs : List Fx) (k : Nat) (u : Value), (fxsC gs)[k]? = some u → ∃ i j g, k = i * 4 + j ∧ gs[i]? = some g ∧ (fxC g)[j]? = some u
  | [], k, u, h => by simp [fxsC] at h
  | y :: l, k, u, h => by
    have h' : (fxC y ++ fxsC l)[k]? = some u := h
    have e : (fxC y).length = 4 := rfl
    by_cases hk : k < 4
    · rw [List.getElem?_append_left (by rw [e]; exact hk)] at h'
      exact ⟨0, k, y, by omega, rfl, h'⟩
    · rw [List.getElem?_append_right (by rw [e]; omega), e] at h'
      obtain ⟨i, j, g, h1, h2, h3⟩ := fxsC_inv l (k - 4) u h'
      exact ⟨i + 1, j, g, by omega, by simpa using h2, h3⟩
/-- What each of them reads. -/
def FxAt (w : World) (g : Fx) : Prop := IntsAt w g.2.1 g.1.locals ∧ InsAt w g.2.2 g.1.code
theorem FxAt.below {w w' : World} {g : Fx} (h : FxAt w g) (hb : Below w.heap.size w w') : FxAt w' g := ⟨h.1.below hb, h.2.below hb⟩
theorem FxAt.one {w : World} {g : Fx} (h : FxAt w g) : ∀ u ∈ fxC g, u.oneCell' = true := by
  obtain ⟨⟨_, _, _, e1, _⟩, ⟨_, _, _, e2, _⟩⟩ := h
  intro u hu
  unfold fxC at hu
  rw [e1, e2] at hu
  simp at hu
  rcases hu with rfl | rfl | rfl | rfl <;> rfl
/-- The functions of a slice, with their slices. -/
theorem FnsAt.fxs {w : World} {ao : Option Addr} {n cap : Nat} {fs : List FnV} (h : FnsAt w (.slice ao n cap) fs) : ∃ gs : List Fx, gs.map (·.1) = fs ∧ (∀ g ∈ gs, FxAt w g) ∧ (0 < n → ∃ b o, ao = some ⟨b, o, none⟩ ∧ ∀ k u, (fxsC gs)[k]? = some u → w.cell? ⟨b, o + k, none⟩ = some u) := by
  obtain ⟨_, _, _, e, hn, _, _, hx⟩ := h
  cases e
  by_cases h0 : 0 < n
  · obtain ⟨b, o, rfl, hbl, hf⟩ := hx h0
    have key : ∀ i, i < n → ∃ q : Value × Value, w.cell? ⟨b, o + i * 4 + 1, none⟩ = some q.1 ∧ IntsAt w q.1 (fs.getD i default).locals ∧ w.cell? ⟨b, o + i * 4 + 3, none⟩ = some q.2 ∧ InsAt w q.2 (fs.getD i default).code ∧ w.cell? ⟨b, o + i * 4, none⟩ = some (.int .i64 (fs.getD i default).params) ∧ w.cell? ⟨b, o + i * 4 + 2, none⟩ = some (.int .i64 (fs.getD i default).kind) := fun i hi => by
      have hil : i < fs.length := by omega
      obtain ⟨f1, ⟨vl, f2, f3⟩, f4, vc, f5, f6⟩ := hf i _ (List.getElem?_eq_getElem hil)
      rw [List.getD_eq_getElem?_getD, List.getElem?_eq_getElem hil]
      exact ⟨(vl, vc), f2, f3, f5, f6, f1, f4⟩
    obtain ⟨q, hq⟩ := Go.Deep.choose_lt key
    refine ⟨(List.range n).map fun i => (fs.getD i default, (q i).1, (q i).2), ?_, fun g hg => ?_, fun _ => ⟨b, o, rfl, fun k u hk => ?_⟩⟩
    · apply List.ext_getElem
      · simp [hn]
      · intro i h1 h2
        simp [h2]
    · obtain ⟨i, hi, rfl⟩ := List.mem_map.1 hg
      obtain ⟨_, q2, _, q4, _, _⟩ := hq i (List.mem_range.1 hi)
      exact ⟨q2, q4⟩
    · obtain ⟨i, j, g, rfl, h2, h3⟩ := fxsC_inv _ _ _ hk
      rw [List.getElem?_map] at h2
      obtain ⟨i', hi', rfl⟩ := Option.map_eq_some_iff.1 h2
      have hil := (List.getElem?_eq_some_iff.1 hi').1
      rw [List.length_range] at hil
      rw [List.getElem?_range hil] at hi'
      cases hi'
      obtain ⟨q1, _, q3, _, q5, q6⟩ := hq i hil
      rw [← Nat.add_assoc]
      match j, h3 with
      | 0, h3 => cases h3; exact q5
      | 1, h3 => cases h3; exact q1
      | 2, h3 => cases h3; exact q6
      | 3, h3 => cases h3; exact q3
  · obtain rfl : fs = [] := List.eq_nil_of_length_eq_zero (by omega)
    exact ⟨[], rfl, fun g hg => (by cases hg), fun h => absurd h h0⟩
/-- A row of functions of the call's own reads as them. -/
theorem own_fns {w : World} {B n : Nat} {v : Value} {gs : List Fx} (h : w.ownsRow B 47 4 v n (fxsC gs)) (hg : ∀ g ∈ gs, FxAt w g) : FnsAt w v (gs.map (·.1)) := by
  have hl := h.1
  rw [fxsC_length] at hl
  have hn : n = gs.length := by omega
  have ho := h
  rcases h.2 with ⟨rfl, h0⟩ | ⟨g, cap, cur, rfl, h3, h4, h5, h6, h7, h8⟩
  · obtain rfl : gs = [] := List.eq_nil_of_length_eq_zero (by omega)
    exact fnsAt_nil w
  · refine ⟨_, _, _, rfl, by rw [List.length_map]; exact hn, h5, h6, fun _ => ⟨g, 0, rfl, (Array.getElem?_eq_some_iff.1 h4).1, fun i f hi => ?_⟩⟩
    rw [List.getElem?_map] at hi
    obtain ⟨x, hx, rfl⟩ := Option.map_eq_some_iff.1 hi
    have c : ∀ j u, (fxC x)[j]? = some u → w.cell? ⟨g, i * 4 + j, none⟩ = some u := fun j u hu => by
      have := World.ownsRow.cells ho (g := g) rfl _ _ (fxsC_get gs i j x u hx hu)
      rwa [addr_add] at this
    obtain ⟨r1, r2⟩ := hg x (List.mem_of_getElem? hx)
    unfold FnAt
    rw [Nat.zero_add]
    exact ⟨c 0 _ rfl, ⟨_, c 1 _ rfl, r1⟩, c 2 _ rfl, _, c 3 _ rfl, r2⟩
theorem own_empty (w : World) (e : TypeId) (size : Nat) : (w.alloc (.cells #[] e)).ownsRow w.heap.size e size (.slice (some ⟨w.heap.size, 0, none⟩) 0 0) 0 [] :=
  ⟨by simp, .inr ⟨w.heap.size, 0, #[], rfl, Nat.le_refl _, heap_alloc_new _ _, Nat.le_refl _, Nat.zero_le _, by simp, by simp⟩⟩
set_option maxRecDepth 100000 in
set_option maxHeartbeats 1600000 in
theorem cloneF_any (ao : Option Addr) (n cap : Nat) (gs : List Fx) (w : World) (hn6 : n ≤ 1000000) (hn : gs.length = n) (hg : ∀ g ∈ gs, FxAt w g) (hc : ∃ b o, ao = some ⟨b, o, none⟩ ∧ ∀ k u, (fxsC gs)[k]? = some u → w.cell? ⟨b, o + k, none⟩ = some u) :
    Calls Tryd.prog 18 #[.slice ao n cap] w fun e w' => ∃ a c, e = .returned (.slice a n c) ∧ w'.ownsRow w.heap.size 47 4 (.slice a n c) n (fxsC gs) ∧ Below w.heap.size w w' := by
  obtain ⟨b, o, rfl, hc⟩ := hc
  have hw1 := (Below.refl w.heap.size w).alloc (Nat.le_refl _) (.cells #[] 47)
  have HOW := Lib.hid (own_empty w 47 4)
  have hcn : ∀ j u, (fxsC gs)[j]? = some u → (w.alloc (.cells #[] 47)).cell? ⟨b, o + j, none⟩ = some u := fun j u hj => (keeps_none hw1).cell_of (hc j u hj) id
  have hone : ∀ u ∈ fxsC gs, u.oneCell' = true := fun u hu => by
    obtain ⟨g, hg1, hg2⟩ := List.mem_flatMap.1 hu
    exact (hg g hg1).one u hg2
  have hnl : (fxsC gs).length = n * 4 := by rw [fxsC_length, hn]
  have HW1 := Lib.hid hw1
  have hB : w.heap.size ≤ (w.alloc (.cells #[] 47)).heap.size := by simp
  have hnil : (binOp .eql 22 (.slice (some ⟨b, o, none⟩) n cap) (.slice none 0 0)).run Tryd.prog w = .ok (.bool false) w := by kernel_rfl
  clear hc hg hn hw1
  go_enter Tryd.func18, Tryd.ntmps18
  go_wp2_with (at_builtin; refine wpList_appendM rfl (.tmp 5) (.tmp 6) 22 47 (.agg #[.int .i64 0, .slice none 0 0, .int .i64 0, .slice none 0 0]) 4 64 rfl Tryd.underlying22 info_fn rfl (by decide) (by decide) w.heap.size _ 0 [] (fxsC gs) b o n cap HOW.out (by decide) hn6 hnl hcn hone hB (by simp [Act.eval]) (by simp [Act.eval]) ?_)
  intro ao9 c9 w9 ho9 hk9
  (try rw [Nat.zero_add] at ho9)
  (try rw [List.nil_append] at ho9)
  have HO := Lib.hid ho9
  have HB := Lib.hid (HW1.out.trans (hk9.below hB fun c _ hc => (World.ownsRow.lt HOW.out c hc).1))
  clear ho9 hk9
  go_wp2_with fail
  go_ret
  exact ⟨_, _, rfl, HO.out, HB.out⟩

/-- The program with a function more, as it was made. -/
structure NewP (w0 wx : World) (qb n : Nat) (gl : Int) (aq : Option Addr) (cq : Nat) (gs : List Fx) (fx : Fx) : Prop where
  blk : BlkO wx qb [.int .i64 gl, .slice aq (n + 1) cq]
  row : wx.ownsRow w0.heap.size 47 4 (.slice aq (n + 1) cq) (n + 1) (fxsC gs ++ fxC fx)
  keep : Keeps (fun _ => False) w0 wx
theorem newP_end {w3 W0 W : World} {qb n : Nat} {gl : Int} {aq : Option Addr} {cq : Nat} {gs : List Fx} {fx : Fx} (h30 : Keeps (fun _ => False) w3 W0) (h31 : W0.heap.size = w3.heap.size) (hS : Keeps (fun _ => False) W0 W) (hA : W.ownsRow W0.heap.size 47 4 (.slice aq (n + 1) cq) (n + 1) (fxsC gs ++ fxC fx))
    (hL : BlkO W qb [.int .i64 0, .slice none 0 0]) (hX : ∀ c, (Value.slice aq (n + 1) cq).ownBlock = some c → c ≠ qb) (hQ : W0.heap.size ≤ qb) :
    ∃ qb' aq' cq', (Value.pointer (some ⟨qb, 0, none⟩)) = .pointer (some ⟨qb', 0, none⟩) ∧ NewP w3 ((W.setCell ⟨qb, 0, none⟩ (.int .i64 gl)).setCell ⟨qb, 1, none⟩ (.slice aq (n + 1) cq)) qb' n gl aq' cq' gs fx := by
  have hks := (own_set W qb 0 (.int .i64 gl)).trans (own_set _ qb 1 (.slice aq (n + 1) cq))
  rw [h31] at hA
  exact ⟨_, _, _, rfl, (hL.set 0 (.int .i64 gl) (show 0 < 2 by decide)).set 1 (.slice aq (n + 1) cq) (show 1 < 2 by decide), hks.row hA hX, h30.trans (hS.trans' hks fun c hc e => by omega)⟩
end Go.Proofs.YtlfcfaceeloedaaDoor
