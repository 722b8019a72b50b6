/-
  The walk of the law LexPieces.
-/
import Derived.Test.YtgmdnkhlkabaiaaDoorLexOwn
import Derived.Test.YtgmdnkhlkabaiaaDoorLexM4
import Derived.Maps.AppendAt
namespace Go.Proofs.YtgmdnkhlkabaiaaDoor
open Go.RowKit Lx Go.Maps

set_option maxRecDepth 100000 in
set_option maxHeartbeats 3200000 in
theorem equalT_any (v u : Value) (ts : List Tok) (w : World) (hv : RowT w v ts) (hu : RowT w u ts) :
    Calls Tryd.prog 10 #[v, u] w fun e w' => e = .returned (.bool true) ∧ Below w.heap.size w w' := by
  have e1 : ∃ ao cap, v = .slice ao ts.length cap := by
    rcases hv with ⟨rfl, rfl⟩ | ⟨g, cap, rfl, _⟩
    · exact ⟨_, _, rfl⟩
    · exact ⟨_, _, rfl⟩
  have e2 : ∃ ao cap, u = .slice ao ts.length cap := by
    rcases hu with ⟨rfl, rfl⟩ | ⟨g, cap, rfl, _⟩
    · exact ⟨_, _, rfl⟩
    · exact ⟨_, _, rfl⟩
  obtain ⟨ao, cap, rfl⟩ := e1
  obtain ⟨ao2, cap2, rfl⟩ := e2
  have HV := Lib.hid hv
  have HU := Lib.hid hu
  clear hv hu
  go_enter Tryd.func10, Tryd.ntmps10
  go_wp2_with fail
  go_loopw [13] (fun i wr => ∃ k : Nat, k ≤ ts.length ∧ i = .int .i64 k ∧ ∃ q, wr = w.drewN q) (fun i _ => ts.length - (intOf i).toNat)
  case atStart => exact ⟨0, Nat.zero_le _, rfl, 0, rfl⟩
  case round =>
    obtain ⟨k, hk, rfl, q, rfl⟩ := hrel
    by_cases hkn : k < ts.length
    · obtain ⟨t, hkt⟩ : ∃ t, ts[k]? = some t := ⟨_, List.getElem?_eq_getElem hkn⟩
      rcases HV.out with ⟨_, h⟩ | ⟨g, c, e, h1, h2, _, hcells⟩
      · rw [h] at hkn; exact absurd hkn (Nat.not_lt_zero _)
      rcases HU.out with ⟨_, h⟩ | ⟨g2, c2, e2, h3, h4, _, hcells2⟩
      · rw [h] at hkn; exact absurd hkn (Nat.not_lt_zero _)
      injection e with e1 _ e5
      injection e2 with e3 _ e6
      subst e1
      subst e3
      subst e5
      subst e6
      unfold maxLen at h2 h4
      obtain ⟨a0, a1, a2⟩ := hcells k t hkt
      obtain ⟨b0, b1, b2⟩ := hcells2 k t hkt
      have hi1 : (0 : Int) ≤ (k : Int) ∧ (k : Int) < (ts.length : Int) := by omega
      have hi2 : (k : Int) < (ts.length : Int) := by omega
      clear hcells hcells2 hkt
      generalize t.kind = K at *
      generalize mkT t.text = S at *
      generalize t.at_ = L at *
      go_wp2_with fail
      go_quiet (fail)
      go_wp2_with fail
      go_roundw
      case rel => exact ⟨k + 1, by omega, by go_num, _, rfl⟩
      case measure => simp [intOf]; omega
    · obtain rfl : k = ts.length := by omega
      have hi2 : ¬ (ts.length : Int) < (ts.length : Int) := by omega
      go_wp2_with fail
      go_ret
      exact ⟨rfl, below_drewNs (Below.refl _ _) _⟩

theorem at_le : ∀ (l : B) (a : Nat) (may : Bool) (ts : List Tok), lx l a may = (ts, none) → (∀ t ∈ ts, t.at_ ≤ a + l.length) ∧ ts.length ≤ l.length + 1 := by
  refine lx_induct (fun l a _ ts => (∀ t ∈ ts, t.at_ ≤ a + l.length) ∧ ts.length ≤ l.length + 1) ?_ ?_ ?_
  · intro a may
    cases may <;> simp [endV]
  · intro l a may n ts _ _ h1 h2 _ ih
    rw [List.length_drop] at ih
    exact ⟨fun t ht => by have := ih.1 t ht; omega, by omega⟩
  · intro l a may k n ts _ _ h1 h2 _ ih
    rw [List.length_drop] at ih
    refine ⟨fun t ht => ?_, by rw [List.length_cons]; omega⟩
    rcases List.mem_cons.1 ht with rfl | ht
    · exact Nat.le_add_right _ _
    · have := ih.1 t ht; omega
def fixT (t : Tok) : Tok := if t.text = [] then ⟨t.kind, [10], t.at_⟩ else t
theorem fixL_snoc : ∀ (ini : List Tok) (t : Tok), fixL (ini ++ [t]) = ini ++ [fixT t] := by
  intro ini
  induction ini with
  | nil => intro t; simp only [List.nil_append, fixL, fixT]; split <;> rfl
  | cons p ps ih =>
    intro t
    cases ps with
    | nil =>
      have := ih t
      rw [List.nil_append, List.nil_append] at this
      show p :: fixL [t] = _
      rw [this]; rfl
    | cons q r =>
      have := ih t
      show p :: fixL (q :: r ++ [t]) = _
      rw [this]; rfl
theorem fixL_len (ts : List Tok) : (fixL ts).length = ts.length := by
  rcases List.eq_nil_or_concat ts with rfl | ⟨ini, t, rfl⟩
  · rfl
  · rw [List.concat_eq_append, fixL_snoc]; simp
theorem shiftT_len (d : Nat) (ts : List Tok) : (shiftT d ts).length = ts.length := by simp [shiftT]
theorem shiftT_snoc (d : Nat) (ts : List Tok) (t : Tok) : shiftT d (ts ++ [t]) = shiftT d ts ++ [⟨t.kind, t.text, t.at_ + d⟩] := by simp [shiftT]
theorem tk_snoc {α : Type} {l : List α} {k : Nat} {x : α} (h : l[k]? = some x) : l.take (k + 1) = l.take k ++ [x] := by
  obtain ⟨hk, rfl⟩ := List.getElem?_eq_some_iff.1 h
  exact List.take_succ_eq_append_getElem hk
theorem dr_cons {α : Type} {l : List α} {k : Nat} {x : α} (h : l[k]? = some x) : l.drop k = x :: l.drop (k + 1) := by
  obtain ⟨hk, rfl⟩ := List.getElem?_eq_some_iff.1 h
  exact List.drop_eq_getElem_cons hk
theorem part_at {d : Nat} {ts : List Tok} {k : Nat} (hk : k ≤ ts.length) : (shiftT d (ts.take k) ++ ts.drop k)[k]? = ts[k]? := by
  have hl : (shiftT d (ts.take k)).length = k := by rw [shiftT_len, List.length_take]; omega
  rw [List.getElem?_append_right (by omega), hl, Nat.sub_self, List.getElem?_drop, Nat.add_zero]
theorem part_next {d : Nat} {ts : List Tok} {k : Nat} {t : Tok} (h : ts[k]? = some t) : (shiftT d (ts.take k) ++ ts.drop k).set k ⟨t.kind, t.text, t.at_ + d⟩ = shiftT d (ts.take (k + 1)) ++ ts.drop (k + 1) := by
  have hk : k < ts.length := (List.getElem?_eq_some_iff.1 h).1
  have hl : (shiftT d (ts.take k)).length = k := by rw [shiftT_len, List.length_take]; omega
  rw [dr_cons h, tk_snoc h, shiftT_snoc, List.set_append_right _ _ (by omega), hl, Nat.sub_self, List.append_assoc]
  rfl
theorem own_keep {w w' : World} {base n : Nat} {v : Value} {xs : List Value} {e : TypeId} {row : Option Nat} (h : w.ownsRow base e 3 v n xs) (hg : w.grownBy w' row) (hne : ∀ g, v.ownBlock = some g → row ≠ some g) : w'.ownsRow base e 3 v n xs :=
  ⟨h.1, by
    rcases h.2 with h | ⟨g, cap, cur, rfl, hb, hc, r⟩
    · exact Or.inl h
    · exact Or.inr ⟨g, cap, cur, rfl, hb, by rw [hg.block g (Array.getElem?_eq_some_iff.1 hc).1 (fun e => hne g rfl e.symm)]; exact hc, r⟩⟩

theorem own_below {w w' : World} {base n : Nat} {v : Value} {xs : List Value} {e : TypeId} (h : w.ownsRow base e 3 v n xs) (hb : Below w.heap.size w w') : w'.ownsRow base e 3 v n xs :=
  ⟨h.1, by
    rcases h.2 with h | ⟨g, cap, cur, rfl, hbs, hc, r⟩
    · exact Or.inl h
    · exact Or.inr ⟨g, cap, cur, rfl, hbs, by rw [hb.block g (Array.getElem?_eq_some_iff.1 hc).1]; exact hc, r⟩⟩
theorem own_other {w : World} {base n : Nat} {v : Value} {xs : List Value} {e : TypeId} (h : w.ownsRow base e 3 v n xs) {a : Addr} (hne : ∀ g, v.ownBlock = some g → g ≠ a.block) (u : Value) : (w.setCell a u).ownsRow base e 3 v n xs :=
  ⟨h.1, by
    rcases h.2 with h | ⟨g, cap, cur, rfl, hbs, hc, r⟩
    · exact Or.inl h
    · exact Or.inr ⟨g, cap, cur, rfl, hbs, by rw [Below.heap_setCell _ _ _ _ (hne g rfl)]; exact hc, r⟩⟩
theorem own_lt {w : World} {base n : Nat} {v : Value} {xs : List Value} {e : TypeId} (h : w.ownsRow base e 3 v n xs) : ∀ g, v.ownBlock = some g → base ≤ g ∧ g < w.heap.size := by
  rcases h.2 with ⟨rfl, _⟩ | ⟨g, cap, cur, rfl, hbs, hc, _⟩
  · intro g e; cases e
  · intro g' e
    cases e
    exact ⟨hbs, (Array.getElem?_eq_some_iff.1 hc).1⟩
theorem below_grownT {n : Nat} {a w w' : World} {row : Option Nat} (h : Below n a w) (hg : w.grownBy w' row) (hn : ∀ g, row = some g → n ≤ g) (hs : n ≤ w.heap.size) : Below n a w' :=
  ⟨hg.os.trans h.os, hg.tape.trans h.tape, hg.output.trans h.output, Nat.le_trans h.size hg.size, fun k hk => (hg.block k (by omega) (fun e => by have := hn k e.symm; omega)).trans (h.block k hk)⟩
theorem start_x {W : World} {b1 N cap d : Nat} {ao : Option Addr} {fx ty : List Tok} (h : W.ownsRow b1 30 3 (.slice ao N cap) fx.length (cellsT fx)) (hN : N = fx.length + 0) :
    W.ownsRow b1 30 3 (.slice ao N cap) N (cellsT (fx ++ shiftT d (ty.take 0))) := by
  subst hN
  rw [List.take_zero]
  simpa [shiftT] using h
/-- Both rows, as the last loop finds them. -/
structure Rows2 (W : World) (b1 b2 : Nat) (xv yv : Value) (tx ty : List Tok) : Prop where
  x : W.ownsRow b1 30 3 xv tx.length (cellsT tx)
  y : W.ownsRow b2 30 3 yv ty.length (cellsT ty)
  ne : ∀ g, xv.ownBlock = some g → yv.ownBlock ≠ some g

set_option maxRecDepth 100000 in
set_option maxHeartbeats 12800000 in
theorem lexPieces_any (a b : ByteArray) (w : World) (_ha : a.size ≤ maxLen) (_hb : b.size ≤ maxLen) (hE : LexEnv w.heap.size w) :
    Calls Tryd.prog 5 #[.string a, .string b] w fun e w' => e = .returned (.bool true) ∧ Below w.heap.size w w' := by
  have HE := Lib.hid hE
  clear hE
  by_cases hsa : 1500 < a.size
  · have hd : decide (1500 < a.size) = true := by simpa using hsa
    have HLG := fun w => long_any a w
    rw [hd] at HLG
    go_enter Tryd.func5, Tryd.ntmps5
    go_wp2_with (first | (go_at_call 6; refine (cutUp_any _ HE.out).mono ?_; rintro e w1 ⟨rfl, hb1⟩) | (go_at_call 7; refine (HLG _).mono ?_; rintro e w2 ⟨rfl, rfl⟩))
    go_ret
    exact ⟨rfl, hb1⟩
  by_cases hsb : 1500 < b.size
  · have hd : decide (1500 < a.size) = false := by simpa using hsa
    have hd2 : decide (1500 < b.size) = true := by simpa using hsb
    have HLG := fun w => long_any a w
    have HLG2 := fun w => long_any b w
    rw [hd] at HLG
    rw [hd2] at HLG2
    go_enter Tryd.func5, Tryd.ntmps5
    go_wp2_with (first | (go_at_call 6; refine (cutUp_any _ HE.out).mono ?_; rintro e w1 ⟨rfl, hb1⟩) | (go_at_call 7; refine (HLG _).mono ?_; rintro e w2 ⟨rfl, rfl⟩) | (go_at_call 7; refine (HLG2 _).mono ?_; rintro e w2 ⟨rfl, rfl⟩))
    go_ret
    exact ⟨rfl, hb1⟩
  · have hd : decide (1500 < a.size) = false := by simpa using hsa
    have hd2 : decide (1500 < b.size) = false := by simpa using hsb
    have HLG := fun w => long_any a w
    have HLG2 := fun w => long_any b w
    rw [hd] at HLG
    rw [hd2] at HLG2
    have hsa4 : a.size ≤ 1500 := by omega
    have hsb4 : b.size ≤ 1500 := by omega
    have HNA : Hid (¬ 4000 < a.size) := Lib.hid (by omega)
    have HNB : Hid (¬ 4000 < b.size) := Lib.hid (by omega)
    clear hsa hsb hd hd2
    go_enter Tryd.func5, Tryd.ntmps5
    go_wp2_with (first | (go_at_call 6; refine (cutUp_any _ HE.out).mono ?_; rintro e w1 ⟨rfl, hb1⟩) | (go_at_call 7; refine (HLG _).mono ?_; rintro e w2 ⟨rfl, rfl⟩) | (go_at_call 7; refine (HLG2 _).mono ?_; rintro e w2 ⟨rfl, rfl⟩))
    have HB1 := Lib.hid hb1
    have HE1 : Hid (LexEnv w1.heap.size w1) := Lib.hid ((HE.out.below hb1 (Nat.le_refl _)).mono hb1.size)
    clear hb1 HLG HLG2
    refine (lex_any a w1 HE1.out).mono ?_
    rintro e w2 ⟨hsay, hb2⟩
    have HB2 := Lib.hid hb2
    have HE2 : Hid (LexEnv w2.heap.size w2) := Lib.hid ((HE1.out.below hb2 (Nat.le_refl _)).mono hb2.size)
    unfold LexSays at hsay
    rw [if_neg HNA.out] at hsay
    have hpc := fun q tq hq => lx_pieces q tq hq a.data.toList 0 false
    have hat := at_le a.data.toList 0 false
    clear hb2
    generalize hra : lx a.data.toList 0 false = ra at *
    clear hra
    obtain ⟨tx, era⟩ := ra
    have hv : ∃ xv xe, e = .returned (.tuple #[xv, xe]) ∧ ((era = none ∧ xe = .nilIface ∧ w2.ownsRow (w1.heap.size + 1) 30 3 xv tx.length (cellsT tx)) ∨ (era ≠ none ∧ xv = .slice none 0 0 ∧ ∃ p, xe = .iface 52 p)) := by
      cases era with
      | none => obtain ⟨v, he, ho⟩ := hsay; exact ⟨v, _, he, Or.inl ⟨rfl, rfl, ho⟩⟩
      | some p => obtain ⟨r, q⟩ := p; obtain ⟨x, he, b, hx, _⟩ := hsay; exact ⟨_, x, he, Or.inr ⟨by simp, rfl, _, hx⟩⟩
    clear hsay
    obtain ⟨xv, xe, rfl, hx⟩ := hv
    have HX0 := Lib.hid hx
    have HPC := Lib.hid hpc
    have HAT := Lib.hid hat
    clear hx hpc hat
    go_wp2_with fail
    refine (lex_any b w2 HE2.out).mono ?_
    rintro e w3 ⟨hsay, hb3⟩
    have HB3 := Lib.hid hb3
    have HE3 : Hid (LexEnv w3.heap.size w3) := Lib.hid ((HE2.out.below hb3 (Nat.le_refl _)).mono hb3.size)
    unfold LexSays at hsay
    rw [if_neg HNB.out] at hsay
    have hatb := at_le b.data.toList 0 false
    have HBF : Hid (Below w.heap.size w w3) := Lib.hid (HB1.out.trans ((HB2.out.trans (hb3.mono HB2.out.size)).mono HB1.out.size))
    clear hb3
    generalize hrb : lx b.data.toList 0 false = rb at *
    have HRB := Lib.hid hrb
    clear hrb
    obtain ⟨ty, erb⟩ := rb
    have hv : ∃ yv ye, e = .returned (.tuple #[yv, ye]) ∧ ((erb = none ∧ ye = .nilIface ∧ w3.ownsRow (w2.heap.size + 1) 30 3 yv ty.length (cellsT ty)) ∨ (erb ≠ none ∧ yv = .slice none 0 0 ∧ ∃ p, ye = .iface 52 p)) := by
      cases erb with
      | none => obtain ⟨v, he, ho⟩ := hsay; exact ⟨v, _, he, Or.inl ⟨rfl, rfl, ho⟩⟩
      | some p => obtain ⟨r, q⟩ := p; obtain ⟨x, he, b, hx, _⟩ := hsay; exact ⟨_, x, he, Or.inr ⟨by simp, rfl, _, hx⟩⟩
    clear hsay
    obtain ⟨yv, ye, rfl, hy⟩ := hv
    rcases HX0.out with ⟨rfl, rfl, hox⟩ | ⟨_, rfl, p, rfl⟩
    · rcases hy with ⟨rfl, rfl, hoy⟩ | ⟨_, rfl, p, rfl⟩
      · have hx3 := own_below hox HB3.out
        have hlx := own_lt hox
        have hly := own_lt hoy
        have R3 : Rows2 w3 (w1.heap.size + 1) (w2.heap.size + 1) xv yv tx ty := ⟨hx3, hoy, fun g h1 h2 => by have := (hlx g h1).2; have := (hly g h2).1; omega⟩
        have B3 : Below w1.heap.size w1 w3 := HB2.out.trans (HB3.out.mono HB2.out.size)
        obtain ⟨hatx, hlnx⟩ := HAT.out tx rfl
        obtain ⟨haty, hlny⟩ := hatb ty rfl
        have hla : a.data.toList.length = a.size := by simp
        have hlb : b.data.toList.length = b.size := by simp
        rw [hla] at hlnx
        rw [hlb] at hlny haty
        have HZ : Hid (lx (a ++ ⟨#[10]⟩ ++ b).data.toList 0 false = (fixL tx ++ shiftT (a.size + 1) ty, none)) := Lib.hid (by
          have h1 := HPC.out b.data.toList ty HRB.out tx rfl
          rw [hla, Nat.zero_add] at h1
          rw [← h1]
          simp)
        have HATY := Lib.hid haty
        obtain ⟨bo, cap2, rfl, hcap2, hmx2⟩ := own_slice hoy
        obtain ⟨ao, cap1, rfl, hcap1, hmx1⟩ := own_slice hx3
        unfold maxLen at hmx1 hmx2
        clear hox hx3 hlx hly hoy hatb hatx haty HX0 HAT HPC HRB
        obtain ⟨fx, hfx⟩ : ∃ fx, fx = fixL tx := ⟨_, rfl⟩
        rw [← hfx] at HZ
        have hfl : fx.length = tx.length := by rw [hfx, fixL_len]
        have hor : tx = [] ∨ (∃ ini t, tx = ini ++ [t] ∧ t.text = []) ∨ (∃ ini t, tx = ini ++ [t] ∧ t.text ≠ []) := by
          rcases List.eq_nil_or_concat tx with h | ⟨ini, t, h⟩
          · exact Or.inl h
          · rw [List.concat_eq_append] at h
            by_cases ht : t.text = []
            · exact Or.inr (Or.inl ⟨ini, t, h, ht⟩)
            · exact Or.inr (Or.inr ⟨ini, t, h, ht⟩)
        have HFL : Hid (fx.length ≤ a.size + 1) := Lib.hid (by omega)
        rcases hor with rfl | ⟨ini, t, rfl, ht⟩ | ⟨ini, t, rfl, ht⟩
        all_goals first
          | (have HS : Hid (Rows2 w3 (w1.heap.size + 1) (w2.heap.size + 1) (.slice ao 0 cap1) (.slice bo ty.length cap2) fx ty ∧ Below w1.heap.size w1 w3) := Lib.hid (by rw [hfx]; exact ⟨R3, B3⟩)
             have HN : Hid (0 = fx.length + 0) := Lib.hid (by rw [hfl]; rfl)
             clear R3 B3 hfx hfl hlnx hcap1
             go_wp2_with fail)
          | (have ht' : t.text = [] := ht
             obtain ⟨m, hm⟩ : ∃ m, m = ini.length := ⟨_, rfl⟩
             have hlen : (ini ++ [t]).length = m + 1 := by rw [List.length_append, hm]; rfl
             have hx := R3.x
             rw [hlen] at hx hlnx hcap1 hfl ⊢
             obtain ⟨g, rfl, hbase, hg, _, _, hfr⟩ := own_form hx (by omega)
             have hmt : (ini ++ [t])[m]? = some t := by rw [hm, List.getElem?_append_right (Nat.le_refl _), Nat.sub_self]; rfl
             obtain ⟨c0, c1, c2⟩ := own_cells hx m t hmt
             have z1 := hfr (m * 3 + 1)
             have hem : (mkT t.text).toList.isEmpty = true := by rw [Lib.toList_data, mkT_list, ht]; rfl
             have hem2 : (mkT t.text).toList = [] := by rw [Lib.toList_data, mkT_list, ht]
             have HS : Hid (Rows2 (w3.setCell ⟨g, m * 3 + 1, none⟩ (.string ⟨#[10]⟩)) (w1.heap.size + 1) (w2.heap.size + 1) (.slice (some ⟨g, 0, none⟩) (m + 1) cap1) (.slice bo ty.length cap2) fx ty ∧ Below w1.heap.size w1 (w3.setCell ⟨g, m * 3 + 1, none⟩ (.string ⟨#[10]⟩))) := Lib.hid (by
               have hne := R3.ne
               rw [hlen] at hne
               refine ⟨⟨?_, own_other R3.y (fun q hq e => hne g rfl (by rw [hq, e])) _, hne⟩, B3.setCell (by show w1.heap.size ≤ g; omega) _⟩
               have h2 := own_set hx (off := m * 3 + 1) (.string (mkT [10]))
               rw [cellsT_text _ m t [10] hmt] at h2
               rw [hfl, hfx, fixL_snoc]
               have h3 : (ini ++ [t]).set m ⟨t.kind, [10], t.at_⟩ = ini ++ [fixT t] := by
                 rw [hm, List.set_append_right _ _ (Nat.le_refl _), Nat.sub_self]
                 unfold fixT
                 rw [if_pos ht]; rfl
               rw [h3] at h2
               exact h2)
             have HN : Hid (m + 1 = fx.length + 0) := Lib.hid (by rw [hfl])
             have hii : (0 : Int) ≤ (m : Int) ∧ (m : Int) < (m : Int) + 1 := by omega
             have hwr : IntKind.i64.wrap (m : Int) = (m : Int) := IntWalk.i64_in _ (by omega)
             clear R3 B3 hfx hfl hx hmt hfr hlen hm hlnx ht ht'
             go_wp2_with fail)
          | (obtain ⟨m, hm⟩ : ∃ m, m = ini.length := ⟨_, rfl⟩
             have hlen : (ini ++ [t]).length = m + 1 := by rw [List.length_append, hm]; rfl
             have hx := R3.x
             rw [hlen] at hx hlnx hcap1 hfl ⊢
             obtain ⟨g, rfl, hbase, hg, _, _, hfr⟩ := own_form hx (by omega)
             have hmt : (ini ++ [t])[m]? = some t := by rw [hm, List.getElem?_append_right (Nat.le_refl _), Nat.sub_self]; rfl
             obtain ⟨c0, c1, c2⟩ := own_cells hx m t hmt
             have hem : (mkT t.text).toList.isEmpty = false := by rw [Lib.toList_data, mkT_list, List.isEmpty_eq_false_iff]; exact ht
             have hem2 : ¬ (mkT t.text).toList = [] := by rw [Lib.toList_data, mkT_list]; exact ht
             have HS : Hid (Rows2 w3 (w1.heap.size + 1) (w2.heap.size + 1) (.slice (some ⟨g, 0, none⟩) (m + 1) cap1) (.slice bo ty.length cap2) fx ty ∧ Below w1.heap.size w1 w3) := Lib.hid (by
               have hne := R3.ne
               rw [hlen] at hne
               refine ⟨⟨?_, R3.y, hne⟩, B3⟩
               rw [hfl, hfx, fixL_snoc]
               have h3 : fixT t = t := by unfold fixT; rw [if_neg ht]
               rw [h3]
               exact hx)
             have HN : Hid (m + 1 = fx.length + 0) := Lib.hid (by rw [hfl])
             have hii : (0 : Int) ≤ (m : Int) ∧ (m : Int) < (m : Int) + 1 := by omega
             have hwr : IntKind.i64.wrap (m : Int) = (m : Int) := IntWalk.i64_in _ (by omega)
             clear R3 B3 hfx hfl hx hmt hfr hlen hm hlnx ht
             go_wp2_with fail)
        all_goals
          obtain ⟨i0, hi, hz0, hz1, hz2⟩ := tinfo info_token
          go_loopw [5, 10] (fun xv iv wr => ∃ (k n : Nat) (ao' : Option Addr) (cap' : Nat), k ≤ ty.length ∧ n = fx.length + k ∧ iv = .int .i64 k ∧ xv = .slice ao' n cap' ∧ wr.ownsRow (w1.heap.size + 1) 30 3 (.slice ao' n cap') n (cellsT (fx ++ shiftT (a.size + 1) (ty.take k))) ∧
            wr.ownsRow (w2.heap.size + 1) 30 3 (.slice bo ty.length cap2) ty.length (cellsT (shiftT (a.size + 1) (ty.take k) ++ ty.drop k)) ∧ (∀ g, (Value.slice ao' n cap').ownBlock = some g → (Value.slice bo ty.length cap2).ownBlock ≠ some g) ∧ Below w1.heap.size w1 wr) (fun _ iv _ => ty.length - (intOf iv).toNat)
          case atStart => exact ⟨0, _, _, _, Nat.zero_le _, HN.out, rfl, rfl, start_x HS.out.1.x HN.out, HS.out.1.y, HS.out.1.ne, HS.out.2⟩
          case round =>
            obtain ⟨k, n, ao', cap', hk, hn, rfl, rfl, hox, hoy, hne, hb⟩ := hrel
            have HOX := Lib.hid hox
            have HOY := Lib.hid hoy
            have HNE := Lib.hid hne
            have HB := Lib.hid hb
            have HN2 := Lib.hid hn
            have hn5 : n ≤ 10000 := by have := HFL.out; omega
            clear hox hoy hne hb hn
            by_cases hlt : k < ty.length
            · obtain ⟨u, hku⟩ : ∃ u, ty[k]? = some u := ⟨_, List.getElem?_eq_getElem hlt⟩
              obtain ⟨gy, rfl, hgb, hgy, _, _, hfr⟩ := own_form HOY.out (by omega)
              have hpa := part_at (d := a.size + 1) (Nat.le_of_lt hlt)
              rw [hku] at hpa
              obtain ⟨c0, c1, c2⟩ := own_cells HOY.out k u hpa
              have z2 := hfr (k * 3 + 2)
              have hua : u.at_ ≤ b.size := by have := HATY.out u (List.mem_of_getElem? hku); omega
              have hki : (k : Int) < (ty.length : Int) := by omega
              have hkii : (0 : Int) ≤ (k : Int) ∧ (k : Int) < (ty.length : Int) := by omega
              have HW : Hid ((wr.setCell ⟨gy, k * 3 + 2, none⟩ (.int .i64 ((u.at_ : Int) + ((a.size : Int) + 1)))).ownsRow (w2.heap.size + 1) 30 3 (.slice (some ⟨gy, 0, none⟩) ty.length cap2) ty.length (cellsT (shiftT (a.size + 1) (ty.take (k + 1)) ++ ty.drop (k + 1)))) := Lib.hid (by
                have h2 := own_set HOY.out (off := k * 3 + 2) (.int .i64 ((u.at_ + (a.size + 1) : Nat) : Int))
                rw [cellsT_place _ k u (u.at_ + (a.size + 1)) hpa, part_next hku] at h2
                exact h2)
              have HWX : Hid ((wr.setCell ⟨gy, k * 3 + 2, none⟩ (.int .i64 ((u.at_ : Int) + ((a.size : Int) + 1)))).ownsRow (w1.heap.size + 1) 30 3 (.slice ao' n cap') n (cellsT (fx ++ shiftT (a.size + 1) (ty.take k)))) := Lib.hid (own_other HOX.out (fun q hq e => HNE.out q hq (by rw [e]; rfl)) _)
              have hsn : fx ++ shiftT (a.size + 1) (ty.take (k + 1)) = (fx ++ shiftT (a.size + 1) (ty.take k)) ++ [⟨u.kind, u.text, u.at_ + (a.size + 1)⟩] := by
                rw [tk_snoc hku, shiftT_snoc, List.append_assoc]
              have HSN := Lib.hid hsn
              have hsz : (wr.setCell ⟨gy, k * 3 + 2, none⟩ (.int .i64 ((u.at_ : Int) + ((a.size : Int) + 1)))).heap.size = wr.heap.size := by simp [World.setCell]
              have HSZ := Lib.hid hsz
              have HWS : Hid (w1.heap.size + 1 ≤ wr.heap.size) := Lib.hid (by have := HB2.out.size; omega)
              have HC : Hid (∀ j x, [Value.int .i64 u.kind, Value.string (mkT u.text), Value.int .i64 ((u.at_ : Int) + ((a.size : Int) + 1))][j]? = some x → ((wr.setCell ⟨gy, k * 3 + 2, none⟩ (.int .i64 ((u.at_ : Int) + ((a.size : Int) + 1)))).alloc (.cells #[.int .i64 u.kind, .string (mkT u.text), .int .i64 ((u.at_ : Int) + ((a.size : Int) + 1))] 30)).cell? ((⟨wr.heap.size, 0, none⟩ : Addr).add j) = some x) := Lib.hid (by
                have := cell_three_new (wr.setCell ⟨gy, k * 3 + 2, none⟩ (.int .i64 ((u.at_ : Int) + ((a.size : Int) + 1)))) (.int .i64 u.kind) (.string (mkT u.text)) (.int .i64 ((u.at_ : Int) + ((a.size : Int) + 1))) 30
                rw [hsz] at this
                exact this)
              have H1C : Hid (∀ x ∈ [Value.int .i64 u.kind, Value.string (mkT u.text), Value.int .i64 ((u.at_ : Int) + ((a.size : Int) + 1))], x.oneCell' = true) := Lib.hid (fun x hx => by simp at hx; rcases hx with rfl | rfl | rfl <;> rfl)
              have HWS2 : Hid (w1.heap.size + 1 ≤ ((wr.setCell ⟨gy, k * 3 + 2, none⟩ (.int .i64 ((u.at_ : Int) + ((a.size : Int) + 1)))).alloc (.cells #[.int .i64 u.kind, .string (mkT u.text), .int .i64 ((u.at_ : Int) + ((a.size : Int) + 1))] 30)).heap.size) := Lib.hid (by
                have h1 := HWS.out
                simp [World.setCell]
                omega)
              have HML : Hid (n + 1 ≤ maxLen) := Lib.hid (by unfold maxLen; omega)
              have HBY : Hid ((n + 1) * 32 ≤ 140737488355328) := Lib.hid (by omega)
              clear hfr hpa hku hsn hsz
              go_wp2_with (at_builtin; refine wpList_append_own_at _ rfl _ _ 24 rfl (w1.heap.size + 1) 30 i0 (.agg #[.int .i64 0, .string ByteArray.empty, .int .i64 0]) 3 32 Tryd.underlying24 hi hz0 hz1 hz2 rfl (by decide) _ _ _ rfl (HWX.out.alloc _) ⟨wr.heap.size, 0, none⟩ 1 1 [.int .i64 u.kind, .string (mkT u.text), .int .i64 ((u.at_ : Int) + ((a.size : Int) + 1))] rfl rfl HC.out H1C.out HML.out HBY.out HWS2.out ?_)
              intro v' w5 hown' hgrow _ hnew
              obtain ⟨ao5, cap5, rfl, _, _⟩ := own_slice hown'
              have HO5 := Lib.hid hown'
              have HG5 := Lib.hid hgrow
              have HN5 := Lib.hid hnew
              clear hown' hgrow hnew
              go_wp2_with fail
              go_roundw
              case rel =>
                refine ⟨k + 1, n + 1, ao5, cap5, by omega, by have := HN2.out; omega, by go_num, rfl, ?_, ?_, ?_, ?_⟩
                · rw [HSN.out, ← cellsT_snoc]
                  exact HO5.out
                · exact own_keep (World.ownsRow.alloc HW.out _) HG5.out (fun q hq e => HNE.out q e hq)
                · intro q hq e
                  rcases HN5.out with h | h
                  · rw [h] at hq
                    exact HNE.out q hq e
                  · rw [h] at hq
                    have e2 : gy = q := Option.some.inj e
                    have h8 := HSZ.out
                    have h9 := Option.some.inj hq
                    omega
                · refine below_grownT ((HB.out.setCell (by show w1.heap.size ≤ gy; have := HB2.out.size; omega) _).alloc (by rw [HSZ.out]; have := HWS.out; omega) _) HG5.out (fun q hq => by have := (own_lt HOX.out q hq).1; omega) (by have := HWS2.out; omega)
              case measure => simp [intOf]; omega
            · obtain rfl : k = ty.length := by omega
              have hki : ¬ (ty.length : Int) < (ty.length : Int) := by omega
              have hcs : (a ++ ⟨#[10]⟩ ++ b).size = a.size + 1 + b.size := by simp [ByteArray.size_append]; rfl
              have HNZ : Hid (¬ 4000 < (a ++ ⟨#[10]⟩ ++ b).size) := Lib.hid (by rw [hcs]; omega)
              have LZ : Hid (Calls Tryd.prog 8 #[.string (a ++ ⟨#[10]⟩ ++ b)] wr fun e w' => LexSays wr w' (a ++ ⟨#[10]⟩ ++ b) e ∧ Below wr.heap.size wr w') := Lib.hid (lex_any _ wr ((HE1.out.below HB.out (Nat.le_refl _)).mono HB.out.size))
              have HXT : Hid (wr.ownsRow (w1.heap.size + 1) 30 3 (.slice ao' n cap') n (cellsT (fx ++ shiftT (a.size + 1) ty))) := Lib.hid (by have := HOX.out; rw [List.take_length] at this; exact this)
              have HLL : Hid (n = (fx ++ shiftT (a.size + 1) ty).length) := Lib.hid (by rw [List.length_append, shiftT_len]; exact HN2.out)
              clear hcs
              go_wp2_with fail
              refine LZ.out.mono ?_
              rintro e w6 ⟨hsay, hb6⟩
              unfold LexSays at hsay
              rw [if_neg HNZ.out, HZ.out] at hsay
              obtain ⟨v6, rfl, hown6⟩ := hsay
              have HR6 := Lib.hid (rowT_own hown6)
              have HR5 : Hid (RowT w6 (.slice ao' n cap') (fx ++ shiftT (a.size + 1) ty)) := Lib.hid ((rowT_own (by rw [← HLL.out]; exact HXT.out)).below hb6 (Nat.le_refl _))
              have HBB : Hid (Below w.heap.size w w6) := Lib.hid (HB1.out.trans ((HB.out.trans (hb6.mono HB.out.size)).mono HB1.out.size))
              clear hown6 hb6
              go_wp2_with (go_at_call 10; refine (equalT_any _ _ _ _ HR6.out HR5.out).mono ?_; rintro e w7 ⟨rfl, hb7⟩)
              go_ret
              exact ⟨rfl, HBB.out.trans (hb7.mono HBB.out.size)⟩
      · clear hatb
        go_wp2_with fail
        go_ret
        exact ⟨rfl, HBF.out⟩
    · rcases hy with ⟨rfl, rfl, hoy⟩ | ⟨_, rfl, p2, rfl⟩
      · clear hatb hoy
        go_wp2_with fail
        go_ret
        exact ⟨rfl, HBF.out⟩
      · clear hatb
        go_wp2_with fail
        go_ret
        exact ⟨rfl, HBF.out⟩
end Go.Proofs.YtgmdnkhlkabaiaaDoor
