/-
  The walks of package lex, eighth part: cutLine, cut.
-/
import Derived.Test.YthkfdhglgonmnaaGreatDoorLexW7
namespace Go.Proofs.YthkfdhglgonmnaaGreatDoor
open Go.RowKit Lx
variable {w w' : World} {cb a : Nat} {s : ByteArray} {v : Value} {ts : List Tok}

/-- Whether a line may end behind these tokens. -/
def mayL (ts : List Tok) : Bool := match ts.getLast? with
  | none => false
  | some t => mayV t.kind t.text
theorem mayL_nil : mayL [] = false := rfl
theorem mayL_snoc (ts : List Tok) (t : Tok) : mayL (ts ++ [t]) = mayV t.kind t.text := by simp [mayL]
theorem cellsT_at : ∀ (ts : List Tok) (i : Nat) (t : Tok), ts[i]? = some t → (cellsT ts)[i * 3]? = some (.int .i64 t.kind) ∧ (cellsT ts)[i * 3 + 1]? = some (.string (mkT t.text)) ∧ (cellsT ts)[i * 3 + 2]? = some (.int .i64 t.at_) := by
  intro ts
  induction ts with
  | nil => intro i t h; cases h
  | cons p ps ih =>
    intro i t h
    have e : cellsT (p :: ps) = .int .i64 p.kind :: .string (mkT p.text) :: .int .i64 p.at_ :: cellsT ps := rfl
    cases i with
    | zero => cases h; exact ⟨rfl, rfl, rfl⟩
    | succ i =>
      have := ih i t (by simpa using h)
      rw [e, show (i + 1) * 3 = i * 3 + 1 + 1 + 1 by omega, show i * 3 + 1 + 1 + 1 + 1 = (i * 3 + 1) + 1 + 1 + 1 by omega, show i * 3 + 1 + 1 + 1 + 2 = (i * 3 + 2) + 1 + 1 + 1 by omega]
      simp only [List.getElem?_cons_succ]
      exact this
/-- The cells of a token in a row of the call's own. -/
theorem own_cells {w : World} {base g n cap : Nat} {ts : List Tok} (h : w.ownsRow base 35 3 (.slice (some ⟨g, 0, none⟩) n cap) n (cellsT ts)) (i : Nat) (t : Tok) (hi : ts[i]? = some t) :
    w.cell? ⟨g, i * 3, none⟩ = some (.int .i64 t.kind) ∧ w.cell? ⟨g, i * 3 + 1, none⟩ = some (.string (mkT t.text)) ∧ w.cell? ⟨g, i * 3 + 2, none⟩ = some (.int .i64 t.at_) := by
  have hl : ts.length = n := by have := h.1; rw [cellsT_length] at this; omega
  have hin : i < ts.length := (List.getElem?_eq_some_iff.1 hi).1
  rcases h.2 with ⟨e, _⟩ | ⟨g', cap', cur, e, _, hg, _, _, _, htake⟩
  · cases e
  · cases e
    obtain ⟨g1, g2, g3⟩ := cellsT_at ts i t hi
    rw [cell_of_row _ _ _ _ _ _ hg, cell_of_row _ _ _ _ _ _ hg, cell_of_row _ _ _ _ _ _ hg]
    rw [← htake] at g1 g2 g3
    rw [List.getElem?_take, if_pos (by omega)] at g1 g2 g3
    exact ⟨by simpa using g1, by simpa using g2, by simpa using g3⟩

theorem below_drewNs {B : Nat} {a w : World} (h : Below B a w) (n : Nat) : Below B a (w.drewN n) := ⟨h.os, h.tape, h.output, h.size, h.block⟩
/-- What a line's end comes to. -/
def lineToks (ts : List Tok) (l : B) (a : Nat) : List Tok := if mayL ts then ts ++ [⟨5, l, a⟩] else ts

set_option maxRecDepth 100000 in
set_option maxHeartbeats 6400000 in
theorem cutLine_any (n : Nat) (w : World) (h : CutAt w cb s a v ts) (ha : a + n ≤ s.size) (hs : s.size ≤ 4000) (hl : ts.length ≤ 5000) :
    Calls Tryz.prog 36 #[.pointer (some ⟨cb, 0, none⟩), .int .i64 n] w fun e w' => e = .returned (.tuple #[]) ∧ ∃ v', CutAt w' cb s (a + n) v' (lineToks ts ((rs s a).take n) a) ∧ Below cb w w' := by
  have H0 := Lib.hid h
  have c1 := h.c1
  have z1 := h.z1
  have c2 := h.c2
  have hcb := h.lt
  have hor : ts = [] ∨ ∃ ini t, ts = ini ++ [t] := by
    rcases List.eq_nil_or_concat ts with h | ⟨ini, t, h⟩
    · exact Or.inl h
    · exact Or.inr ⟨ini, t, by rw [h, List.concat_eq_append]⟩
  rcases hor with rfl | ⟨ini, t, rfl⟩
  · have hv : ∃ ao cap, v = .slice ao 0 cap := by
      rcases h.own.2 with ⟨rfl, _⟩ | ⟨g, cap, cur, rfl, _⟩
      · exact ⟨_, _, rfl⟩
      · exact ⟨_, _, rfl⟩
    obtain ⟨ao, cap, rfl⟩ := hv
    have LT : Hid (lineToks [] ((rs s a).take n) a = []) := Lib.hid rfl
    clear h
    go_enter Tryz.func36, Tryz.ntmps36
    go_wp2_with fail
    go_quiet (fail)
    go_wp2_with fail
    try simp only [Exit.inBlock, Exit.then]
    refine bodyPost_ret (results_none rfl _ _ _) rfl ?_
    rw [LT.out]
    exact ⟨rfl, _, (H0.out.drewN _).set1 (a + n), Below.setCell (p := ⟨cb, 1, none⟩) (below_drewNs (Below.refl _ _) _) (Nat.le_refl _) _⟩
  · have hv : ∃ g cap, v = .slice (some ⟨g, 0, none⟩) (ini.length + 1) cap ∧ ini.length + 1 ≤ cap ∧ cap ≤ maxLen := by
      rcases h.own.2 with ⟨rfl, h0⟩ | ⟨g, cap, cur, rfl, _, _, h1, h2, _⟩
      · rw [List.length_append] at h0; simp at h0
      · rw [List.length_append] at h1 ⊢
        exact ⟨_, _, rfl, h1, h2⟩
    obtain ⟨g, cap, rfl, hcap, hmx⟩ := hv
    have hown := h.own
    rw [List.length_append] at hown
    obtain ⟨d0, d1, d2⟩ := own_cells (n := ini.length + 1) hown ini.length t (by rw [List.getElem?_append_right (Nat.le_refl _), Nat.sub_self]; rfl)
    have LT : Hid (lineToks (ini ++ [t]) ((rs s a).take n) a = if mayV t.kind t.text then ini ++ [t] ++ [⟨5, (rs s a).take n, a⟩] else ini ++ [t]) := Lib.hid (by unfold lineToks; rw [mayL_snoc])
    have ME : Hid (∀ W, Calls Tryz.prog 68 #[.agg #[.int .i64 t.kind, .string (mkT t.text), .int .i64 t.at_]] W fun e w' => e = .returned (.bool (mayV t.kind t.text)) ∧ Below W.heap.size W w') := Lib.hid fun W => mayEnd_any t.kind (mkT t.text) t.at_ W
    have hmi : ini.length ≤ 5000 := by rw [List.length_append] at hl; simp at hl; omega
    have hii : (0 : Int) ≤ (ini.length : Int) ∧ (ini.length : Int) < (ini.length : Int) + 1 := by omega
    have hwr : IntKind.i64.wrap (ini.length : Int) = (ini.length : Int) := IntWalk.i64_in _ (by omega)
    clear h hown
    go_enter Tryz.func36, Tryz.ntmps36
    go_wp2_with fail
    go_still_tail 19, (by kernel_rfl)
    change wpList _ _ _ _ _ w.drew
    generalize mayV t.kind t.text = b at *
    cases b with
    | false =>
      go_wp2_with (go_at_call 68; refine (ME.out _).mono ?_; rintro e w1 ⟨rfl, hb1⟩; have H1 := Lib.hid ((H0.out.drewN 1).fresh hb1); have c1 := H1.out.c1; have z1 := H1.out.z1)
      try simp only [Exit.inBlock, Exit.then]
      refine bodyPost_ret (results_none rfl _ _ _) rfl ?_
      rw [LT.out]
      have hB1 : Below cb w w1 := ⟨hb1.os, hb1.tape, hb1.output, hb1.size, fun k hk => hb1.block k (Nat.lt_trans hk hcb)⟩
      exact ⟨rfl, _, H1.out.set1 (a + n), Below.setCell (p := ⟨cb, 1, none⟩) hB1 (Nat.le_refl _) _⟩
    | true =>
      go_wp2_with (first | (go_at_call 68; refine (ME.out _).mono ?_; rintro e w1 ⟨rfl, hb1⟩; have H1 := Lib.hid ((H0.out.drewN 1).fresh hb1)) | (go_at_call 62; refine (take_any 5 n _ H1.out ha hs hl).mono ?_; rintro e w2 ⟨rfl, v', hv', hb2⟩))
      go_end0
      rw [LT.out]
      have hB1 : Below cb w w1 := ⟨hb1.os, hb1.tape, hb1.output, hb1.size, fun k hk => hb1.block k (Nat.lt_trans hk hcb)⟩
      exact ⟨rfl, _, hv', hB1.trans hb2⟩

/-- What one cut comes to, beside the text's tokens. -/
def CutGoes (w' : World) (cb : Nat) (s : ByteArray) (a : Nat) (ts : List Tok) (e : Ending) : Prop :=
  (∃ a' v' new, e = .returned .nilIface ∧ CutAt w' cb s a' v' (ts ++ new) ∧ a < a' ∧ a' ≤ s.size ∧ new.length ≤ 1 ∧
    lx (rs s a) a (mayL ts) = (new ++ (lx (rs s a') a' (mayL (ts ++ new))).1, (lx (rs s a') a' (mayL (ts ++ new))).2)) ∨
  (∃ r x, e = .returned x ∧ AtErr w' cb x r a ∧ lx (rs s a) a (mayL ts) = ([], some (r, a)))
theorem goes_tok {e : Ending} {k n : Nat} {v' : Value} (hne : rs s a ≠ []) (hst : stepV (rs s a) (mayL ts) = .cut (.tok k n)) (he : e = .returned .nilIface) (hc : CutAt w' cb s (a + n) v' (ts ++ [⟨k, (rs s a).take n, a⟩])) : CutGoes w' cb s a ts e := by
  obtain ⟨h1, h2, _⟩ := step_tok hne hst
  rw [rs_length] at h2
  refine Or.inl ⟨a + n, v', _, he, hc, by omega, by omega, by simp, ?_⟩
  rw [lx_tok hne hst, mayL_snoc, rs_drop]
  rfl
theorem goes_says {e : Ending} {c : Cut} (hne : rs s a ≠ []) (hst : stepV (rs s a) (mayL ts) = .cut c) (h : CutSays w' cb s a ts e c) : CutGoes w' cb s a ts e := by
  cases c with
  | tok k n =>
    obtain ⟨he, v', hc⟩ := h
    exact goes_tok hne hst he hc
  | err r =>
    obtain ⟨x, he, hx⟩ := h
    exact Or.inr ⟨r, x, he, hx, lx_err hne hst a⟩
theorem says_ret {e : Ending} {c : Cut} (h : CutSays w' cb s a ts e c) : ∃ x, e = .returned x := by
  cases c with
  | tok k n => exact ⟨_, h.1⟩
  | err r => obtain ⟨x, hx, _⟩ := h; exact ⟨x, hx⟩
theorem goes_line {e : Ending} {v' : Value} {r : B} (hr : rs s a = 10 :: r) (he : e = .returned .nilIface) (hc : CutAt w' cb s (a + 1) v' (lineToks ts ((rs s a).take 1) a)) : CutGoes w' cb s a ts e := by
  have hne : rs s a ≠ [] := by rw [hr]; simp
  have hst : stepV (rs s a) (mayL ts) = if mayL ts then .cut (.tok 5 1) else .skip 1 := by
    rw [hr, stepV_cons, if_neg (by decide), if_neg (by simp [List.isPrefixOf]), if_pos rfl]
  unfold lineToks at hc
  cases hm : mayL ts with
  | true =>
    rw [hm] at hst hc
    simp only [if_true] at hst hc
    exact goes_tok hne (by rw [hm]; exact hst) he hc
  | false =>
    rw [hm] at hst hc
    simp only [Bool.false_eq_true, if_false] at hst hc
    have hl : 1 ≤ s.size - a := by rw [← rs_length, hr]; simp
    refine Or.inl ⟨a + 1, v', [], he, by rw [List.append_nil]; exact hc, by omega, by omega, by simp, ?_⟩
    rw [List.append_nil, hm, lx_skip hne hst, rs_drop]
    rfl

set_option maxRecDepth 100000 in
set_option maxHeartbeats 6400000 in
theorem cut_any (w : World) (h : CutAt w cb s a v ts) (ha : a < s.size) (hs : s.size ≤ 4000) (hl : ts.length ≤ 5000) (hE : LexEnv cb w) (hS : Stands (rs s a)) :
    Calls Tryz.prog 35 #[.pointer (some ⟨cb, 0, none⟩)] w fun e w' => CutGoes w' cb s a ts e ∧ Below cb w w' := by
  have H0 := Lib.hid h
  have HE := Lib.hid hE
  have c0 := h.c0
  have c1 := h.c1
  have hcb := h.lt
  have hr := rs_cons s a ha
  have hne : rs s a ≠ [] := by rw [hr]; simp
  obtain ⟨g1, g2⟩ := hS _ _ hr
  have HST : Hid (s[a] ≠ 10 → stepV (rs s a) (mayL ts) = .cut (cutV (rs s a))) := Lib.hid fun h10 => by
    rw [hr] at g2 ⊢
    rw [stepV_cons, if_neg (by simp [g1]), if_neg (by simp only [g2]; decide), if_neg h10]
  have HNE := Lib.hid hne
  have HCV : Hid (cutV (rs s a) = if s[a] = 59 then .tok 5 1 else if isDg s[a] then numCut (rs s a) else if 0 < letV (rs s a) then wordCut (rs s a) else sigCut (rs s a)) := Lib.hid (by rw [hr]; rfl)
  have hii : (0 : Int) ≤ (a : Int) ∧ (a : Int) < (s.size : Int) := by omega
  have hi10 : ((s[a].toNat : Int) = 10) ↔ s[a] = 10 := by
    constructor
    · intro e; exact UInt8.toNat_inj.1 (by have : (10 : UInt8).toNat = 10 := rfl; omega)
    · intro e; rw [e]; rfl
  have hi59 : ((s[a].toNat : Int) = 59) ↔ s[a] = 59 := by
    constructor
    · intro e; exact UInt8.toNat_inj.1 (by have : (59 : UInt8).toNat = 59 := rfl; omega)
    · intro e; rw [e]; rfl
  have HRC := Lib.hid hr
  clear h hE hne g1 g2 hS hr
  go_enter Tryz.func35, Tryz.ntmps35
  go_wp2_with fail
  go_quiet (fail)
  have HB : Hid (∀ q w2, Below cb (w.drewN q) w2 → Below cb w w2) := Lib.hid fun q w2 hb => ⟨hb.os, hb.tape, hb.output, hb.size, hb.block⟩
  by_cases h10 : s[a] = 10
  · have hj : (s[a].toNat : Int) = 10 := hi10.2 h10
    have HR10 : Hid (rs s a = 10 :: rs s (a + 1)) := Lib.hid (by rw [HRC.out, h10])
    clear hi10 hi59 h10
    go_wp2_with (go_at_call 36; refine (cutLine_any 1 _ (H0.out.drewN _) (by omega) hs hl).mono ?_; rintro e w1 ⟨rfl, v', hv', hb1⟩)
    go_ret
    exact ⟨goes_line HR10.out rfl hv', HB.out _ _ hb1⟩
  · have hj : ¬ (s[a].toNat : Int) = 10 := fun e => h10 (hi10.1 e)
    have HST2 := Lib.hid (HST.out h10)
    clear hi10 h10
    by_cases h59 : s[a] = 59
    · have hj2 : (s[a].toNat : Int) = 59 := hi59.2 h59
      have HC2 : Hid (cutV (rs s a) = .tok 5 1) := Lib.hid (by rw [HCV.out, if_pos h59])
      clear hi59 h59 hj
      go_wp2_with (go_at_call 62; refine (take_any 5 1 _ (H0.out.drewN _) (by omega) hs hl).mono ?_; rintro e w1 ⟨rfl, v', hv', hb1⟩)
      go_ret
      exact ⟨goes_tok HNE.out (by rw [HST2.out, HC2.out]) rfl hv', HB.out _ _ hb1⟩
    · have hj2 : ¬ (s[a].toNat : Int) = 59 := fun e => h59 (hi59.1 e)
      have HC2 : Hid (cutV (rs s a) = if isDg s[a] then numCut (rs s a) else if 0 < letV (rs s a) then wordCut (rs s a) else sigCut (rs s a)) := Lib.hid (by rw [HCV.out, if_neg h59])
      have HDG := fun w => isDigit_any s[a] w
      clear hi59 h59
      by_cases hd : isDg s[a] = true
      · rw [hd] at HDG
        rw [if_pos hd] at HC2
        go_wp2_with (first | (go_at_call 63; refine (HDG _).mono ?_; rintro e w2 ⟨rfl, rfl⟩) | (go_at_call 64; refine (cutNumber_any _ (H0.out.drewN _) ha hs hl (HE.out.drewN _) hd).mono ?_; rintro e w1 ⟨hsay, hb1⟩; obtain ⟨x, rfl⟩ := says_ret hsay))
        go_ret
        exact ⟨goes_says HNE.out (by rw [HST2.out, HC2.out]) hsay, HB.out _ _ hb1⟩
      · rw [Bool.eq_false_iff.2 hd] at HDG
        rw [if_neg hd] at HC2
        go_wp2_with (go_at_call 63; refine (HDG _).mono ?_; rintro e w2 ⟨rfl, rfl⟩)
        have LT : Hid (∀ W, LexEnv cb W → Calls Tryz.prog 65 #[.string s, .int .i64 a] W fun e w' => e = .returned (.int .i64 (letV (rs s a))) ∧ Below W.heap.size W w') := Lib.hid fun W hW => letter_any s a W (by omega) hW.tabs
        clear HDG HCV hd hj hj2
        generalize hW : w.drewN nq = W at *
        have H1 : Hid (CutAt W cb s a v ts) := Lib.hid (hW ▸ H0.out.drewN nq)
        have HE1 : Hid (LexEnv cb W) := Lib.hid (hW ▸ HE.out.drewN nq)
        have HB1 : Hid (Below cb w W) := Lib.hid (hW ▸ below_drewNs (Below.refl _ _) nq)
        have c0 := H1.out.c0
        have c1 := H1.out.c1
        have hcb1 := H1.out.lt
        clear hW HB
        go_still_tail 8, (by kernel_rfl)
        change wpList _ _ _ _ _ W.drew
        have HS : Hid (∀ w1, Below W.drew.heap.size W.drew w1 → CutAt w1 cb s a v ts ∧ LexEnv cb w1 ∧ Below cb w w1) := Lib.hid fun w1 hb => ⟨(H1.out.drewN 1).fresh hb, (HE1.out.drewN 1).below hb (Nat.le_of_lt hcb1), HB1.out.trans ⟨hb.os, hb.tape, hb.output, hb.size, fun k hk => hb.block k (Nat.lt_trans hk hcb1)⟩⟩
        by_cases hL : 0 < letV (rs s a)
        · rw [if_pos hL] at HC2
          generalize letV (rs s a) = L at *
          have hLi : (0 : Int) < (L : Int) := by omega
          go_wp2_with (first | (go_at_call 65; refine (LT.out _ (HE1.out.drewN 1)).mono ?_; rintro e w1 ⟨rfl, hb1⟩) | (go_at_call 66; refine (cutWord_any _ (HS.out _ hb1).1 ha hs hl (HS.out _ hb1).2.1).mono ?_; rintro e w2 ⟨hsay, hb2⟩; obtain ⟨x, rfl⟩ := says_ret hsay))
          go_ret
          exact ⟨goes_says HNE.out (by rw [HST2.out, HC2.out]) hsay, (HS.out _ hb1).2.2.trans hb2⟩
        · rw [if_neg hL] at HC2
          generalize letV (rs s a) = L at *
          have hLi : ¬ (0 : Int) < (L : Int) := by omega
          go_wp2_with (first | (go_at_call 65; refine (LT.out _ (HE1.out.drewN 1)).mono ?_; rintro e w1 ⟨rfl, hb1⟩) | (go_at_call 67; refine (cutSign_any _ (HS.out _ hb1).1 ha hs hl (HS.out _ hb1).2.1).mono ?_; rintro e w2 ⟨hsay, hb2⟩; obtain ⟨x, rfl⟩ := says_ret hsay))
          go_ret
          exact ⟨goes_says HNE.out (by rw [HST2.out, HC2.out]) hsay, (HS.out _ hb1).2.2.trans hb2⟩
end Go.Proofs.YthkfdhglgonmnaaGreatDoor
