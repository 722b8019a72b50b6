/-
  The walk of the law LexBlind.
-/
import Derived.Test.YtgmdnkhlkabaiaaGreatDoorLexOwn
import Derived.Test.YtgmdnkhlkabaiaaGreatDoorLexM4
import Derived.Test.YtgmdnkhlkabaiaaGreatDoorTellAt
import Derived.Lib.SplitLaws
import Derived.Lib.Replace
namespace Go.Proofs.YtgmdnkhlkabaiaaGreatDoor
open Go.RowKit Lx

/-- All blanks replaced. -/
theorem replace_blind (y : B) : ∀ (s : B) (k : Nat), k = s.count 32 → Go.Lib.replaceK [32] y k s = blindV y s := by
  intro s
  induction s with
  | nil => intro k hk; subst hk; rfl
  | cons b r ih =>
    intro k hk
    by_cases hb : b = 32
    · subst hb
      rw [List.count_cons_self] at hk
      subst hk
      have hi : Go.Lib.index (32 :: r) [32] = ((0 : Nat) : Int) := by rw [Go.Lib.index_one]; rfl
      rw [Go.Lib.replaceK_hit [32] y _ _ 0 hi, blind_32]
      simp only [List.take_zero, List.nil_append, List.length_singleton, Nat.zero_add, List.drop_succ_cons, List.drop_zero]
      rw [ih _ rfl]
    · rw [List.count_cons_of_ne hb] at hk
      rw [blind_cons y r hb]
      cases k with
      | zero =>
        have hn : 32 ∉ r := List.count_eq_zero.1 hk.symm
        rw [blind_none y r hn]; rfl
      | succ k =>
        have h1 := ih (k + 1) hk
        have hc : 0 < Go.Lib.count r [32] := by rw [Go.Lib.count_one]; omega
        obtain ⟨i, hi⟩ := Go.Lib.index_of_count hc
        have hi2 : Go.Lib.index (b :: r) [32] = ((i + 1 : Nat) : Int) := by
          rw [Go.Lib.index_one] at hi ⊢
          have hbe : (b == 32) = false := by simpa using hb
          have hne : (Go.Lib.indexByte r 32 == -1) = false := by rw [beq_eq_false_iff_ne]; omega
          unfold Go.Lib.indexByte
          rw [hbe, hne, hi]
          rfl
        rw [Go.Lib.replaceK_hit [32] y _ _ i hi] at h1
        rw [Go.Lib.replaceK_hit [32] y _ _ (i + 1) hi2, ← h1]
        simp
theorem replaceAll_blind (s y : B) (hy : y ≠ [32]) : Go.Lib.replaceAll s [32] y = blindV y s := by
  unfold Go.Lib.replaceAll Go.Lib.replace Go.Lib.replaceNum
  rw [if_neg (by simpa using Ne.symm hy), if_pos (Or.inl (by decide)), Go.Lib.count_one]
  exact replace_blind y s _ rfl
theorem blind_len (y : B) (m : Nat) (hy : y.length ≤ m) (h1 : 1 ≤ m) : ∀ s : B, (blindV y s).length ≤ m * s.length := by
  intro s
  induction s with
  | nil => simp [blindV]
  | cons b r ih =>
    by_cases hb : b = 32
    · subst hb
      rw [blind_32, List.length_append, List.length_cons, Nat.mul_succ]; omega
    · rw [blind_cons y r hb, List.length_cons, List.length_cons, Nat.mul_succ]; omega

/-- api.Tell tells k of this error, from a world on. -/
def Tells (W : World) (x : Value) (k : Nat) : Prop := ∀ W', Below W.heap.size W W' → ErrT W' → Calls Tryz.prog 14 #[x] W' fun e w' => e = .returned (.int .i64 k) ∧ Below W'.heap.size W' w'
theorem tells_nil (W : World) : Tells W .nilIface 0 := fun W' _ _ => (tell_nil W').mono fun _ _ ⟨h1, h2⟩ => ⟨h1, h2 ▸ Below.refl _ _⟩
theorem tells_errno (W : World) (k : Nat) : Tells W (.iface 24 (.int .i64 k)) k := fun W' _ hE => tell_errno k W' hE
theorem tells_at {W : World} {cb r a : Nat} {x : Value} (h : AtErr W cb x r a) : Tells W x r := by
  obtain ⟨b, rfl, _, h0, _⟩ := h
  intro W' hb hE
  exact tell_at r b W' hE (by rw [hb.cell (p := ⟨b, 0, none⟩) (block_lt_of_cell h0)]; exact h0)
theorem Tells.below {W W' : World} {x : Value} {k : Nat} (h : Tells W x k) (hb : Below W.heap.size W W') : Tells W' x k := fun W2 h2 hE => h W2 (hb.trans (h2.mono hb.size)) hE

/-- What Lex's answer comes to, for what the law asks. -/
theorem lex_parts {w w' : World} {s : ByteArray} {e : Ending} (h : LexSays w w' s e) : ∃ v x, e = .returned (.tuple #[v, x]) ∧
    ((4000 < s.size ∧ v = .slice none 0 0 ∧ Tells w' x 4) ∨ (¬ 4000 < s.size ∧ ∃ ts, lx s.data.toList 0 false = (ts, none) ∧ Tells w' x 0 ∧ w'.ownsRow (w.heap.size + 1) 35 3 v ts.length (cellsT ts)) ∨
     (¬ 4000 < s.size ∧ ∃ ts r a, lx s.data.toList 0 false = (ts, some (r, a)) ∧ v = .slice none 0 0 ∧ Tells w' x r)) := by
  unfold LexSays at h
  by_cases hs : 4000 < s.size
  · rw [if_pos hs] at h
    exact ⟨_, _, h, Or.inl ⟨hs, rfl, tells_errno w' 4⟩⟩
  · rw [if_neg hs] at h
    cases hl : lx s.data.toList 0 false with
    | mk ts er =>
      rw [hl] at h
      cases er with
      | none =>
        obtain ⟨v, he, ho⟩ := h
        exact ⟨v, _, he, Or.inr (Or.inl ⟨hs, ts, rfl, tells_nil w', ho⟩)⟩
      | some p =>
        obtain ⟨r, a⟩ := p
        obtain ⟨x, he, hx⟩ := h
        exact ⟨_, x, he, Or.inr (Or.inr ⟨hs, ts, r, a, rfl, rfl, tells_at hx⟩)⟩

/-- What the two answers come to. -/
def Agree (w4 : World) (lv mv : Value) (k1 k2 : Nat) : Prop :=
  k1 = k2 ∧ ∃ (ts us : List Tok) (ao ao2 : Option Addr) (cap cap2 : Nat), lv = .slice ao ts.length cap ∧ mv = .slice ao2 ts.length cap2 ∧ us.length = ts.length ∧ ts.length ≤ 9223372036854775807 ∧ RowT w4 lv ts ∧ RowT w4 mv us ∧ (∀ (i : Nat) (t : Tok), ts[i]? = some t → ∃ u, us[i]? = some u ∧ u.kind = t.kind ∧ u.text = t.text)
theorem alike_at {ts us : List Tok} (h : ts.map (fun t => (t.kind, t.text)) = us.map fun t => (t.kind, t.text)) : us.length = ts.length ∧ ∀ (i : Nat) (t : Tok), ts[i]? = some t → ∃ u, us[i]? = some u ∧ u.kind = t.kind ∧ u.text = t.text := by
  refine ⟨by have := congrArg List.length h; simpa using this.symm, fun i t ht => ?_⟩
  have := congrArg (fun l => l[i]?) h
  simp only [List.getElem?_map, ht, Option.map_some] at this
  cases hu : us[i]? with
  | none => rw [hu] at this; cases this
  | some u =>
    rw [hu] at this
    simp only [Option.map_some, Option.some.injEq, Prod.mk.injEq] at this
    exact ⟨u, rfl, this.1.symm, this.2.symm⟩
theorem agree_none {w4 : World} {k : Nat} : Agree w4 (.slice none 0 0) (.slice none 0 0) k k :=
  ⟨rfl, [], [], none, none, 0, 0, rfl, rfl, rfl, Nat.zero_le _, Or.inl ⟨rfl, rfl⟩, Or.inl ⟨rfl, rfl⟩, fun i t h => by cases h⟩
theorem blind_key {w1 w2 w3 w4 : World} {s R : ByteArray} {z : B} {e e2 : Ending} (hs : s.size ≤ 1500) (hz : ∀ b ∈ z, isBl b = true) (hz2 : z.length ≤ 2) (hR : R.data.toList = blindV (32 :: z) s.data.toList)
    (h1 : LexSays w1 w2 s e) (hb3 : Below w2.heap.size w2 w3) (hb4 : Below w3.heap.size w3 w4) (h2 : LexSays w3 w4 R e2) :
    ∃ lv x mv y k1 k2, e = .returned (.tuple #[lv, x]) ∧ e2 = .returned (.tuple #[mv, y]) ∧ Tells w4 x k1 ∧ Tells w4 y k2 ∧ ((k1 ≠ k2 ∧ k2 = 4 ∧ 4000 < s.size * 3) ∨ Agree w4 lv mv k1 k2) := by
  obtain ⟨lv, x, rfl, hL⟩ := lex_parts h1
  obtain ⟨mv, y, rfl, hM⟩ := lex_parts h2
  have hb24 : Below w2.heap.size w2 w4 := hb3.trans (hb4.mono hb3.size)
  have hsl : s.data.toList.length = s.size := by simp
  have hrl : R.data.toList.length = R.size := by simp
  have hlen : R.size ≤ 3 * s.size := by
    have := blind_len (32 :: z) 3 (by rw [List.length_cons]; omega) (by decide) s.data.toList
    rw [← hR, hrl, hsl] at this
    exact this
  have hal := lx_blind z hz _ s.data.toList (Nat.le_refl _) 0 0 false
  rw [← hR] at hal
  rcases hL with ⟨h, _⟩ | ⟨_, ts, hl, ht1, ho⟩ | ⟨_, ts, r, a, hl, rfl, ht1⟩
  · omega
  · rcases hM with ⟨hbig, rfl, ht2⟩ | ⟨_, us, hm, ht2, ho2⟩ | ⟨_, us, r, a, hm, rfl, ht2⟩
    · exact ⟨lv, x, _, y, 0, 4, rfl, rfl, ht1.below hb24, ht2, Or.inl ⟨by decide, rfl, by omega⟩⟩
    · rw [hl, hm] at hal
      obtain ⟨g1, g2⟩ := alike_at hal.1
      obtain ⟨ao, cap, e1, hc1, hm1⟩ := own_slice ho
      obtain ⟨ao2, cap2, e2, hc2, hm2⟩ := own_slice ho2
      unfold maxLen at hm1
      rw [g1] at e2
      exact ⟨lv, x, mv, y, 0, 0, rfl, rfl, ht1.below hb24, ht2, Or.inr ⟨rfl, ts, us, ao, ao2, cap, cap2, e1, e2, g1, by omega, (rowT_own ho).below hb24 (Nat.le_refl _), rowT_own ho2, g2⟩⟩
    · rw [hl, hm] at hal
      have := hal.2
      cases this
  · rcases hM with ⟨hbig, rfl, ht2⟩ | ⟨_, us, hm, ht2, ho2⟩ | ⟨_, us, r2, a2, hm, rfl, ht2⟩
    · by_cases hr : r = 4
      · subst hr
        exact ⟨_, x, _, y, 4, 4, rfl, rfl, ht1.below hb24, ht2, Or.inr agree_none⟩
      · exact ⟨_, x, _, y, r, 4, rfl, rfl, ht1.below hb24, ht2, Or.inl ⟨hr, rfl, by omega⟩⟩
    · rw [hl, hm] at hal
      have := hal.2
      cases this
    · rw [hl, hm] at hal
      have hr : r = r2 := by have := hal.2; simpa using this
      subst hr
      exact ⟨_, x, _, y, r, r, rfl, rfl, ht1.below hb24, ht2, Or.inr agree_none⟩

/-- What internal/bytealg.MaxLen holds: some int. -/
def MaxL (w : World) : Prop := ∃ m, w.cell? ⟨4, 0, none⟩ = some (.int .i64 m)
theorem MaxL.below {w w' : World} (h : MaxL w) (hb : Below w.heap.size w w') : MaxL w' := by
  obtain ⟨m, hm⟩ := h
  exact ⟨m, by rw [hb.cell (p := ⟨4, 0, none⟩) (block_lt_of_cell hm)]; exact hm⟩
theorem replaceAll_any (s Y : ByteArray) (z : B) (W : World) (hs : s.size ≤ 1500) (hY : Y.data.toList = 32 :: z) (hz : z ≠ []) (hz2 : z.length ≤ 2) (hM : MaxL W) :
    Calls Tryz.prog 13 #[.string s, .string ⟨#[32]⟩, .string Y] W fun e w' => e = .returned (.string (mkT (blindV (32 :: z) s.data.toList))) ∧ Below W.heap.size W w' := by
  obtain ⟨m, hm⟩ := hM
  have hYs : Y.size ≤ 3 := by
    have : Y.data.toList.length = Y.size := by simp
    rw [hY, List.length_cons] at this; omega
  have hc : Go.Lib.countB s ⟨#[32]⟩ ≤ s.size := Go.Lib.countB_le ⟨#[32]⟩ (by decide) s.size s (Nat.le_refl _)
  have hmul : Go.Lib.countB s ⟨#[32]⟩ * Y.size ≤ 1500 * 3 := Nat.mul_le_mul (by omega) hYs
  refine (Tryz.strings_ReplaceAll s ⟨#[32]⟩ Y m W (by omega) hm (by decide) (by omega)).mono ?_
  rintro e w' ⟨rfl, hb⟩
  refine ⟨?_, hb⟩
  have h2 := replaceAll_blind s.data.toList (32 :: z) (by intro e; injection e with _ e2; exact hz e2)
  rw [hY, show (⟨#[32]⟩ : ByteArray).data.toList = [32] from rfl, h2]
  rfl

set_option maxRecDepth 100000 in
set_option maxHeartbeats 25600000 in
theorem lexBlind_any (s : ByteArray) (tabs : Bool) (w : World) (_hs : s.size ≤ maxLen) (hE : LexEnv w.heap.size w) (hT : ErrT w) (hM : MaxL w) :
    Calls Tryz.prog 4 #[.string s, .bool tabs] w fun e w' => e = .returned (.bool true) ∧ Below w.heap.size w w' := by
  have HE := Lib.hid hE
  have HT := Lib.hid hT
  have HM := Lib.hid hM
  have hlt : 0 < w.heap.size := block_lt_of_cell hT
  have HLT := Lib.hid hlt
  clear hE hT hM hlt
  by_cases hs : 1500 < s.size
  · have hd : decide (1500 < s.size) = true := by simpa using hs
    have HLG := fun w => long_any s w
    rw [hd] at HLG
    go_enter Tryz.func4, Tryz.ntmps4
    go_wp2_with (first | (go_at_call 11; refine (cutUp_any _ HE.out).mono ?_; rintro e w1 ⟨rfl, hb1⟩) | (go_at_call 12; refine (HLG _).mono ?_; rintro e w2 ⟨rfl, rfl⟩))
    go_ret
    exact ⟨rfl, hb1⟩
  · have hd : decide (1500 < s.size) = false := by simpa using hs
    have HLG := fun w => long_any s w
    rw [hd] at HLG
    have hs4 : s.size ≤ 1500 := by omega
    clear hs hd
    cases tabs
    · go_enter Tryz.func4, Tryz.ntmps4
      go_wp2_with (first | (go_at_call 11; refine (cutUp_any _ HE.out).mono ?_; rintro e w1 ⟨rfl, hb1⟩) | (go_at_call 12; refine (HLG _).mono ?_; rintro e w2 ⟨rfl, rfl⟩))
      have HB1 := Lib.hid hb1
      have HE1 : Hid (LexEnv w1.heap.size w1) := Lib.hid ((HE.out.below hb1 (Nat.le_refl _)).mono hb1.size)
      have HM1 : Hid (MaxL w1) := Lib.hid (HM.out.below hb1)
      clear hb1 HLG
      refine (lex_any s w1 HE1.out).mono ?_
      rintro e w2 ⟨hsay, hb2⟩
      have HB2 := Lib.hid hb2
      have HE2 : Hid (LexEnv w2.heap.size w2) := Lib.hid ((HE1.out.below hb2 (Nat.le_refl _)).mono hb2.size)
      have HM2 : Hid (MaxL w2) := Lib.hid (HM1.out.below hb2)
      have HSAY := Lib.hid hsay
      obtain ⟨lv, x, rfl, _⟩ := lex_parts hsay
      clear hsay hb2
      go_wp2_with (go_at_call 13; refine (replaceAll_any s ⟨#[32, 32]⟩ [32] _ hs4 rfl (by decide) (by decide) HM2.out).mono ?_; rintro e w3 ⟨rfl, hb3⟩)
      obtain ⟨R, hR⟩ : ∃ R, R = mkT (blindV (32 :: [32]) s.data.toList) := ⟨_, rfl⟩
      rw [← hR]
      have HRL : Hid (R.data.toList = blindV (32 :: [32]) s.data.toList) := Lib.hid (by rw [hR]; rfl)
      have HB3 := Lib.hid hb3
      clear hR hb3
      refine (lex_any R w3 ((HE2.out.below HB3.out (Nat.le_refl _)).mono HB3.out.size)).mono ?_
      rintro e w4 ⟨hsay2, hb4⟩
      obtain ⟨lv2, x2, mv, y, k1, k2, he1, rfl, ht1, ht2, hkey⟩ := blind_key (z := [32]) hs4 (by decide) (by decide) HRL.out HSAY.out HB3.out hb4 hsay2
      injection he1 with he1
      injection he1 with he1
      have e1 := congrArg (·[0]?) he1
      have e2 := congrArg (·[1]?) he1
      simp at e1 e2
      subst e1
      subst e2
      have HB4 : Hid (Below w.heap.size w w4) := Lib.hid (HB1.out.trans ((HB2.out.trans ((HB3.out.trans (hb4.mono HB3.out.size)).mono HB2.out.size)).mono HB1.out.size))
      have T1 := Lib.hid ht1
      have T2 := Lib.hid ht2
      have HT4 : Hid (ErrT w4) := Lib.hid (HT.out.below HB4.out HLT.out)
      have HSZ : Hid (w.heap.size ≤ w4.heap.size) := Lib.hid HB4.out.size
      clear he1 hb4 hsay2 ht1 ht2 HSAY
      rcases hkey with ⟨hk, rfl, h3⟩ | ⟨rfl, ts, us, ao, ao2, cap, cap2, rfl, rfl, hul, htl, hr1, hr2, hat⟩
      · have hki : ¬ ((k1 : Int) = 4) := by omega
        have h3i : (4000 : Int) < (s.size : Int) * 3 := by omega
        go_wp2_with fail
        refine (T1.out w4 (Below.refl _ _) HT4.out).mono ?_
        rintro e w5 ⟨rfl, hb5⟩
        have HT5 : Hid (ErrT w5) := Lib.hid (HT4.out.below hb5 (Nat.lt_of_lt_of_le HLT.out HSZ.out))
        go_wp2_with fail
        refine (T2.out w5 hb5 HT5.out).mono ?_
        rintro e w6 ⟨rfl, hb6⟩
        have hb46 := hb5.trans (hb6.mono hb5.size)
        have HT6 : Hid (ErrT w6) := Lib.hid (HT4.out.below hb46 (Nat.lt_of_lt_of_le HLT.out HSZ.out))
        go_wp2_with fail
        refine (T2.out w6 hb46 HT6.out).mono ?_
        rintro e w7 ⟨rfl, hb7⟩
        go_wp2_with fail
        go_ret
        exact ⟨rfl, HB4.out.trans ((hb46.trans (hb7.mono hb46.size)).mono HSZ.out)⟩
      · have HR1 := Lib.hid hr1
        have HR2 := Lib.hid hr2
        have HAT := Lib.hid hat
        have HUL := Lib.hid hul
        have HTL := Lib.hid htl
        clear hr1 hr2 hat hul htl
        go_wp2_with fail
        refine (T1.out w4 (Below.refl _ _) HT4.out).mono ?_
        rintro e w5 ⟨rfl, hb5⟩
        have HT5 : Hid (ErrT w5) := Lib.hid (HT4.out.below hb5 (Nat.lt_of_lt_of_le HLT.out HSZ.out))
        go_wp2_with fail
        refine (T2.out w5 hb5 HT5.out).mono ?_
        rintro e w6 ⟨rfl, hb6⟩
        have hb46 := hb5.trans (hb6.mono hb5.size)
        have HB46 := Lib.hid hb46
        have HQ1 : Hid (RowT w6 (.slice ao ts.length cap) ts) := Lib.hid (HR1.out.below hb46 (Nat.le_refl _))
        have HQ2 : Hid (RowT w6 (.slice ao2 ts.length cap2) us) := Lib.hid (HR2.out.below hb46 (Nat.le_refl _))
        clear hb5 hb6 hb46
        go_wp2_with fail
        go_loopw [10] (fun iv wx => ∃ k : Nat, k ≤ ts.length ∧ iv = .int .i64 k ∧ ∃ q, wx = w6.drewN q) (fun iv _ => ts.length - (intOf iv).toNat)
        case atStart => exact ⟨0, Nat.zero_le _, rfl, 0, rfl⟩
        case round =>
          obtain ⟨k, hk, rfl, q, rfl⟩ := hrel
          by_cases hlt : k < ts.length
          · obtain ⟨t, hkt⟩ : ∃ t, ts[k]? = some t := ⟨_, List.getElem?_eq_getElem hlt⟩
            obtain ⟨u, hku, hk1, hk2⟩ := HAT.out k t hkt
            rcases HQ2.out with ⟨_, h⟩ | ⟨g4, cap4', e4, _, _, hg4, hcells4⟩
            · have h2 := HUL.out
              rw [h] at h2
              simp only [List.length_nil] at h2
              omega
            rcases HQ1.out with ⟨_, h⟩ | ⟨g1, cap1', e1, _, _, hg1, hcells1⟩
            · rw [h] at hlt; exact absurd hlt (Nat.not_lt_zero _)
            injection e4 with e41 e42 e43
            injection e1 with e11 e12 e13
            subst e41
            subst e11
            obtain ⟨a0, a1, _⟩ := hcells4 k u hku
            obtain ⟨b0, b1, _⟩ := hcells1 k t hkt
            rw [hk1] at a0
            rw [hk2] at a1
            clear hcells1 hcells4 e42 e12 e43 e13 hk1 hk2 hku hkt
            generalize mkT t.text = S at *
            generalize t.kind = K at *
            have htl := HTL.out
            have hki : (k : Int) < (ts.length : Int) := by omega
            have hkii : (0 : Int) ≤ (k : Int) ∧ (k : Int) < (ts.length : Int) := by omega
            go_wp2_with fail
            go_quiet (fail)
            go_wp2_with fail
            go_roundw
            case rel => exact ⟨k + 1, by omega, by go_num, _, rfl⟩
            case measure => simp [intOf]; omega
          · obtain rfl : k = ts.length := by omega
            have hki : ¬ (ts.length : Int) < (ts.length : Int) := by omega
            go_wp2_with fail
            go_ret
            exact ⟨rfl, below_drewNs (HB4.out.trans (HB46.out.mono HSZ.out)) _⟩
    · go_enter Tryz.func4, Tryz.ntmps4
      go_wp2_with (first | (go_at_call 11; refine (cutUp_any _ HE.out).mono ?_; rintro e w1 ⟨rfl, hb1⟩) | (go_at_call 12; refine (HLG _).mono ?_; rintro e w2 ⟨rfl, rfl⟩))
      have HB1 := Lib.hid hb1
      have HE1 : Hid (LexEnv w1.heap.size w1) := Lib.hid ((HE.out.below hb1 (Nat.le_refl _)).mono hb1.size)
      have HM1 : Hid (MaxL w1) := Lib.hid (HM.out.below hb1)
      clear hb1 HLG
      refine (lex_any s w1 HE1.out).mono ?_
      rintro e w2 ⟨hsay, hb2⟩
      have HB2 := Lib.hid hb2
      have HE2 : Hid (LexEnv w2.heap.size w2) := Lib.hid ((HE1.out.below hb2 (Nat.le_refl _)).mono hb2.size)
      have HM2 : Hid (MaxL w2) := Lib.hid (HM1.out.below hb2)
      have HSAY := Lib.hid hsay
      obtain ⟨lv, x, rfl, _⟩ := lex_parts hsay
      clear hsay hb2
      go_wp2_with (go_at_call 13; refine (replaceAll_any s ⟨#[32, 9, 13]⟩ [9, 13] _ hs4 rfl (by decide) (by decide) HM2.out).mono ?_; rintro e w3 ⟨rfl, hb3⟩)
      obtain ⟨R, hR⟩ : ∃ R, R = mkT (blindV (32 :: [9, 13]) s.data.toList) := ⟨_, rfl⟩
      rw [← hR]
      have HRL : Hid (R.data.toList = blindV (32 :: [9, 13]) s.data.toList) := Lib.hid (by rw [hR]; rfl)
      have HB3 := Lib.hid hb3
      clear hR hb3
      refine (lex_any R w3 ((HE2.out.below HB3.out (Nat.le_refl _)).mono HB3.out.size)).mono ?_
      rintro e w4 ⟨hsay2, hb4⟩
      obtain ⟨lv2, x2, mv, y, k1, k2, he1, rfl, ht1, ht2, hkey⟩ := blind_key (z := [9, 13]) hs4 (by decide) (by decide) HRL.out HSAY.out HB3.out hb4 hsay2
      injection he1 with he1
      injection he1 with he1
      have e1 := congrArg (·[0]?) he1
      have e2 := congrArg (·[1]?) he1
      simp at e1 e2
      subst e1
      subst e2
      have HB4 : Hid (Below w.heap.size w w4) := Lib.hid (HB1.out.trans ((HB2.out.trans ((HB3.out.trans (hb4.mono HB3.out.size)).mono HB2.out.size)).mono HB1.out.size))
      have T1 := Lib.hid ht1
      have T2 := Lib.hid ht2
      have HT4 : Hid (ErrT w4) := Lib.hid (HT.out.below HB4.out HLT.out)
      have HSZ : Hid (w.heap.size ≤ w4.heap.size) := Lib.hid HB4.out.size
      clear he1 hb4 hsay2 ht1 ht2 HSAY
      rcases hkey with ⟨hk, rfl, h3⟩ | ⟨rfl, ts, us, ao, ao2, cap, cap2, rfl, rfl, hul, htl, hr1, hr2, hat⟩
      · have hki : ¬ ((k1 : Int) = 4) := by omega
        have h3i : (4000 : Int) < (s.size : Int) * 3 := by omega
        go_wp2_with fail
        refine (T1.out w4 (Below.refl _ _) HT4.out).mono ?_
        rintro e w5 ⟨rfl, hb5⟩
        have HT5 : Hid (ErrT w5) := Lib.hid (HT4.out.below hb5 (Nat.lt_of_lt_of_le HLT.out HSZ.out))
        go_wp2_with fail
        refine (T2.out w5 hb5 HT5.out).mono ?_
        rintro e w6 ⟨rfl, hb6⟩
        have hb46 := hb5.trans (hb6.mono hb5.size)
        have HT6 : Hid (ErrT w6) := Lib.hid (HT4.out.below hb46 (Nat.lt_of_lt_of_le HLT.out HSZ.out))
        go_wp2_with fail
        refine (T2.out w6 hb46 HT6.out).mono ?_
        rintro e w7 ⟨rfl, hb7⟩
        go_wp2_with fail
        go_ret
        exact ⟨rfl, HB4.out.trans ((hb46.trans (hb7.mono hb46.size)).mono HSZ.out)⟩
      · have HR1 := Lib.hid hr1
        have HR2 := Lib.hid hr2
        have HAT := Lib.hid hat
        have HUL := Lib.hid hul
        have HTL := Lib.hid htl
        clear hr1 hr2 hat hul htl
        go_wp2_with fail
        refine (T1.out w4 (Below.refl _ _) HT4.out).mono ?_
        rintro e w5 ⟨rfl, hb5⟩
        have HT5 : Hid (ErrT w5) := Lib.hid (HT4.out.below hb5 (Nat.lt_of_lt_of_le HLT.out HSZ.out))
        go_wp2_with fail
        refine (T2.out w5 hb5 HT5.out).mono ?_
        rintro e w6 ⟨rfl, hb6⟩
        have hb46 := hb5.trans (hb6.mono hb5.size)
        have HB46 := Lib.hid hb46
        have HQ1 : Hid (RowT w6 (.slice ao ts.length cap) ts) := Lib.hid (HR1.out.below hb46 (Nat.le_refl _))
        have HQ2 : Hid (RowT w6 (.slice ao2 ts.length cap2) us) := Lib.hid (HR2.out.below hb46 (Nat.le_refl _))
        clear hb5 hb6 hb46
        go_wp2_with fail
        go_loopw [10] (fun iv wx => ∃ k : Nat, k ≤ ts.length ∧ iv = .int .i64 k ∧ ∃ q, wx = w6.drewN q) (fun iv _ => ts.length - (intOf iv).toNat)
        case atStart => exact ⟨0, Nat.zero_le _, rfl, 0, rfl⟩
        case round =>
          obtain ⟨k, hk, rfl, q, rfl⟩ := hrel
          by_cases hlt : k < ts.length
          · obtain ⟨t, hkt⟩ : ∃ t, ts[k]? = some t := ⟨_, List.getElem?_eq_getElem hlt⟩
            obtain ⟨u, hku, hk1, hk2⟩ := HAT.out k t hkt
            rcases HQ2.out with ⟨_, h⟩ | ⟨g4, cap4', e4, _, _, hg4, hcells4⟩
            · have h2 := HUL.out
              rw [h] at h2
              simp only [List.length_nil] at h2
              omega
            rcases HQ1.out with ⟨_, h⟩ | ⟨g1, cap1', e1, _, _, hg1, hcells1⟩
            · rw [h] at hlt; exact absurd hlt (Nat.not_lt_zero _)
            injection e4 with e41 e42 e43
            injection e1 with e11 e12 e13
            subst e41
            subst e11
            obtain ⟨a0, a1, _⟩ := hcells4 k u hku
            obtain ⟨b0, b1, _⟩ := hcells1 k t hkt
            rw [hk1] at a0
            rw [hk2] at a1
            clear hcells1 hcells4 e42 e12 e43 e13 hk1 hk2 hku hkt
            generalize mkT t.text = S at *
            generalize t.kind = K at *
            have htl := HTL.out
            have hki : (k : Int) < (ts.length : Int) := by omega
            have hkii : (0 : Int) ≤ (k : Int) ∧ (k : Int) < (ts.length : Int) := by omega
            go_wp2_with fail
            go_quiet (fail)
            go_wp2_with fail
            go_roundw
            case rel => exact ⟨k + 1, by omega, by go_num, _, rfl⟩
            case measure => simp [intOf]; omega
          · obtain rfl : k = ts.length := by omega
            have hki : ¬ (ts.length : Int) < (ts.length : Int) := by omega
            go_wp2_with fail
            go_ret
            exact ⟨rfl, below_drewNs (HB4.out.trans (HB46.out.mono HSZ.out)) _⟩
end Go.Proofs.YtgmdnkhlkabaiaaGreatDoor
