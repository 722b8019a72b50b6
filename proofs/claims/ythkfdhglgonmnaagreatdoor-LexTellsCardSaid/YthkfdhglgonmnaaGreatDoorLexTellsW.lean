/-
  The walk of the law LexTells.
-/
import Derived.Test.YthkfdhglgonmnaaGreatDoorRefLex7
namespace Go.Proofs.YthkfdhglgonmnaaGreatDoor
open Go.RowKit Lx

set_option maxRecDepth 100000 in
set_option maxHeartbeats 1600000 in
theorem far_any (s : ByteArray) (w : World) : Calls Tryz.prog 9 #[.string s] w fun e w' => ∃ b, e = .returned (.bool b) ∧ w = w' ∧ (b = false → s.size ≤ 4009) := by
  generalize hn : s.size = n
  by_cases h1 : 1200 < n <;> by_cases h2 : n ≤ 4000 <;> by_cases h3 : 4009 < n
  all_goals first | (exfalso; omega) | skip
  all_goals
    have g1 : ((1200 : Int) < (n : Int)) ↔ 1200 < n := by omega
    have g2 : ((n : Int) ≤ 4000) ↔ n ≤ 4000 := by omega
    have g3 : ((4009 : Int) < (n : Int)) ↔ 4009 < n := by omega
    go_enter Tryz.func9, Tryz.ntmps9
    go_wp2_with fail
    go_ret
    exact ⟨_, rfl, rfl, fun h => by first | omega | simp_all⟩

/-- plain.Place tells k, at a, of this error, from a world on. -/
def Places (W : World) (x : Value) (k a : Int) : Prop := ∀ W', Below W.heap.size W W' → ErrT W' → Calls Tryz.prog 37 #[x] W' fun e w' => e = .returned (.tuple #[.int .i64 k, .int .i64 a]) ∧ Below W'.heap.size W' w'
theorem places_nil (W : World) : Places W .nilIface 0 (-1) := fun W' _ _ => (place_nil W').mono fun _ _ ⟨h1, h2⟩ => ⟨h1, h2 ▸ Below.refl _ _⟩
theorem places_errno (W : World) (k : Int) : Places W (.iface 24 (.int .i64 k)) k (-1) := fun W' _ hE => place_errno k W' hE
theorem places_at {W : World} {cb r a : Nat} {x : Value} (h : AtErr W cb x r a) : Places W x r a := by
  obtain ⟨b, rfl, _, h0, h1⟩ := h
  intro W' hb hE
  exact place_at r a b W' hE (by rw [hb.cell (p := ⟨b, 0, none⟩) (block_lt_of_cell h0)]; exact h0) (by rw [hb.cell (p := ⟨b, 1, none⟩) (block_lt_of_cell h1)]; exact h1)

set_option maxRecDepth 100000 in
set_option maxHeartbeats 1600000 in
theorem placed_any (x : Value) (k a : Int) (w : World) (hp : Places w x k a) (hE : ErrT w) : Calls Tryz.prog 12 #[x, .agg #[.int .i64 k, .int .i64 a]] w fun e w' => e = .returned (.bool true) ∧ Below w.heap.size w w' := by
  have HP := Lib.hid hp
  have HE := Lib.hid hE
  have hlt : 1 < w.heap.size := block_lt_of_cell hE
  have HLT := Lib.hid hlt
  clear hp hE hlt
  go_enter Tryz.func12, Tryz.ntmps12
  go_wp2_with fail
  have hb1 : Below w.heap.size w (w.alloc (.cells #[.int .i64 k, .int .i64 a] 26)) := (Below.refl _ _).alloc (Nat.le_refl _) _
  have c0 : (w.alloc (.cells #[.int .i64 k, .int .i64 a] 26)).cell? ⟨w.heap.size, 0, none⟩ = some (.int .i64 k) := by rw [World.cell?_alloc_at _ _ _ _ rfl]; rfl
  have c1 : (w.alloc (.cells #[.int .i64 k, .int .i64 a] 26)).cell? ⟨w.heap.size, 1, none⟩ = some (.int .i64 a) := by rw [World.cell?_alloc_at _ _ _ _ rfl]; rfl
  have HB1 := Lib.hid hb1
  have hsz : (w.alloc (.cells #[.int .i64 k, .int .i64 a] 26)).heap.size = w.heap.size + 1 := by simp
  have HSZ := Lib.hid hsz
  generalize w.alloc (.cells #[.int .i64 k, .int .i64 a] 26) = w1 at *
  refine (HP.out w1 hb1 (HE.out.below hb1 HLT.out)).mono ?_
  rintro e w2 ⟨rfl, hb2⟩
  have d0 : w2.cell? ⟨w.heap.size, 0, none⟩ = some (.int .i64 k) := by rw [hb2.cell (p := ⟨w.heap.size, 0, none⟩) (by rw [hsz]; exact Nat.lt_succ_self _)]; exact c0
  have d1 : w2.cell? ⟨w.heap.size, 1, none⟩ = some (.int .i64 a) := by rw [hb2.cell (p := ⟨w.heap.size, 1, none⟩) (by rw [hsz]; exact Nat.lt_succ_self _)]; exact c1
  have HB2 := Lib.hid (hb1.trans (hb2.mono hb1.size))
  clear hb1 hb2 c0 c1 hsz
  go_wp2_with fail
  go_ret
  exact ⟨rfl, HB2.out⟩

theorem rlex_parts {w w' : World} {s : ByteArray} {e : Ending} (h : RLexSays w w' s e) : ∃ v k a, e = .returned (.tuple #[v, .agg #[.int .i64 k, .int .i64 a]]) := by
  unfold RLexSays at h
  split at h
  · exact ⟨_, _, _, h⟩
  · split at h
    · obtain ⟨v, he, _⟩ := h
      exact ⟨v, _, _, he⟩
    · exact ⟨_, _, _, h⟩
/-- What both tell, side by side. -/
theorem tells_pair {w1 w2 w3 w4 : World} {s : ByteArray} {v1 : Value} {k a : Int} {e : Ending} (h1 : RLexSays w1 w2 s (.returned (.tuple #[v1, .agg #[.int .i64 k, .int .i64 a]])))
    (hb : Below w2.heap.size w2 w3) (h2 : LexSays w3 w4 s e) (hb4 : Below w3.heap.size w3 w4) :
    ∃ (ts : List Tok) (ao ao2 : Option Addr) (cap cap2 : Nat) (y : Value), v1 = .slice ao ts.length cap ∧ e = .returned (.tuple #[.slice ao2 ts.length cap2, y]) ∧ Places w4 y k a ∧ RowT w4 (.slice ao ts.length cap) ts ∧ RowT w4 (.slice ao2 ts.length cap2) ts ∧ ts.length ≤ 9223372036854775807 := by
  unfold RLexSays at h1
  unfold LexSays at h2
  by_cases hs : 4000 < s.size
  · rw [if_pos hs] at h1 h2
    simp only [Ending.returned.injEq, Value.tuple.injEq] at h1
    simp at h1
    obtain ⟨rfl, rfl, rfl⟩ := h1
    exact ⟨[], none, none, 0, 0, _, rfl, h2, places_errno _ _, Or.inl ⟨rfl, rfl⟩, Or.inl ⟨rfl, rfl⟩, Nat.zero_le _⟩
  · rw [if_neg hs] at h1 h2
    cases hl : lx s.data.toList 0 false with
    | mk ts er =>
      rw [hl] at h1 h2
      cases er with
      | none =>
        obtain ⟨v, he, ho⟩ := h1
        obtain ⟨u, he2, ho2⟩ := h2
        simp at he
        obtain ⟨rfl, rfl, rfl⟩ := he
        obtain ⟨ao, cap, rfl, hc1, hm1⟩ := own_slice ho
        obtain ⟨ao2, cap2, rfl, hc2, hm2⟩ := own_slice ho2
        unfold maxLen at hm1
        exact ⟨ts, ao, ao2, cap, cap2, _, rfl, he2, places_nil _, ((rowT_own ho).below hb (Nat.le_refl _)).below hb4 (Nat.le_refl _), rowT_own ho2, by omega⟩
      | some p =>
        obtain ⟨r, a'⟩ := p
        obtain ⟨y, he2, hy⟩ := h2
        simp at h1
        obtain ⟨rfl, rfl, rfl⟩ := h1
        exact ⟨[], none, none, 0, 0, y, rfl, he2, places_at hy, Or.inl ⟨rfl, rfl⟩, Or.inl ⟨rfl, rfl⟩, Nat.zero_le _⟩

set_option maxRecDepth 100000 in
set_option maxHeartbeats 12800000 in
theorem lexTells_any (s : ByteArray) (w : World) (_hs : s.size ≤ maxLen) (hE : LexEnv w.heap.size w) (hT : ErrT w) (hM : MaxL w) :
    Calls Tryz.prog 3 #[.string s] w fun e w' => e = .returned (.bool true) ∧ Below w.heap.size w w' := by
  have HE := Lib.hid hE
  have HT := Lib.hid hT
  have HM := Lib.hid hM
  have hlt : 1 < w.heap.size := block_lt_of_cell hT
  have HLT := Lib.hid hlt
  clear hE hT hM hlt
  go_enter Tryz.func3, Tryz.ntmps3
  go_wp2_with fail
  refine (far_any s w).mono ?_
  rintro e w1 ⟨b, rfl, rfl, hf⟩
  cases b with
  | true =>
    clear hf
    go_wp2_with fail
    go_ret
    exact ⟨rfl, Below.refl _ _⟩
  | false =>
    have hs4 := hf rfl
    clear hf
    go_wp2_with fail
    refine (rLex_any s w HE.out.tabs HM.out).mono ?_
    rintro e w2 ⟨hsay, hb2⟩
    have HSAY := Lib.hid hsay
    obtain ⟨v1, k, a, rfl⟩ := rlex_parts hsay
    have HB2 := Lib.hid hb2
    clear hsay hb2
    go_wp2_with fail
    have HB3 : Hid (Below w2.heap.size w2 (w2.alloc (.cells #[.int .i64 k, .int .i64 a] 26))) := Lib.hid ((Below.refl _ _).alloc (Nat.le_refl _) _)
    have c0 : (w2.alloc (.cells #[.int .i64 k, .int .i64 a] 26)).cell? ⟨w2.heap.size, 0, none⟩ = some (.int .i64 k) := by rw [World.cell?_alloc_at _ _ _ _ rfl]; rfl
    have c1 : (w2.alloc (.cells #[.int .i64 k, .int .i64 a] 26)).cell? ⟨w2.heap.size, 1, none⟩ = some (.int .i64 a) := by rw [World.cell?_alloc_at _ _ _ _ rfl]; rfl
    have HSZ : Hid (w2.heap.size < (w2.alloc (.cells #[.int .i64 k, .int .i64 a] 26)).heap.size) := Lib.hid (by simp)
    generalize w2.alloc (.cells #[.int .i64 k, .int .i64 a] 26) = w3 at *
    have HB03 : Hid (Below w.heap.size w w3) := Lib.hid (HB2.out.trans (HB3.out.mono HB2.out.size))
    have HE3 : Hid (LexEnv w3.heap.size w3) := Lib.hid ((HE.out.below HB03.out (Nat.le_refl _)).mono HB03.out.size)
    refine (lex_any s w3 HE3.out).mono ?_
    rintro e w4 ⟨hsay2, hb4⟩
    obtain ⟨ts, ao, ao2, cap, cap2, y, rfl, rfl, hpl, hr1, hr2, hlen⟩ := tells_pair HSAY.out HB3.out hsay2 hb4
    have d0 : w4.cell? ⟨w2.heap.size, 0, none⟩ = some (.int .i64 k) := by rw [hb4.cell (p := ⟨w2.heap.size, 0, none⟩) HSZ.out]; exact c0
    have d1 : w4.cell? ⟨w2.heap.size, 1, none⟩ = some (.int .i64 a) := by rw [hb4.cell (p := ⟨w2.heap.size, 1, none⟩) HSZ.out]; exact c1
    have HB04 : Hid (Below w.heap.size w w4) := Lib.hid (HB03.out.trans (hb4.mono HB03.out.size))
    have HPL := Lib.hid hpl
    have HR1 := Lib.hid hr1
    have HR2 := Lib.hid hr2
    have HLEN := Lib.hid hlen
    clear hsay2 hb4 hpl hr1 hr2 c0 c1 hlen
    have HK1 : Hid (∀ W, Calls Tryz.prog 13 #[.string s] W fun e w' => e = .returned (.bool (isKeyV s.data.toList)) ∧ W = w') := Lib.hid fun W => isKey_any s W
    have HK2 : Hid (∀ W, MaxL W → Calls Tryz.prog 14 #[.string s] W fun e w' => e = .returned (.bool (isKeyV s.data.toList)) ∧ W = w') := Lib.hid fun W hW => rIsKey_any s W (by omega) hW
    generalize isKeyV s.data.toList = kb at *
    go_wp2_with (first
      | (go_at_call 12; refine (placed_any _ _ _ _ HPL.out (HT.out.below HB04.out HLT.out)).mono ?_; rintro e w5 ⟨rfl, hb5⟩; have HB5 := Lib.hid hb5; have HM5 : Hid (MaxL w5) := Lib.hid ((HM.out.below HB04.out).below hb5))
      | (go_at_call 13; refine (HK1.out _).mono ?_; rintro e w6 ⟨rfl, rfl⟩)
      | (go_at_call 14; refine (HK2.out _ HM5.out).mono ?_; rintro e w7 ⟨rfl, rfl⟩))
    have HB05 : Hid (Below w.heap.size w w5) := Lib.hid (HB04.out.trans (HB5.out.mono HB04.out.size))
    have HQ1 : Hid (RowT w5 (.slice ao ts.length cap) ts) := Lib.hid (HR1.out.below HB5.out (Nat.le_refl _))
    have HQ2 : Hid (RowT w5 (.slice ao2 ts.length cap2) ts) := Lib.hid (HR2.out.below HB5.out (Nat.le_refl _))
    have hlen := HLEN.out
    go_loopw [7] (fun i wr => ∃ k : Nat, k ≤ ts.length ∧ i = .int .i64 k ∧ ∃ q, wr = w5.drewN q) (fun i _ => ts.length - (intOf i).toNat)
    case atStart => exact ⟨0, Nat.zero_le _, rfl, 0, rfl⟩
    case round =>
      obtain ⟨k, hk, rfl, q, rfl⟩ := hrel
      by_cases hkn : k < ts.length
      · obtain ⟨t, hkt⟩ : ∃ t, ts[k]? = some t := ⟨_, List.getElem?_eq_getElem hkn⟩
        rcases HQ1.out with ⟨_, h⟩ | ⟨g, c, e, h1, h2, _, hcells⟩
        · rw [h] at hkn; exact absurd hkn (Nat.not_lt_zero _)
        rcases HQ2.out with ⟨_, h⟩ | ⟨g2, c2, e2, h3, h4, _, hcells2⟩
        · rw [h] at hkn; exact absurd hkn (Nat.not_lt_zero _)
        injection e with e1 _ e5
        injection e2 with e3 _ e6
        subst e1
        subst e3
        subst e5
        subst e6
        unfold maxLen at h2 h4
        obtain ⟨a0, a1, a2⟩ := hcells k t hkt
        obtain ⟨b0, b1, b2⟩ := hcells2 k t hkt
        have hi1 : (0 : Int) ≤ (k : Int) ∧ (k : Int) < (ts.length : Int) := by omega
        have hi2 : (k : Int) < (ts.length : Int) := by omega
        clear hcells hcells2 hkt
        generalize t.kind = K at *
        generalize mkT t.text = S at *
        generalize t.at_ = L at *
        go_wp2_with fail
        go_quiet (fail)
        go_wp2_with fail
        go_roundw
        case rel => exact ⟨k + 1, by omega, by go_num, _, rfl⟩
        case measure => simp [intOf]; omega
      · obtain rfl : k = ts.length := by omega
        have hi2 : ¬ (ts.length : Int) < (ts.length : Int) := by omega
        go_wp2_with fail
        go_ret
        exact ⟨rfl, below_drewNs HB05.out _⟩
end Go.Proofs.YthkfdhglgonmnaaGreatDoor
