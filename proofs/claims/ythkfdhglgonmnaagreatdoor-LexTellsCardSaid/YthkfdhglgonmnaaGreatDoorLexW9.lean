/-
  The walk of package lex's Lex.
-/
import Derived.Test.YthkfdhglgonmnaaGreatDoorLexW8
namespace Go.Proofs.YthkfdhglgonmnaaGreatDoor
open Go.RowKit Lx

/-- What Lex answers: the tokens, or nothing and the error, at its place (none where the text is too long). -/
def LexSays (w w' : World) (s : ByteArray) (e : Ending) : Prop :=
  if 4000 < s.size then e = .returned (.tuple #[.slice none 0 0, .iface 24 (.int .i64 4)])
  else match lx s.data.toList 0 false with
    | (ts, none) => ∃ v, e = .returned (.tuple #[v, .nilIface]) ∧ w'.ownsRow (w.heap.size + 1) 35 3 v ts.length (cellsT ts)
    | (_, some (r, a)) => ∃ x, e = .returned (.tuple #[.slice none 0 0, x]) ∧ AtErr w' w.heap.size x r a

theorem rs_zero (s : ByteArray) : rs s 0 = s.data.toList := List.drop_zero

set_option maxRecDepth 100000 in
set_option maxHeartbeats 6400000 in
theorem lex_any (s : ByteArray) (w : World) (hE : LexEnv w.heap.size w) :
    Calls Tryz.prog 11 #[.string s] w fun e w' => LexSays w w' s e ∧ Below w.heap.size w w' := by
  by_cases hs : 4000 < s.size
  · have hi : (4000 : Int) < (s.size : Int) := by omega
    go_enter Tryz.func11, Tryz.ntmps11
    go_wp2_with fail
    go_ret2
    exact ⟨by unfold LexSays; rw [if_pos hs]; rfl, Below.refl _ _⟩
  · have hi : ¬ (4000 : Int) < (s.size : Int) := by omega
    have hs4 : s.size ≤ 4000 := by omega
    have HE := Lib.hid hE
    clear hE
    obtain ⟨cb, hcb⟩ : ∃ cb, cb = w.heap.size := ⟨_, rfl⟩
    have HCB := Lib.hid hcb
    have HS : Hid (∀ (w' : World) (e : Ending) , (match lx (rs s 0) 0 false with
      | (ts, none) => ∃ v, e = .returned (.tuple #[v, .nilIface]) ∧ w'.ownsRow (cb + 1) 35 3 v ts.length (cellsT ts)
      | (_, some (r, a)) => ∃ x, e = .returned (.tuple #[.slice none 0 0, x]) ∧ AtErr w' cb x r a) → LexSays w w' s e) := Lib.hid fun w' e h => by
        unfold LexSays
        rw [if_neg hs, ← rs_zero, ← hcb]
        exact h
    clear hs
    go_enter Tryz.func11, Tryz.ntmps11
    go_wp2_with fail
    have hC0 : CutAt (w.alloc (.cells #[.string s, .int .i64 0, .slice none 0 0] 68)) w.heap.size s 0 (.slice none 0 0) [] :=
      ⟨by simp, by simp, by simp, by simp, by simp, World.ownsRow_nil _ _ _ _⟩
    refine (skip_any _ hC0 (Nat.zero_le _) hs4).mono ?_
    rintro e w1 ⟨rfl, a1, hsk, hst, hc1, hkp1⟩
    have hB1 : Below w.heap.size w w1 := ((Below.refl _ _).alloc (Nat.le_refl _) _).trans (hkp1.below (by simp) (fun k _ hk => by omega))
    have HI : Hid (∃ k v ts, k ≤ s.size ∧ CutAt w1 cb s k v ts ∧ Stands (rs s k) ∧ ts.length ≤ k ∧ LexEnv cb w1 ∧ Below cb w w1 ∧ lx (rs s 0) 0 false = (ts ++ (lx (rs s k) k (mayL ts)).1, (lx (rs s k) k (mayL ts)).2)) := Lib.hid (by
      rw [hcb]
      refine ⟨a1, _, [], hsk.2.1, hc1, hst, Nat.zero_le _, HE.out.below hB1 (Nat.le_refl _), hB1, ?_⟩
      rw [hsk.2.2 false]
      rfl)
    clear hC0 hsk hst hc1 hkp1 hB1
    rw [← hcb]
    clear hcb
    go_wp2_with fail
    go_loopw [] (fun wr => ∃ k v ts, k ≤ s.size ∧ CutAt wr cb s k v ts ∧ Stands (rs s k) ∧ ts.length ≤ k ∧ LexEnv cb wr ∧ Below cb w wr ∧ lx (rs s 0) 0 false = (ts ++ (lx (rs s k) k (mayL ts)).1, (lx (rs s k) k (mayL ts)).2)) (fun wr => s.size - atOf wr cb)
    case atStart => exact HI.out
    case round =>
      obtain ⟨k, v, ts, hk, hc, hst, hl, hE, hb, hx⟩ := hrel
      have HC := Lib.hid hc
      have HX := Lib.hid hx
      have HB := Lib.hid hb
      have HL := Lib.hid hE
      have HST := Lib.hid hst
      have c1 := hc.c1
      clear hc hx hb hE hst
      by_cases hlt : k < s.size
      · have hli : (k : Int) < (s.size : Int) := by omega
        go_wp2_with fail
        refine (cut_any _ HC.out hlt hs4 (by omega) HL.out HST.out).mono ?_
        rintro e w2 ⟨hgo, hb2⟩
        rcases hgo with ⟨k2, v2, new, rfl, hc2, hk2, hk2s, hnew, hx2⟩ | ⟨r, x, rfl, hat, hx2⟩
        · go_wp2_with fail
          refine (skip_any _ hc2 hk2s hs4).mono ?_
          rintro e w3 ⟨rfl, k3, hsk, hst3, hc3, hkp3⟩
          have hb3 : Below cb w2 w3 := hkp3.below (Nat.le_of_lt hc2.lt) (fun k _ hk => by omega)
          go_wp2_with fail
          refine ⟨⟨k3, v2, ts ++ new, hsk.2.1, hc3, hst3, ?_, (HL.out.below hb2 (Nat.le_refl _)).below hb3 (Nat.le_refl _), (HB.out.trans hb2).trans hb3, ?_⟩, ?_⟩
          · rw [List.length_append]; have := hsk.1; omega
          · rw [HX.out, hx2, hsk.2.2, List.append_assoc]
          · rw [hc3.atOf, HC.out.atOf]; have := hsk.1; omega
        · obtain ⟨b, rfl, hat2⟩ := hat
          have HAT : Hid (AtErr w2 cb (.iface 113 (.pointer (some ⟨b, 0, none⟩))) r k) := Lib.hid ⟨b, rfl, hat2⟩
          clear hat2
          go_wp2_with fail
          go_ret2
          refine ⟨HS.out _ _ ?_, by have := HB.out.trans hb2; rw [HCB.out] at this; exact this⟩
          rw [HX.out, hx2]
          exact ⟨_, rfl, HAT.out⟩
      · obtain rfl : k = s.size := by omega
        have hli : ¬ (s.size : Int) < (s.size : Int) := by omega
        have HX2 : Hid (lx (rs s 0) 0 false = (lineToks ts [] s.size, none)) := Lib.hid (by
          rw [HX.out, rs_nil s s.size (Nat.le_refl _), lx_nil]
          unfold lineToks endV
          cases mayL ts <;> simp)
        have CL : Hid (Calls Tryz.prog 36 #[.pointer (some ⟨cb, 0, none⟩), .int .i64 0] wr fun e w' => e = .returned (.tuple #[]) ∧ ∃ v', CutAt w' cb s s.size v' (lineToks ts [] s.size) ∧ Below cb wr w') := Lib.hid (by
          have := cutLine_any 0 wr HC.out (Nat.le_refl _) hs4 (by omega)
          exact this)
        go_wp2_with fail
        refine CL.out.mono ?_
        rintro e w2 ⟨rfl, v2, hc2, hb2⟩
        have c2 := hc2.c2
        have HC2 := Lib.hid hc2
        clear hc2
        go_wp2_with fail
        go_ret2
        refine ⟨HS.out _ _ ?_, by have := HB.out.trans hb2; rw [HCB.out] at this; exact this⟩
        rw [HX2.out]
        exact ⟨_, rfl, HC2.out.own⟩
end Go.Proofs.YthkfdhglgonmnaaGreatDoor
