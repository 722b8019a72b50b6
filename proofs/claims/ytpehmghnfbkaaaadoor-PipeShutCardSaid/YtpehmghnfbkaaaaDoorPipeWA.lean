/-
  The walks of package pipe: do, other.
-/
import Derived.Test.YtpehmghnfbkaaaaDoorPipeW9
namespace Go.Proofs.YtpehmghnfbkaaaaDoor
open Go.RowKit Go.Maps Pp

theorem own_mono {w : World} {B B' : Nat} {e : TypeId} {size n : Nat} {v : Value} {xs : List Value} (h : w.ownsRow B e size v n xs) (hB : B' ≤ B) : w.ownsRow B' e size v n xs := by
  refine ⟨h.1, ?_⟩
  rcases h.2 with h0 | ⟨g, cap, cur, e1, e2, e3⟩
  · exact Or.inl h0
  · exact Or.inr ⟨g, cap, cur, e1, Nat.le_trans hB e2, e3⟩
theorem GotAt.from {w w1 w' : World} {ρ : Nat → Role} {pb : Nat} {vch : Value} {ptr : List Nat} {mb : Option Nat} {N M : Nat} {g : Got} {vw : Value} (h : GotAt w1 w' ρ pb vch ptr mb N M g vw) (hk : Keeps (fun b => ρ b ≠ .free) w w1) : GotAt w w' ρ pb vch ptr mb N M g vw :=
  ⟨h.at_, own_mono h.wk hk.size, hk.trans h.keep⟩

set_option maxRecDepth 100000 in
set_option maxHeartbeats 6400000 in
theorem do_any {w : World} {ρ : Nat → Role} {pb : Nat} {vch : Value} {ptr : List Nat} {mb : Option Nat} {D : DataW Value} {N M : Nat} {s : St} (h : PipesAt w ρ pb vch ptr mb D N M s) (ok : Ok s) (hM : M ≤ 1000000) (what n : Int) {k : Nat} {c : Ch}
    (hc : s.chs[k]? = some c) :
    Calls Tryd.prog 36 #[.pointer (some ⟨pb, 0, none⟩), .agg #[.int .i64 what, .int .i64 ((k : Int) + 1), .int .i64 n]] w fun e w' => ∃ vw, e = .returned (.tuple #[.int .i64 (doT s ⟨what, (k : Int) + 1, n⟩).n, vw, errV (doT s ⟨what, (k : Int) + 1, n⟩).err]) ∧
      GotAt w w' ρ pb vch ptr mb N M (doT s ⟨what, (k : Int) + 1, n⟩) vw := by
  have hkl := (List.getElem?_eq_some_iff.1 hc).1
  have hmay : may s.chs.length ((k : Int) + 1) = true := by unfold may; simp; omega
  have hka : Keeps (fun _ => False) w (w.alloc (.cells #[.int .i64 what, .int .i64 ((k : Int) + 1), .int .i64 n] 85)) := (Keeps.refl _ w).alloc _
  have h1 := h.keeps hka fun _ _ e => e.elim
  have HM := Lib.hid hmay
  have H1 := Lib.hid h1
  have HK1 : Hid (Keeps (fun b => ρ b ≠ .free) w (w.alloc (.cells #[.int .i64 what, .int .i64 ((k : Int) + 1), .int .i64 n] 85))) := Lib.hid (hka.mono fun _ _ e => e.elim)
  rcases h1.chan hmay with ⟨e0, _⟩ | ⟨k', cb, rb, sb, v1, v2, c', e0, e1, e2, e3, _, _⟩
  · omega
  obtain rfl : k = k' := by omega
  rw [hc] at e1
  cases e1
  have HCP := Lib.hid e3
  have hd : ∀ q : Got, (q = if what = 10 then Pp.recv s k c else Pp.send s k c n) → doT s ⟨what, (k : Int) + 1, n⟩ = q := fun q hq => by
    unfold doT
    simp only
    rw [show ((k : Int) + 1 - 1).toNat = k by omega, hc, hq]
  have HD := Lib.hid hd
  have HC := Lib.hid hc
  have HCB := Lib.hid e2
  have HOK := Lib.hid ok
  clear h hka h1 hmay hd e3 e2 ok e0
  by_cases h10 : what = 10
  · subst h10
    rw [HD.out (Pp.recv s k c) (by simp)]
    have HR := Lib.hid (recv_any H1.out HOK.out hM HCB.out HC.out)
    generalize Pp.recv s k c = G at *
    go_enter Tryd.func36, Tryd.ntmps36
    go_wp2_with fail
    refine (channel_any H1.out _ HM.out).mono ?_
    rintro e w6 ⟨rfl, rfl⟩
    rw [HCP.out]
    go_wp2_with fail
    refine HR.out.mono ?_
    rintro e w7 ⟨vw, rfl, hg⟩
    have HG := Lib.hid (hg.from HK1.out)
    clear hg
    go_wp2_with fail
    go_ret3
    exact ⟨_, rfl, HG.out⟩
  · have e10 : (what == 10) = false := by rw [beq_eq_false_iff_ne]; exact h10
    rw [HD.out (Pp.send s k c n) (by rw [if_neg h10])]
    have hs0 : (Pp.send s k c n).n = 0 := by
      unfold Pp.send
      split
      · rfl
      · split
        · rfl
        · split <;> rfl
    rw [hs0]
    have HR := Lib.hid (send_any H1.out HOK.out hM HCB.out HC.out n)
    clear hs0
    generalize Pp.send s k c n = G at *
    go_enter Tryd.func36, Tryd.ntmps36
    go_wp2_with fail
    refine (channel_any H1.out _ HM.out).mono ?_
    rintro e w6 ⟨rfl, rfl⟩
    rw [HCP.out]
    go_wp2_with fail
    refine HR.out.mono ?_
    rintro e w7 ⟨vw, rfl, hg⟩
    have HG := Lib.hid (hg.from HK1.out)
    clear hg
    go_wp2_with fail
    go_ret3
    exact ⟨_, rfl, HG.out⟩

/-- What other says of the rest, k ones behind the beginning, o the Else so far. -/
structure OtherJ (w wr : World) (m : Nat) (l : List Tk) (k : Nat) (o : Int) : Prop where
  keep : Keeps (fun _ => False) w wr
  rest : Pp.other m l 0 (-1) = Pp.other m (l.drop k) k o
  o : o = -1 ∨ 0 ≤ o
set_option maxRecDepth 100000 in
set_option maxHeartbeats 6400000 in
theorem other_any {w : World} {ρ : Nat → Role} {pb : Nat} {vch : Value} {ptr : List Nat} {mb : Option Nat} {D : DataW Value} {N M : Nat} {s : St} (h : PipesAt w ρ pb vch ptr mb D N M s) {v : Value} {l : List Tk} (hl : TalksAt w v l) (h6 : l.length ≤ 1000000) :
    Calls Tryd.prog 33 #[.pointer (some ⟨pb, 0, none⟩), v] w fun e w' => e = .returned (.tuple #[.int .i64 (Pp.other s.chs.length l 0 (-1)).1, errV (Pp.other s.chs.length l 0 (-1)).2]) ∧ Keeps (fun _ => False) w w' := by
  obtain ⟨ao, cap, rfl, hc1, hc2⟩ := hl.slice
  have HH := Lib.hid h
  have HT := Lib.hid hl
  obtain ⟨p, hp⟩ : ∃ p, Pp.other s.chs.length l 0 (-1) = p := ⟨_, rfl⟩
  rw [hp]
  have HP := Lib.hid hp
  have HJ0 : Hid (OtherJ w w s.chs.length l 0 (-1)) := Lib.hid ⟨Keeps.refl _ _, rfl, Or.inl rfl⟩
  clear h hl hp
  go_enter Tryd.func33, Tryd.ntmps33
  go_wp2_with fail
  go_loopw [6, 11] (fun ov kv wr => ∃ (k : Nat) (o : Int), k ≤ l.length ∧ kv = .int .i64 k ∧ ov = .int .i64 o ∧ OtherJ w wr s.chs.length l k o) (fun _ kv _ => l.length - (intOf kv).toNat)
  case atStart => exact ⟨0, -1, Nat.zero_le _, rfl, rfl, HJ0.out⟩
  case round =>
    obtain ⟨k, o, hk, rfl, rfl, hJ⟩ := hrel
    have HJ := Lib.hid hJ
    clear hJ HJ0
    by_cases hkl : k < l.length
    · obtain ⟨x, hx⟩ : ∃ x, l[k]? = some x := ⟨_, List.getElem?_eq_getElem hkl⟩
      have hdrop : l.drop k = x :: l.drop (k + 1) := by rw [List.drop_eq_getElem_cons hkl, (List.getElem?_eq_some_iff.1 hx).2]
      obtain ⟨tb, to, rfl, htb, c1, c2, c3⟩ := (HT.out.keeps HJ.out.keep fun _ _ e => e).at hx
      have hki : (0 : Int) ≤ (k : Int) ∧ (k : Int) < (l.length : Int) := by omega
      obtain ⟨xw, xc, xn⟩ := x
      simp only at c1 c2 c3
      have hr := HJ.out.rest
      rw [hdrop, HP.out, Pp.other] at hr
      have hko : o = -1 ∨ 0 ≤ o := HJ.out.o
      have hka : Keeps (fun _ => False) wr (wr.alloc (.cells #[.int .i64 xw, .int .i64 xc, .int .i64 xn] 85)) := (Keeps.refl _ wr).alloc _
      have HKA := Lib.hid (HJ.out.keep.trans hka)
      have HP1 := Lib.hid (HH.out.keeps (HJ.out.keep.trans hka) fun _ _ e => e.elim)
      clear hx hdrop hka
      simp only at hr
      by_cases h40 : xw = 40
      · rw [if_pos h40] at hr
        subst h40
        by_cases ho : 0 ≤ o
        · rw [if_pos ho] at hr
          subst hr
          go_wp2_with fail
          go_ret2
          exact ⟨rfl, HKA.out⟩
        · rw [if_neg ho] at hr
          have HR := Lib.hid hr
          have hol : o < 0 := by omega
          clear hr
          go_wp2_with fail
          go_roundw
          case rel => exact ⟨k + 1, k, by omega, by go_num, rfl, HKA.out, by rw [HP.out]; exact HR.out, Or.inr (by omega)⟩
          case measure => simp [intOf]; omega
      · rw [if_neg h40] at hr
        have e40 : (xw == 40) = false := by rw [beq_eq_false_iff_ne]; exact h40
        by_cases hw : xw ≠ 3 ∧ xw ≠ 10
        · rw [if_pos hw] at hr
          subst hr
          have e3 : (xw != 3) = true := bne_iff_ne.2 hw.1
          have e10 : (xw != 10) = true := bne_iff_ne.2 hw.2
          clear hw
          go_wp2_with fail
          go_ret2
          exact ⟨rfl, HKA.out⟩
        · rw [if_neg hw] at hr
          have hw2 : xw = 3 ∨ xw = 10 := by omega
          have HMAY := Lib.hid (may_any HP1.out xc)
          cases hmay : may s.chs.length xc with
          | false =>
            rw [if_pos hmay] at hr
            rw [hmay] at HMAY
            subst hr
            clear hw hmay
            rcases hw2 with rfl | rfl
            all_goals
              go_wp2_with fail
              refine HMAY.out.mono ?_
              rintro e w6 ⟨rfl, rfl⟩
              go_wp2_with fail
              go_ret2
              exact ⟨rfl, HKA.out⟩
          | true =>
            rw [if_neg (by rw [hmay]; decide)] at hr
            rw [hmay] at HMAY
            have HR := Lib.hid hr
            clear hw hmay hr
            rcases hw2 with rfl | rfl
            all_goals
              go_wp2_with fail
              refine HMAY.out.mono ?_
              rintro e w6 ⟨rfl, rfl⟩
              go_wp2_with fail
              go_roundw
              case rel => exact ⟨k + 1, o, by omega, by go_num, rfl, HKA.out, by rw [HP.out]; exact HR.out, hko⟩
              case measure => simp [intOf]; omega
    · obtain rfl : k = l.length := by omega
      have hr := HJ.out.rest
      rw [List.drop_length, HP.out, Pp.other] at hr
      subst hr
      go_wp2_with fail
      go_ret2
      exact ⟨rfl, HJ.out.keep⟩
end Go.Proofs.YtpehmghnfbkaaaaDoor
