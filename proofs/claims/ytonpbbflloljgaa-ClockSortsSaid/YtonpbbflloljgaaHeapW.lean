/-
  The walks of package heap's up, down, Push, Pop, Remove at the clock's queue.
-/
import Derived.Test.YtonpbbflloljgaaClockP2
namespace Go.Proofs.Ytonpbbflloljgaa
open Go.RowKit Go.Maps

theorem qn_less (a : Addr) (w : World) : (nilAhead 192 49 (.pointer (some a)) "Less").run Try.prog w = .ok (some false) w := by kernel_rfl
theorem qm_less (a : Addr) (w : World) : (Go.method 192 49 (.pointer (some a)) "Less").run Try.prog w = .ok (60, .pointer (some a)) w := by kernel_rfl
theorem qn_swap (a : Addr) (w : World) : (nilAhead 192 49 (.pointer (some a)) "Swap").run Try.prog w = .ok (some false) w := by kernel_rfl
theorem qm_swap (a : Addr) (w : World) : (Go.method 192 49 (.pointer (some a)) "Swap").run Try.prog w = .ok (63, .pointer (some a)) w := by kernel_rfl
theorem qn_len (a : Addr) (w : World) : (nilAhead 192 49 (.pointer (some a)) "Len").run Try.prog w = .ok (some false) w := by kernel_rfl
theorem qm_len (a : Addr) (w : World) : (Go.method 192 49 (.pointer (some a)) "Len").run Try.prog w = .ok (23, .pointer (some a)) w := by kernel_rfl
theorem qn_push (a : Addr) (w : World) : (nilAhead 192 49 (.pointer (some a)) "Push").run Try.prog w = .ok (some false) w := by kernel_rfl
theorem qm_push (a : Addr) (w : World) : (Go.method 192 49 (.pointer (some a)) "Push").run Try.prog w = .ok (62, .pointer (some a)) w := by kernel_rfl
theorem qn_pop (a : Addr) (w : World) : (nilAhead 192 49 (.pointer (some a)) "Pop").run Try.prog w = .ok (some false) w := by kernel_rfl
theorem qm_pop (a : Addr) (w : World) : (Go.method 192 49 (.pointer (some a)) "Pop").run Try.prog w = .ok (61, .pointer (some a)) w := by kernel_rfl

/-- What a queue is while package heap is at work: of l's entries, those from n on as they were. -/
structure Sifted (w0 w : World) (cb : Nat) (v : Value) (mb : Nat) (l l' : List Hp.E) (n : Nat) (D' : DataW Unit) : Prop where
  q : QAt w cb v mb l' D'
  p : Pl l' D'
  len : l'.length = l.length
  perm : l'.Perm l
  same : ∀ k, n ≤ k → Hp.g l' k = Hp.g l k
  keeps : KQ cb mb v w0 w
theorem Sifted.next {w0 w w' : World} {cb mb n : Nat} {v : Value} {l l' : List Hp.E} {D' : DataW Unit} (h : Sifted w0 w cb v mb l l' n D') (hb : Below w.heap.size w w') : Sifted w0 w' cb v mb l l' n D' :=
  ⟨h.q.next hb, h.p, h.len, h.perm, h.same, h.keeps.trans (KQ.new h.q.lt hb)⟩
theorem Sifted.swap {w0 w w' : World} {cb mb n i j : Nat} {v : Value} {l l' : List Hp.E} {D' D'' : DataW Unit} (h : Sifted w0 w cb v mb l l' n D') (hi : i < n) (hj : j < n) (hn : n ≤ l.length)
    (hq : QAt w' cb v mb (Hp.sw l' i j) D'') (hp : Pl (Hp.sw l' i j) D'') (hk : KQ cb mb v w w') : Sifted w0 w' cb v mb l (Hp.sw l' i j) n D'' :=
  ⟨hq, hp, (Hp.sw_length _ _ _).trans h.len, (Hp.sw_perm (by have := h.len; omega) (by have := h.len; omega)).trans h.perm,
    fun k hk => by rw [Hp.g_sw (by have := h.len; omega) (by have := h.len; omega), if_neg (by omega), if_neg (by omega)]; exact h.same k hk, h.keeps.trans hk⟩

theorem half_cast (k : Nat) (h : 0 < k) : ((k : Int) - 1) / 2 = (((k - 1) / 2 : Nat) : Int) := by omega
theorem half_tdiv (k : Nat) (h : 0 < k) : ((k : Int) - 1).tdiv 2 = (((k - 1) / 2 : Nat) : Int) := by rw [Int.tdiv_eq_ediv_of_nonneg (by omega)]; omega

set_option maxRecDepth 100000 in
set_option maxHeartbeats 3200000 in
theorem up_any {cb mb : Nat} {v : Value} {l : List Hp.E} {D : DataW Unit} (w : World) (h : QAt w cb v mb l D) (hp : Pl l D) (n j : Nat) (hn : n ≤ l.length) (hj : j < n) (hu : Hp.Up l n j) :
    Calls Try.prog 35 #[.iface 49 (.pointer (some ⟨cb, 1, none⟩)), .int .i64 j] w fun e w' => e = .returned (.tuple #[]) ∧ ∃ l' D', Sifted w w' cb v mb l l' n D' ∧ Hp.Heap l' n := by
  have HS : Hid (Sifted w w cb v mb l l n D) := Lib.hid ⟨h, hp, rfl, List.Perm.refl _, fun _ _ => rfl, KQ.refl _ _ _ _⟩
  have HU := Lib.hid hu
  have hl1000 := hp.len
  have n1 := qn_less ⟨cb, 1, none⟩
  have n2 := qm_less ⟨cb, 1, none⟩
  have n3 := qn_swap ⟨cb, 1, none⟩
  have n4 := qm_swap ⟨cb, 1, none⟩
  clear h hp hu
  go_enter Try.func35, Try.ntmps35
  go_wp2_with fail
  go_loopw [1] (fun jv wr => ∃ (k : Nat) (l' : List Hp.E) (D' : DataW Unit), k < n ∧ jv = .int .i64 k ∧ Hp.Up l' n k ∧ Sifted w wr cb v mb l l' n D') (fun jv _ => (intOf jv).toNat)
  case atStart => exact ⟨j, l, D, hj, rfl, HU.out, HS.out⟩
  case round =>
    obtain ⟨k, l', D', hk, rfl, hup, hs⟩ := hrel
    clear HS HU
    have HS := Lib.hid hs
    have HU := Lib.hid hup
    clear hs hup
    by_cases hk0 : k = 0
    · subst hk0
      go_wp2_with fail
      go_end0
      exact ⟨rfl, l', D', HS.out, HU.out.stop (Or.inl rfl)⟩
    · have e1 := half_cast k (by omega)
      have e2 := half_tdiv k (by omega)
      have hpk : (k - 1) / 2 < k := by omega
      have HPE : Hid (∀ x, x = (k - 1) / 2 → Hp.lt (Hp.g l' k) (Hp.g l' x) → Hp.Up (Hp.sw l' x k) n x) := Lib.hid fun x hx hlt => by
        subst hx; exact HU.out.step (by have := HS.out.len; omega) hk (by omega) hlt
      have HST : Hid (∀ x, x = (k - 1) / 2 → ¬ Hp.lt (Hp.g l' k) (Hp.g l' x) → Hp.Heap l' n) := Lib.hid fun x hx hlt => by
        subst hx; exact HU.out.stop (Or.inr hlt)
      generalize hpe : (k - 1) / 2 = p at *
      have HE := Lib.hid hpe
      clear hpe
      have hlk : k < l'.length := by have := HS.out.len; omega
      have hpl : p < l'.length := by omega
      have g0 : ((p : Int) == (k : Int)) = false := by rw [beq_eq_false_iff_ne]; omega
      have g1 : (p == k) = false := by rw [beq_eq_false_iff_ne]; omega
      have g2 : decide (p = k) = false := by rw [decide_eq_false_iff_not]; omega
      go_wp2_with fail
      refine (less_any _ HS.out.q k p hlk hpl).mono ?_
      rintro e w2 ⟨rfl, hb2⟩
      have HS2 := Lib.hid (HS.out.next hb2)
      clear hb2
      by_cases hlt : Hp.lt (Hp.g l' k) (Hp.g l' p)
      · have hd : decide (Hp.lt (Hp.g l' k) (Hp.g l' p)) = true := by rw [decide_eq_true_eq]; exact hlt
        have HLT := Lib.hid hlt
        rw [hd]
        clear hd hlt
        go_wp2_with fail
        refine (swap_any _ HS2.out.q HS2.out.p p k hpl hlk (by omega)).mono ?_
        rintro e w3 ⟨rfl, D3, hq3, hp3, hk3⟩
        have HS3 := Lib.hid (HS2.out.swap (i := p) (j := k) (by omega) hk hn hq3 hp3 hk3)
        clear hq3 hp3 hk3
        go_wp2_with fail
        go_roundw
        case rel => exact ⟨p, _, D3, by omega, rfl, HPE.out p rfl HLT.out, HS3.out⟩
        case measure => simp [intOf]; omega
      · have hd : decide (Hp.lt (Hp.g l' k) (Hp.g l' p)) = false := by rw [decide_eq_false_iff_not]; exact hlt
        have HLT := Lib.hid hlt
        rw [hd]
        clear hd hlt
        go_wp2_with fail
        go_end0
        exact ⟨rfl, l', D', HS2.out, HST.out p rfl HLT.out⟩
end Go.Proofs.Ytonpbbflloljgaa
