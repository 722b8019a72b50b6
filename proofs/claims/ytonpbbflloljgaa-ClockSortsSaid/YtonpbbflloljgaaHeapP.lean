/-
  The walks of package heap's Push, Pop, Remove at the clock's queue.
-/
import Derived.Test.YtonpbbflloljgaaHeapD
namespace Go.Proofs.Ytonpbbflloljgaa
open Go.RowKit Go.Maps

/-- A queue in order: a heap, each id's place known. -/
structure HQ (w : World) (cb : Nat) (v : Value) (mb : Nat) (l : List Hp.E) (D : DataW Unit) : Prop where
  q : QAt w cb v mb l D
  p : Pl l D
  heap : Hp.Heap l l.length
theorem keeps_grow {w w1 w2 : World} {cb mb : Nat} {v v' : Value} (h : KQ cb mb v w w1) (k : KQ cb mb v' w1 w2) (hv : ∀ b, v'.ownBlock = some b → v.ownBlock = some b ∨ w.heap.size ≤ b) : KQ cb mb v w w2 :=
  ⟨h.k.trans' k.k fun i hi e => by
    rcases e with e | e | e
    · exact Or.inl e
    · exact Or.inr (Or.inl e)
    · rcases hv i e with e2 | e2
      · exact Or.inr (Or.inr e2)
      · omega, k.n.trans h.n, k.z.trans h.z⟩

set_option maxRecDepth 100000 in
set_option maxHeartbeats 3200000 in
theorem hpush_any {cb mb : Nat} {v : Value} {l : List Hp.E} {D : DataW Unit} (w : World) (h : HQ w cb v mb l D) (a b : Int) (hn : ∀ i, i < l.length → (Hp.g l i).2 ≠ b) (hw : (Lit.int .i64 b).wf = true) (hl : l.length < 1000) :
    Calls Try.prog 20 #[.iface 49 (.pointer (some ⟨cb, 1, none⟩)), .iface 51 (.agg #[.int .i64 a, .int .i64 b])] w fun e w' => e = .returned (.tuple #[]) ∧
      ∃ v' l' D', HQ w' cb v' mb l' D' ∧ l'.Perm (l ++ [(a, b)]) ∧ KQ cb mb v w w' ∧ ∀ k, v'.ownBlock = some k → v.ownBlock = some k ∨ w.heap.size ≤ k := by
  have HH := Lib.hid h
  have HN := Lib.hid hn
  have n1 := qn_len ⟨cb, 1, none⟩
  have n2 := qm_len ⟨cb, 1, none⟩
  have n3 := qn_push ⟨cb, 1, none⟩
  have n4 := qm_push ⟨cb, 1, none⟩
  clear h hn
  go_enter Try.func20, Try.ntmps20
  go_wp2_with fail
  refine (qpush_any w HH.out.q HH.out.p a b HN.out hw hl).mono ?_
  rintro e w1 ⟨rfl, v1, D1, hq1, hp1, hk1, hv1⟩
  have HQ1 := Lib.hid hq1
  have HP1 := Lib.hid hp1
  have HK1 := Lib.hid hk1
  have HV1 := Lib.hid hv1
  obtain ⟨ao, cap, hve, -⟩ := hq1.slice
  have hc0 := hq1.c0
  have hlen : (l ++ [(a, b)]).length = l.length + 1 := by simp
  rw [hlen] at hve
  subst hve
  have HLEN := Lib.hid hlen
  have HUP : Hid (Hp.Up (l ++ [(a, b)]) (l.length + 1) l.length) := Lib.hid (HH.out.heap.more (a, b))
  clear hq1 hp1 hk1 hv1 hlen hc0
  have HC := Lib.hid HQ1.out.c0
  generalize hlp : l ++ [(a, b)] = l1 at *
  have HLP := Lib.hid hlp
  clear hlp
  go_wp2_with fail
  refine (qlen_of _ cb _ _ _ HC.out).mono ?_
  rintro e w2 ⟨rfl, rfl⟩
  have e1 : ((l.length : Int) + 1 - 1) = (l.length : Int) := by omega
  go_wp2_with fail
  refine (up_any w1 HQ1.out HP1.out (l.length + 1) l.length (by have := HLEN.out; omega) (by omega) HUP.out).mono ?_
  rintro e w3 ⟨rfl, l3, D3, hs3, hh3⟩
  go_wp2_with fail
  go_end0
  rw [HLP.out]
  refine ⟨rfl, _, l3, D3, ⟨hs3.q, hs3.p, by rw [hs3.len, HLEN.out]; exact hh3⟩, hs3.perm, keeps_grow HK1.out hs3.keeps HV1.out, HV1.out⟩

/-- The last one is taken off. -/
theorem cut_end {w0 w : World} {cb mb n : Nat} {v : Value} {l0 l l' : List Hp.E} {D' : DataW Unit} {x : Hp.E} (hs : Sifted w0 w cb v mb l l' n D') (hn : n + 1 = l.length) (hp : l.Perm l0) (hx : Hp.g l n = x) : l0.Perm (x :: l'.take n) := by
  have h1 : l' = l'.take n ++ [x] := by
    have := Hp.take_last (l := l') (n := n) (by rw [hs.len]; exact hn)
    rwa [hs.same n (Nat.le_refl _), hx] at this
  have h2 : (l'.take n ++ [x]).Perm (x :: l'.take n) := List.perm_append_comm
  exact ((hp.symm.trans hs.perm.symm).trans (List.Perm.of_eq h1)).trans h2

set_option maxRecDepth 100000 in
set_option maxHeartbeats 3200000 in
theorem hpop_any {cb mb : Nat} {v : Value} {l : List Hp.E} {D : DataW Unit} (w : World) (h : HQ w cb v mb l D) (hl : 0 < l.length) :
    Calls Try.prog 22 #[.iface 49 (.pointer (some ⟨cb, 1, none⟩))] w fun e w' => (∃ x, e = .returned x) ∧
      ∃ v' l' D', HQ w' cb v' mb l' D' ∧ l.Perm (Hp.g l 0 :: l') ∧ KQ cb mb v w w' ∧ v'.ownBlock = v.ownBlock := by
  have HH := Lib.hid h
  have n1 := qn_len ⟨cb, 1, none⟩
  have n2 := qm_len ⟨cb, 1, none⟩
  have n3 := qn_swap ⟨cb, 1, none⟩
  have n4 := qm_swap ⟨cb, 1, none⟩
  have n5 := qn_pop ⟨cb, 1, none⟩
  have n6 := qm_pop ⟨cb, 1, none⟩
  have hl1000 := h.p.len
  obtain ⟨ao, cap, rfl, -⟩ := h.q.slice
  obtain ⟨n, hn⟩ : ∃ n, n + 1 = l.length := ⟨l.length - 1, by omega⟩
  have e1 : (l.length : Int) - 1 = (n : Int) := by omega
  have HN := Lib.hid hn
  have HC := Lib.hid h.q.c0
  clear h hn
  go_enter Try.func22, Try.ntmps22
  go_wp2_with fail
  refine (qlen_of _ cb _ _ _ HC.out).mono ?_
  rintro e w1 ⟨rfl, rfl⟩
  go_wp2_with fail
  have hsw : Calls Try.prog 63 #[.pointer (some ⟨cb, 1, none⟩), .int .i64 (0 : Nat), .int .i64 n] w fun e w' => e = .returned (.tuple #[]) ∧ ∃ D', QAt w' cb (.slice ao l.length cap) mb (Hp.sw l 0 n) D' ∧ Pl (Hp.sw l 0 n) D' ∧ KQ cb mb (.slice ao l.length cap) w w' := by
    by_cases e : n = 0
    · subst e; exact swap_same w HH.out.q HH.out.p 0 hl
    · exact swap_any w HH.out.q HH.out.p 0 n hl (by have := HN.out; omega) (fun e2 => e e2.symm)
  refine hsw.mono ?_
  clear hsw
  rintro e w2 ⟨rfl, D2, hq2, hp2, hk2⟩
  have HQ2 := Lib.hid hq2
  have HP2 := Lib.hid hp2
  have HK2 := Lib.hid hk2
  have HSL : Hid ((Hp.sw l 0 n).length = l.length) := Lib.hid (Hp.sw_length _ _ _)
  have HDN : Hid (Hp.Down (Hp.sw l 0 n) n 0 0) := Lib.hid (by
    have hn := HN.out
    by_cases e : n = 0
    · subst e; exact ⟨fun k h1 h2 => by omega, fun k h1 h2 => by omega⟩
    · have := HH.out.heap
      rw [← hn] at this
      exact this.hole hn (by omega))
  clear hq2 hp2 hk2
  go_wp2_with fail
  refine (down_any w2 HQ2.out HP2.out n 0 (by have := HSL.out; have := HN.out; omega) (Nat.zero_le _) HDN.out).mono ?_
  rintro e w3 ⟨bm, l3, D3, rfl, hs3, hb3, hc3⟩
  have HS3 := Lib.hid hs3
  have HH3 : Hid (Hp.Heap l3 n) := Lib.hid (by
    cases bm with
    | true => exact hb3 rfl
    | false => exact (hc3 rfl).zero)
  clear hs3 hb3 hc3
  go_wp2_with fail
  refine (qpop_any w3 HS3.out.q HS3.out.p n (by have := HSL.out; have := HN.out; have := HS3.out.len; omega)).mono ?_
  rintro e w4 ⟨⟨x, rfl⟩, v4, D4, hq4, hp4, hk4, hv4⟩
  go_wp2_with fail
  go_ret
  have hn := HN.out
  have hl4 : (l3.take n).length = n := by rw [List.length_take]; have := HSL.out; have := HS3.out.len; omega
  exact ⟨⟨_, rfl⟩, v4, _, D4, ⟨hq4, hp4, by rw [hl4]; exact HH3.out.take⟩, cut_end HS3.out (by rw [HSL.out]; exact hn) (Hp.sw_perm hl (by omega)) (by rw [Hp.g_sw hl (by omega), if_pos rfl]), (HK2.out.trans HS3.out.keeps).trans hk4, hv4⟩
end Go.Proofs.Ytonpbbflloljgaa
