/-
  Texts of one proof, in build order: Plain mathematics: turns in two pieces; and by whoever has the same number round and round. No program. | The walk of the law RoomPieces. | The walk of the law RoomPieces. | What the listed variable errors.errorType gives the walks. | What the listed variable errors.errorType, listed alone, gives the walks.
-/
import Derived.Test.YtnjdmijcoadidaaGreatDoorR7
import Derived.Test.YtnjdmijcoadidaaGreatDoorTie
import Derived.LaidMore
import Derived.Lib.LaidTab
namespace Go.Proofs.YtnjdmijcoadidaaGreatDoor
namespace Rm
open Pp

section
variable {α : Type} {D : Doer α}
theorem play_append : ∀ (a b : List (Int × Int)) (s : S α), play D s (a ++ b) = if (play D s a).2 = a.length then ((play D (play D s a).1 b).1, a.length + (play D (play D s a).1 b).2) else play D s a
  | [], b, s => by
    show play D s b = if (0 : Nat) = 0 then ((play D s b).1, 0 + (play D s b).2) else (s, 0)
    rw [if_pos rfl, Nat.zero_add]
  | p :: a, b, s => by
    show play D s (p :: (a ++ b)) = _
    by_cases hc : choices s = 0
    · have h1 : play D s (p :: (a ++ b)) = (s, 0) := by rw [play, if_pos hc]
      have h2 : play D s (p :: a) = (s, 0) := by rw [play, if_pos hc]
      rw [h1, h2, if_neg (by simp)]
    · have h1 : ∀ l, play D s (p :: l) = ((play D (turn D s p.1 p.2) l).1, (play D (turn D s p.1 p.2) l).2 + 1) := fun l => by rw [play, if_neg hc]
      rw [h1, h1 a, play_append a b]
      simp only [List.length_cons]
      by_cases h3 : (play D (turn D s p.1 p.2) a).2 = a.length
      · rw [if_pos h3, if_pos (by omega)]
        simp only
        congr 1
        omega
      · rw [if_neg h3, if_neg (by omega)]
theorem play_le2 : ∀ (l : List (Int × Int)) (s : S α), (play D s l).2 ≤ l.length
  | [], _ => Nat.le_refl _
  | p :: l, s => by
    rw [play]
    split
    · exact Nat.zero_le _
    · have := play_le2 l (turn D s p.1 p.2)
      simp only [List.length_cons]
      omega
theorem turn_same {s : S α} {who who' : Int} (h : drawn who (choices s) = drawn who' (choices s)) (draw : Int) : turn D s who draw = turn D s who' draw := by
  unfold turn
  rw [h]
theorem drawn_round (who : Int) {n : Nat} (h : 0 < n) (k : Int) (hk : k = (drawn who n : Nat)) : drawn (k + (n : Int)) n = drawn who n := by
  unfold drawn at hk ⊢
  have h1 := Int.emod_nonneg who (show (n : Int) ≠ 0 by omega)
  have h2 := Int.emod_lt_of_pos who (show (0 : Int) < n by omega)
  rw [hk, Int.add_emod_right, Int.toNat_of_nonneg h1, Int.emod_emod_of_dvd _ (Int.dvd_refl _)]
end
end Rm
end Go.Proofs.YtnjdmijcoadidaaGreatDoor

namespace Go.Proofs.YtnjdmijcoadidaaGreatDoor
open Go.RowKit Go.Maps Pp

theorem pick_drawn (who : Int) {m : Nat} (hm : 0 < m) (h9 : m ≤ 1000000) : pickN (who.tmod (m : Int) + (m : Int)) m = drawn who m := by
  obtain ⟨_, h2, h3⟩ := drawn_rem who hm h9
  have hr : ((drawn who m : Nat) : Int) = who % (m : Int) := by unfold drawn; exact Int.toNat_of_nonneg (Int.emod_nonneg _ (by omega))
  have hb : 0 ≤ who.tmod (m : Int) + (m : Int) := by
    have := Int.lt_tmod_of_pos who (show (0 : Int) < m by omega)
    omega
  have hb2 : who.tmod (m : Int) + (m : Int) < 2 * (m : Int) := by
    have := Int.tmod_lt_of_pos who (show (0 : Int) < m by omega)
    omega
  have hw : IntKind.u64.wrap (who.tmod (m : Int) + (m : Int)) = who.tmod (m : Int) + (m : Int) := by
    rw [IntKind.wrap_u64]; omega
  unfold pickN
  rw [hw, ← Int.tmod_eq_emod_of_nonneg hb, h2]
  rfl
section
variable {w0 : World} {C1 C2 C3 : DoerW Py w0} {w w' : World} {τ1 τ2 τ3 : Nat → RR} {r1 r2 r3 N1 N2 N3 N' : Nat} {s1 s2 s3 s' : Rm.S Py}
/-- Three rooms that share nothing. -/
structure Three (w0 : World) (C1 C2 C3 : DoerW Py w0) (w : World) (τ1 τ2 τ3 : Nat → RR) (r1 r2 r3 N1 N2 N3 : Nat) (s1 s2 s3 : Rm.S Py) : Prop where
  a : RoomT w0 C1 w τ1 r1 N1 s1
  b : RoomT w0 C2 w τ2 r2 N2 s2
  c : RoomT w0 C3 w τ3 r3 N3 s3
  ab : ∀ k, τ1 k = .free ∨ τ2 k = .free
  ac : ∀ k, τ1 k = .free ∨ τ3 k = .free
  bc : ∀ k, τ2 k = .free ∨ τ3 k = .free
theorem apart_of (hf : ∀ b, b < w.heap.size → τ1 b = .free → τ3 b = .free) (h2 : RoomT w0 C2 w τ2 r2 N2 s2) (hd : ∀ b, τ1 b = .free ∨ τ2 b = .free) : ∀ b, τ3 b = .free ∨ τ2 b = .free := fun b => by
  rcases Nat.lt_or_ge b w.heap.size with h | h
  · rcases hd b with e | e
    · exact Or.inl (hf b h e)
    · exact Or.inr e
  · exact Or.inr (Classical.byContradiction fun e => by have := h2.dom b e; omega)
theorem kept_by (hg : Keeps (fun b => τ1 b ≠ .free) w w') (h1 : RoomT w0 C1 w τ1 r1 N1 s1) (h2 : RoomT w0 C2 w τ2 r2 N2 s2) (hd : ∀ b, τ1 b = .free ∨ τ2 b = .free) : RoomT w0 C2 w' τ2 r2 N2 s2 :=
  h2.keeps hg fun b _ e => ⟨(hd b).resolve_left e, h1.own b e⟩
theorem Three.new (h : Three w0 C1 C2 C3 w τ1 τ2 τ3 r1 r2 r3 N1 N2 N3 s1 s2 s3) (hk : Keeps (fun _ => False) w w') : Three w0 C1 C2 C3 w' τ1 τ2 τ3 r1 r2 r3 N1 N2 N3 s1 s2 s3 := ⟨h.a.new hk, h.b.new hk, h.c.new hk, h.ab, h.ac, h.bc⟩
theorem Three.goA (h : Three w0 C1 C2 C3 w τ1 τ2 τ3 r1 r2 r3 N1 N2 N3 s1 s2 s3) (hg : Goes w0 C1 w w' τ1 r1 N' s') : ∃ τ, Three w0 C1 C2 C3 w' τ τ2 τ3 r1 r2 r3 N' N2 N3 s' s2 s3 := by
  obtain ⟨τ, hT, hf⟩ := hg.ex
  exact ⟨τ, hT, kept_by hg.keep h.a h.b h.ab, kept_by hg.keep h.a h.c h.ac, apart_of hf h.b h.ab, apart_of hf h.c h.ac, h.bc⟩
theorem Three.goB (h : Three w0 C1 C2 C3 w τ1 τ2 τ3 r1 r2 r3 N1 N2 N3 s1 s2 s3) (hg : Goes w0 C2 w w' τ2 r2 N' s') : ∃ τ, Three w0 C1 C2 C3 w' τ1 τ τ3 r1 r2 r3 N1 N' N3 s1 s' s3 := by
  obtain ⟨τ, hT, hf⟩ := hg.ex
  have hba : ∀ k, τ2 k = .free ∨ τ1 k = .free := fun k => (h.ab k).symm
  exact ⟨τ, kept_by hg.keep h.b h.a hba, hT, kept_by hg.keep h.b h.c h.bc, fun k => (apart_of hf h.a hba k).symm, h.ac, apart_of hf h.c h.bc⟩
theorem Three.goC (h : Three w0 C1 C2 C3 w τ1 τ2 τ3 r1 r2 r3 N1 N2 N3 s1 s2 s3) (hg : Goes w0 C3 w w' τ3 r3 N' s') : ∃ τ, Three w0 C1 C2 C3 w' τ1 τ2 τ r1 r2 r3 N1 N2 N' s1 s2 s' := by
  obtain ⟨τ, hT, hf⟩ := hg.ex
  have hca : ∀ k, τ3 k = .free ∨ τ1 k = .free := fun k => (h.ac k).symm
  have hcb : ∀ k, τ3 k = .free ∨ τ2 k = .free := fun k => (h.bc k).symm
  exact ⟨τ, kept_by hg.keep h.c h.a hca, kept_by hg.keep h.c h.b hcb, hT, h.ab, fun k => (apart_of hf h.a hca k).symm, fun k => (apart_of hf h.b hcb k).symm⟩
theorem fresh_apart (h1 : RoomT w0 C1 w τ1 r1 N1 s1) (hf : ∀ b, b < w.heap.size → τ2 b = .free) : ∀ k, τ1 k = .free ∨ τ2 k = .free := fun k => by
  rcases Nat.lt_or_ge k w.heap.size with h | h
  · exact Or.inr (hf k h)
  · exact Or.inl (Classical.byContradiction fun e => by have := h1.dom k e; omega)
end
set_option maxRecDepth 100000 in
set_option maxHeartbeats 3200000 in
theorem equalE_any {w : World} {v1 v2 : Value} {l : List Rm.Ev} (h1 : ReadE w v1 l) (h2 : ReadE w v2 l) (hl : l.length ≤ 1000000) :
    Calls Tryz.prog 31 #[v1, v2] w fun e w' => e = .returned (.bool true) ∧ ∃ n, w' = w.drewN n := by
  have H1 := Lib.hid h1
  have H2 := Lib.hid h2
  obtain ⟨a1, k1, rfl, hc1, hm1, -⟩ := h1
  obtain ⟨a2, k2, rfl, hc2, hm2, -⟩ := h2
  obtain ⟨n, hn⟩ : ∃ n, n = l.length := ⟨_, rfl⟩
  have HN := Lib.hid hn
  rw [← hn] at hc1 hc2 hl H1 H2 ⊢
  unfold maxLen at hm1
  clear hn hm2
  go_enter Tryz.func31, Tryz.ntmps31
  go_wp2_with fail
  go_loopw [13] (fun i wr => ∃ (k m : Nat), k ≤ n ∧ i = .int .i64 k ∧ wr = w.drewN m) (fun i _ => n - (intOf i).toNat)
  case atStart => exact ⟨0, 0, Nat.zero_le _, rfl, rfl⟩
  case round =>
    obtain ⟨i, m, hi, rfl, rfl⟩ := hrel
    by_cases hin : i < n
    · obtain ⟨⟨xt, xw, xo⟩, hx⟩ : ∃ x, l[i]? = some x := ⟨_, List.getElem?_eq_getElem (by rw [← HN.out]; exact hin)⟩
      obtain ⟨b1, e1, g0, g1, g2⟩ := H1.out.at (Below.refl _ w) hx
      obtain ⟨b2, e2, g3, g4, g5⟩ := H2.out.at (Below.refl _ w) hx
      subst e1 e2
      simp only at g0 g1 g2 g3 g4 g5
      have hii : (0 : Int) ≤ (i : Int) ∧ (i : Int) < (n : Int) := by omega
      clear hx
      go_wp2_with fail
      go_quiet (fail)
      go_wp2_with fail
      go_roundw
      case rel => exact ⟨i + 1, _, by omega, by go_num, rfl⟩
      case measure => simp [intOf]; omega
    · obtain rfl : i = n := by omega
      have hnn : ¬ (i : Int) < (i : Int) := by omega
      go_wp2_with fail
      go_ret
      exact ⟨rfl, _, rfl⟩
theorem PicksAt.take {w : World} {a : Option Addr} {n cap : Nat} {l : List (Int × Int)} (h : PicksAt w (.slice a n cap) l) (k : Nat) (hk : k ≤ n) : PicksAt w (.slice a k cap) (l.take k) := by
  obtain ⟨ao, cap', e, hc, hm, hx⟩ := h
  injection e with e1 e2 e3
  subst e1 e3
  have hlen : (l.take k).length = k := by rw [List.length_take]; omega
  refine ⟨a, cap, by rw [hlen], by omega, hm, fun h0 => ?_⟩
  obtain ⟨b, o, h1, h2, h3⟩ := hx (by omega)
  refine ⟨b, o, h1, h2, fun i x hi => h3 i x ?_⟩
  rw [List.getElem?_take] at hi
  split at hi
  · exact hi
  · cases hi
theorem PicksAt.drop {w : World} {b o n cap : Nat} {l : List (Int × Int)} (h : PicksAt w (.slice (some ⟨b, o, none⟩) n cap) l) (k : Nat) (hk : k ≤ n) : PicksAt w (.slice (some ⟨b, o + k * 2, none⟩) (n - k) (cap - k)) (l.drop k) := by
  obtain ⟨ao, cap', e, hc, hm, hx⟩ := h
  injection e with e1 e2 e3
  subst e1 e3
  have hlen : (l.drop k).length = n - k := by rw [List.length_drop]; omega
  refine ⟨_, cap - k, by rw [hlen], by omega, by omega, fun h0 => ?_⟩
  obtain ⟨b', o', h1, h2, h3⟩ := hx (by omega)
  injection h1 with h1
  injection h1 with h4 h5
  subst h4 h5
  refine ⟨b, o + k * 2, rfl, h2, fun i x hi => ?_⟩
  rw [List.getElem?_drop] at hi
  obtain ⟨g1, g2⟩ := h3 _ x hi
  rw [show o + k * 2 + i * 2 = o + (k + i) * 2 by omega]
  exact ⟨g1, g2⟩
theorem PicksWf.take {l : List (Int × Int)} (h : PicksWf l) (k : Nat) : PicksWf (l.take k) := fun p hp => h p (List.mem_of_mem_take hp)
theorem PicksWf.drop {l : List (Int × Int)} (h : PicksWf l) (k : Nat) : PicksWf (l.drop k) := fun p hp => h p (List.mem_of_mem_drop hp)
end Go.Proofs.YtnjdmijcoadidaaGreatDoor

namespace Go.Proofs.YtnjdmijcoadidaaGreatDoor
open Go.RowKit Go.Maps Pp

theorem Three.keeps {w0 w w' : World} {C1 C2 C3 : DoerW Py w0} {τ1 τ2 τ3 : Nat → RR} {r1 r2 r3 N1 N2 N3 : Nat} {s1 s2 s3 : Rm.S Py} {S : Nat → Prop} (h : Three w0 C1 C2 C3 w τ1 τ2 τ3 r1 r2 r3 N1 N2 N3 s1 s2 s3) (hk : Keeps S w w') (hS : ∀ b, S b → (τ1 b = .free ∧ τ2 b = .free ∧ τ3 b = .free) ∧ w0.heap.size ≤ b) : Three w0 C1 C2 C3 w' τ1 τ2 τ3 r1 r2 r3 N1 N2 N3 s1 s2 s3 :=
  ⟨h.a.keeps hk fun b _ e => ⟨(hS b e).1.1, (hS b e).2⟩, h.b.keeps hk fun b _ e => ⟨(hS b e).1.2.1, (hS b e).2⟩, h.c.keeps hk fun b _ e => ⟨(hS b e).1.2.2, (hS b e).2⟩, h.ab, h.ac, h.bc⟩
/-- A room that was opened. -/
def OpenS (w0 w w' : World) (Sc : List (List Rm.Ask)) (gg np : Nat) (p : Option Addr) : Prop := ∃ (C : DoerW Py w0) (rb : Nat) (τ : Nat → RR), p = some ⟨rb, 0, none⟩ ∧ C.D = pyDoer Sc ∧ RoomT w0 C w' τ rb 0 (Rm.start (pyDoer Sc) gg py0) ∧ Rm.At C.num C.big 0 (Rm.start (pyDoer Sc) gg py0) ∧ (∀ b, b < w.heap.size → τ b = .free) ∧ np ≤ 80
theorem opened_ptr {w0 w w' : World} {Sc : List (List Rm.Ask)} {gg np : Nat} {e : Ending} (h : Opened w0 w w' Sc gg np e) : ∃ p, e = .returned (.pointer p) ∧ Below w.heap.size w w' ∧ (p = none ∨ OpenS w0 w w' Sc gg np p) := by
  cases h with
  | none he hb => exact ⟨none, he, hb, Or.inl rfl⟩
  | some C rb τ hD he hT hA hb hf h6 hp => exact ⟨_, he, hb, Or.inr ⟨C, rb, τ, rfl, hD, hT, hA, hf, hp⟩⟩
theorem PicksAt.dropM {w : World} {a : Option Addr} {n cap : Nat} {l : List (Int × Int)} (h : PicksAt w (.slice a n cap) l) (k : Nat) (hk : k ≤ n) : PicksAt w (.slice (a.map fun x => x.add (k * 2)) (n - k) (cap - k)) (l.drop k) := by
  obtain ⟨ao, cap', e, hc, hm, hx⟩ := h
  injection e with e1 e2 e3
  subst e1 e3
  have hlen : (l.drop k).length = n - k := by rw [List.length_drop]; omega
  refine ⟨_, cap - k, by rw [hlen], by omega, by omega, fun h0 => ?_⟩
  obtain ⟨b, o, h1, h2, h3⟩ := hx (by omega)
  subst h1
  refine ⟨b, o + k * 2, by rw [Option.map_some]; unfold Addr.add; split <;> simp_all, h2, fun i x hi => ?_⟩
  rw [List.getElem?_drop] at hi
  obtain ⟨g1, g2⟩ := h3 _ x hi
  rw [show o + k * 2 + i * 2 = o + (k + i) * 2 by omega]
  exact ⟨g1, g2⟩
theorem PicksAt.dropE {w : World} {a : Option Addr} {n cap : Nat} {l : List (Int × Int)} (h : PicksAt w (.slice a n cap) l) (k : Nat) (hk : n ≤ k) : PicksAt w (.slice a 0 0) (l.drop k) := by
  obtain ⟨ao, cap', e, hc, hm, hx⟩ := h
  injection e with e1 e2 e3
  have hlen : (l.drop k).length = n - k := by rw [List.length_drop]; omega
  exact ⟨a, 0, by rw [hlen, Nat.sub_eq_zero_of_le hk], by omega, Nat.zero_le _, fun h0 => by omega⟩
/-- A hall, to be read. -/
theorem halled2 {w wr : World} {C : DoerW Py w} {τ : Nat → RR} {rb i n : Nat} {s : Rm.S Py} (hT : RoomT w C wr τ rb i s) (hA : Rm.At C.num C.big n s) (hi : i ≤ 100000) (hn : n ≤ 1000) :
    Calls Tryz.prog 20 #[.pointer (some ⟨rb, 0, none⟩)] wr fun e w2 => ∃ v, e = .returned v ∧ ReadH w2 v s ∧ Below wr.heap.size wr w2 :=
  (hall_open hT hA hi hn).mono fun _ _ ⟨v, h1, h2, h3⟩ => ⟨v, h1, h2.read, h3⟩
theorem readE_below {w w' : World} {v : Value} {l : List Rm.Ev} (h : ReadE w v l) (hb : Below w.heap.size w w') : ReadE w' v l := by
  obtain ⟨ao, cap, hv, h1, h2, h3⟩ := h
  refine ⟨ao, cap, hv, h1, h2, fun h0 => ?_⟩
  obtain ⟨g, h4, h5, h6⟩ := h3 h0
  exact ⟨g, h4, Nat.lt_of_lt_of_le h5 hb.size, fun i x hx => ⟨(hb.cell (p := ⟨g, _, none⟩) h5).trans (h6 i x hx).1, (hb.cell (p := ⟨g, _, none⟩) h5).trans (h6 i x hx).2.1, (hb.cell (p := ⟨g, _, none⟩) h5).trans (h6 i x hx).2.2⟩⟩
theorem atUp {α : Type} {num big : α → Nat} {a b : Nat} {s : Rm.S α} (h : Rm.At num big a s) (hk : a ≤ b) : Rm.At num big b s :=
  ⟨h.inv, h.num, by have := h.big; omega, by have := h.tasks; omega, h.one, by have := h.events; omega, by have := h.now; omega⟩
set_option maxRecDepth 100000 in
set_option maxHeartbeats 12800000 in
theorem roomPieces_any (v1 : Value) (Sc : List (List Rm.Ask)) (g : Int) (v3 : Value) (pl : List (Int × Int)) (cut : Int) (w : World) (h1 : ScRaw w v1 Sc) (_g0 : -9223372036854775808 ≤ g) (_g1 : g ≤ 9223372036854775807) (h3 : PicksAt w v3 pl ∧ PicksWf pl) (_c0 : -9223372036854775808 ≤ cut) (_c1 : cut ≤ 9223372036854775807) (hE : ErrT w) :
    Calls Tryz.prog 5 #[v1, .int .i64 g, v3, .int .i64 cut] w fun e w' => e = .returned (.bool true) ∧ Below w.heap.size w w' := by
  have H1 := Lib.hid h1
  have H3 := Lib.hid h3
  have HE := Lib.hid hE
  obtain ⟨⟨po, pcap, rfl, hpc, hpm, hpx⟩, -⟩ := h3
  obtain ⟨n, hn⟩ : ∃ n, n = pl.length := ⟨_, rfl⟩
  have HN := Lib.hid hn
  have HPX : Hid (0 < n → ∃ b o, po = some ⟨b, o, none⟩) := Lib.hid fun h0 => by obtain ⟨b, o, h8, _⟩ := hpx (by rw [← hn]; exact h0); exact ⟨b, o, h8⟩
  rw [← hn] at hpc H3 ⊢
  unfold maxLen at hpm
  clear h1 hE hn hpx
  go_enter Tryz.func5, Tryz.ntmps5
  go_wp2_with fail
  refine (roomed_any w HE.out).mono ?_
  rintro e w1 ⟨rfl, hb1⟩
  have HB1 := Lib.hid hb1
  clear hb1
  go_wp2_with fail
  refine (opened_any HB1.out H1.out H3.out.1 g).mono ?_
  rintro e w2 ho
  obtain ⟨p1, rfl, hb2, hd1⟩ := opened_ptr ho
  have HD1 := Lib.hid hd1
  have HB2 : Hid (Below w.heap.size w w2) := Lib.hid (HB1.out.trans (hb2.mono HB1.out.size))
  clear ho hb2 hd1
  go_wp2_with fail
  refine (opened_any HB2.out H1.out H3.out.1 g).mono ?_
  rintro e w3 ho
  obtain ⟨p2, rfl, hb3, hd2⟩ := opened_ptr ho
  have HD2 := Lib.hid hd2
  have HB23 := Lib.hid hb3
  have HB3 : Hid (Below w.heap.size w w3) := Lib.hid (HB2.out.trans (hb3.mono HB2.out.size))
  clear ho hb3 hd2
  go_wp2_with fail
  refine (opened_any HB3.out H1.out H3.out.1 g).mono ?_
  rintro e w4 ho
  obtain ⟨p3, rfl, hb4, hd3⟩ := opened_ptr ho
  have HD3 := Lib.hid hd3
  have HB34 := Lib.hid hb4
  have HB4 : Hid (Below w.heap.size w w4) := Lib.hid (HB3.out.trans (hb4.mono HB3.out.size))
  clear ho hb4 hd3
  rcases HD1.out with e1 | ⟨C1, r1, τ1, e1, hD1, hT1, hA1, hf1, hn80⟩
  · subst e1
    go_wp2_with fail
    go_ret
    exact ⟨rfl, HB4.out⟩
  rcases HD2.out with e2 | ⟨C2, r2, τ2, e2, hD2, hT2, hA2, hf2, -⟩
  · subst e1 e2
    go_wp2_with fail
    go_ret
    exact ⟨rfl, HB4.out⟩
  rcases HD3.out with e3 | ⟨C3, r3, τ3, e3, hD3, hT3, hA3, hf3, -⟩
  · subst e1 e2 e3
    go_wp2_with fail
    go_ret
    exact ⟨rfl, HB4.out⟩
  subst e1 e2 e3
  have hT1' := hT1.new (Keeps.of_new HB23.out)
  have hT1'' := hT1'.new (Keeps.of_new HB34.out)
  have hT2' := hT2.new (Keeps.of_new HB34.out)
  have h3R : Three w C1 C2 C3 w4 τ1 τ2 τ3 r1 r2 r3 0 0 0 _ _ _ := ⟨hT1'', hT2', hT3, fresh_apart hT1 hf2, fresh_apart hT1' hf3, fresh_apart hT2 hf3⟩
  rw [← HN.out] at hn80
  obtain ⟨D, hDe⟩ : ∃ D, D = pyDoer Sc := ⟨_, rfl⟩
  rw [← hDe] at hD1 hD2 hD3
  generalize Rm.start (pyDoer Sc) (pickN g 9) py0 = s0 at *
  obtain ⟨sF, hsF⟩ : ∃ x, x = (Rm.play D s0 pl).1 := ⟨_, rfl⟩
  obtain ⟨cF, hcF⟩ : ∃ x, x = (Rm.play D s0 pl).2 := ⟨_, rfl⟩
  have hcn : cF ≤ n := by rw [hcF, HN.out]; exact Rm.play_le2 _ _
  have hPA := play_open h3R.a hA1 HE.out H3.out.1 H3.out.2 (by rw [← HN.out]; omega) (by rw [← HN.out]; omega)
  rw [hD1, ← hsF, ← hcF, ← HN.out] at hPA
  have HPA := Lib.hid hPA
  have H3R := Lib.hid h3R
  have hAF : Rm.At C1.num C1.big (0 + pl.length) sF := by rw [hsF, ← hD1]; exact hA1.play C1.bd pl
  rw [← HN.out] at hAF
  have HAF := Lib.hid hAF
  have HAF2 : Hid (Rm.At C2.num C2.big (0 + pl.length) sF) := Lib.hid (by rw [hsF, ← hD2]; exact hA2.play C2.bd pl)
  rw [← HN.out] at HAF2
  have HA2 := Lib.hid hA2
  have HA3 := Lib.hid hA3
  have HDD2 := Lib.hid hD2
  have HDD3 := Lib.hid hD3
  have HSF := Lib.hid hsF
  have HCF := Lib.hid hcF
  obtain ⟨q, hq⟩ : ∃ q, q = pickN cut (n + 1) := ⟨_, rfl⟩
  have hqn : q ≤ n := by rw [hq]; have := pickN_lt cut (n + 1) (by omega) (by omega); omega
  have HPK : Hid (∀ W, Calls Tryz.prog 29 #[.int .i64 cut, .int .i64 ((n : Int) + 1)] W fun e w' => e = .returned (.int .i64 (q : Nat)) ∧ W = w') := Lib.hid fun W => by
    rw [hq]; exact pickV_any cut (n + 1) W (by omega) (by omega)
  have hwn : IntKind.i64.wrap ((n : Int) + 1) = (n : Int) + 1 := IntWalk.i64_in _ (by omega)
  clear HD1 HD2 HD3 hT1 hT1' hT1'' hT2 hT2' hT3 hf1 hf2 hf3 h3R hA1 hA2 hA3 hD1 hD2 hD3 hPA hAF hsF hcF hq hDe
  go_wp2_with fail
  refine (HPK.out w4).mono ?_
  rintro e w5 ⟨rfl, rfl⟩
  go_wp2_with fail
  refine HPA.out.mono ?_
  rintro e w5 ⟨rfl, hg5⟩
  obtain ⟨τ1', h3b⟩ := H3R.out.goA hg5
  obtain ⟨sq, hsq⟩ : ∃ x, x = (Rm.play D s0 (pl.take q)).1 := ⟨_, rfl⟩
  obtain ⟨cq, hcq⟩ : ∃ x, x = (Rm.play D s0 (pl.take q)).2 := ⟨_, rfl⟩
  have htl : (pl.take q).length = q := by rw [List.length_take, ← HN.out]; omega
  have hPB := play_open h3b.b HA2.out HE.out (H3.out.1.take q hqn) (H3.out.2.take q) (by rw [htl]; omega) (by rw [htl]; omega)
  rw [HDD2.out, ← hsq, ← hcq, htl] at hPB
  have HPB := Lib.hid hPB
  have H3B := Lib.hid h3b
  have hap := Rm.play_append (D := D) (pl.take q) (pl.drop q) s0
  rw [List.take_append_drop, htl, ← hcq, ← hsq] at hap
  have HAP := Lib.hid hap
  have HAQ : Hid (Rm.At C2.num C2.big (0 + q) sq) := Lib.hid (by
    have h9 := HA2.out.play C2.bd (pl.take q)
    rw [HDD2.out, htl, ← hsq] at h9; exact h9)
  have hq1 : (0 : Int) ≤ (q : Int) ∧ (q : Int) ≤ (n : Int) ∧ (q : Int) ≤ (pcap : Int) := by omega
  have hq2 : (0 : Int) ≤ (q : Int) ∧ (q : Int) ≤ (pcap : Int) := by omega
  have hq3 : q ≤ pcap := by omega
  have hcql : cq ≤ q := by rw [hcq]; have := Rm.play_le2 (D := D) (pl.take q) s0; omega
  have HSQ := Lib.hid hsq
  have HCQ := Lib.hid hcq
  clear hg5 h3b hsq hcq hPB hap htl HPA H3R HPK hwn
  go_wp2_with fail
  refine HPB.out.mono ?_
  rintro e w6 ⟨rfl, hg6⟩
  obtain ⟨τ2', h3c⟩ := H3B.out.goB hg6
  have H3C := Lib.hid h3c
  clear hg6 h3c HPB H3B
  by_cases hqe : cq = q
  · have hap2 := HAP.out
    rw [if_pos hqe] at hap2
    have hqq : ((cq : Int) == (q : Int)) = true := by rw [beq_iff_eq]; omega
    have HC3 := Lib.hid H3C.out
    by_cases hpq : q = pcap
    · have hqz : n ≤ q := by omega
      subst hpq
      have hdl : (pl.drop q).length = n - q := by rw [List.length_drop, ← HN.out]
      have hPC := play_open H3C.out.b HAQ.out HE.out (H3.out.1.dropE q (by omega)) (H3.out.2.drop q) (by rw [hdl]; omega) (by rw [hdl]; omega)
      obtain ⟨c2, hc2⟩ : ∃ z, z = (Rm.play D sq (pl.drop q)).2 := ⟨_, rfl⟩
      have hsF : (Rm.play D sq (pl.drop q)).1 = sF := by rw [HSF.out, hap2]
      have hcF : cF = q + c2 := by rw [HCF.out, hap2, hc2]
      rw [HDD2.out, hsF, ← hc2, hdl] at hPC
      have HPC := Lib.hid hPC
      have hw9 : IntKind.i64.wrap ((q : Int) + (c2 : Int)) = (cF : Int) := by rw [IntWalk.i64_in _ (by omega)]; omega
      clear hPC hdl hsF hc2 hap2 hcF
      go_wp2_with fail
      refine HPC.out.mono ?_
      rintro e w7 ⟨rfl, hg7⟩
      obtain ⟨τ2'', h3d⟩ := H3C.out.goB hg7
      have H3D := Lib.hid h3d
      clear hg7 h3d HPC
      go_wp2_with fail
      go_loopw [14] (fun kv wr => ∃ (k : Nat) (τ3' : Nat → RR), k ≤ n ∧ kv = .int .i64 k ∧ (Rm.play D s0 (pl.take k)).2 = k ∧ Three w C1 C2 C3 wr τ1' τ2'' τ3' r1 r2 r3 (0 + n) (0 + q + (n - q)) k sF sF (Rm.play D s0 (pl.take k)).1) (fun kv _ => n - (intOf kv).toNat)
      case atStart => exact ⟨0, τ3, Nat.zero_le _, rfl, rfl, H3D.out⟩
      case round =>
        obtain ⟨k, τ3', hk, rfl, hpk, h3e⟩ := hrel
        rename World => wr
        have HPKK := Lib.hid hpk
        have H3E := Lib.hid h3e
        have HAK : Rm.At C3.num C3.big (0 + (pl.take k).length) (Rm.play D s0 (pl.take k)).1 := by
          have h9 := HA3.out.play C3.bd (pl.take k)
          rw [HDD3.out] at h9; exact h9
        rw [show 0 + (pl.take k).length = k by rw [List.length_take, ← HN.out]; omega] at HAK
        have HAKK := Lib.hid HAK
        clear hpk h3e HAK
        by_cases hkn : k < n
        · obtain ⟨⟨x, y⟩, hx⟩ : ∃ x, pl[k]? = some x := ⟨_, List.getElem?_eq_getElem (by rw [← HN.out]; exact hkn)⟩
          obtain ⟨po', pcap', e, -, -, hcell⟩ := H3.out.1.below H3E.out.a.bel
          obtain ⟨gp, go, e2, hgl, hcell⟩ := hcell (by rw [← HN.out]; omega)
          obtain ⟨p0, p1⟩ := hcell k _ hx
          injection e with e3 e4 e5
          rw [e2] at e3
          have hyb := (H3.out.2 _ (List.mem_of_getElem? hx)).2
          have hxb := (H3.out.2 _ (List.mem_of_getElem? hx)).1
          obtain ⟨pa1, pa2⟩ := play_at D pl s0 k _ hx HPKK.out
          simp only at p0 p1 hyb hxb pa1 pa2
          have PA1 := Lib.hid pa1
          have PA2 := Lib.hid pa2
          obtain ⟨sk, hsk⟩ : ∃ z, z = (Rm.play D s0 (pl.take k)).1 := ⟨_, rfl⟩
          rw [← hsk] at PA1 PA2 H3E HAKK
          have hkk : (0 : Int) ≤ (k : Int) ∧ (k : Int) < (n : Int) := by omega
          obtain ⟨wb, hwb⟩ : ∃ wb, wb = wr.alloc (.cells #[.int .i64 x, .int .i64 y] 43) := ⟨_, rfl⟩
          have hcc := alloc_cells wr #[.int .i64 x, .int .i64 y] 43
          rw [← hwb] at hcc
          have x0 : wb.cell? ⟨wr.heap.size, 0, none⟩ = some (.int .i64 x) := hcc 0 _ rfl
          have x1 : wb.cell? ⟨wr.heap.size, 1, none⟩ = some (.int .i64 y) := hcc 1 _ rfl
          have hbb : Below wr.heap.size wr wb := by rw [hwb]; exact (Below.refl _ wr).alloc (Nat.le_refl _) _
          have hzb : wb.frozen? ⟨wr.heap.size, 0, none⟩ = false := by rw [hwb, World.frozen?_alloc_at _ _ _ _ rfl]
          have hfr : (τ1' wr.heap.size = .free ∧ τ2'' wr.heap.size = .free ∧ τ3' wr.heap.size = .free) ∧ w.heap.size ≤ wr.heap.size :=
            ⟨⟨Classical.byContradiction fun e => by have := H3E.out.a.dom _ e; omega, Classical.byContradiction fun e => by have := H3E.out.b.dom _ e; omega, Classical.byContradiction fun e => by have := H3E.out.c.dom _ e; omega⟩, H3E.out.a.bel.size⟩
          have HFR := Lib.hid hfr
          have H3F := Lib.hid (H3E.out.new (Keeps.of_new hbb))
          have HCH := Lib.hid (choices_open H3F.out.c HAKK.out (by omega))
          obtain ⟨nn, hnn⟩ : ∃ z, z = Rm.choices sk := ⟨_, rfl⟩
          have hnb : nn ≤ 100000 := by
            rw [hnn]
            have h9 := HAKK.out.inv.few
            have h8 : (Rm.ready sk).length ≤ sk.live.length := List.length_filter_le _ _
            unfold Rm.choices
            split
            · split <;> omega
            · omega
          have HNN := Lib.hid hnn
          rw [← hnn] at HCH PA1 PA2
          clear hcell hx e4 e5 hcc hbb hfr pa1 pa2 hsk e2 hgl hnn
          subst e3
          go_upto_region 15 with fail
          rw [← hwb]
          clear hwb p0 p1
          generalize wr.heap.size = pb at *
          go_wp2_with fail
          refine HCH.out.mono ?_
          rintro e wc ⟨rfl, hbc⟩
          have y0 := (hbc.cell (p := ⟨pb, 0, none⟩) (block_lt_of_cell x0)).trans x0
          have y1 := (hbc.cell (p := ⟨pb, 1, none⟩) (block_lt_of_cell x1)).trans x1
          have yz : wc.frozen? ⟨pb, 0, none⟩ = false := by rw [(Keeps.of_new (S := fun _ => False) hbc).frozen (p := ⟨pb, 0, none⟩) (block_lt_of_cell x0) id]; exact hzb
          have H3G := Lib.hid (H3F.out.new (Keeps.of_new hbc))
          clear hbc x0 x1 hzb HCH
          by_cases hz : nn = 0
          · have hzi : ¬ (0 : Int) < (nn : Int) := by omega
            have HT := Lib.hid (turn_open H3G.out.c HAKK.out HE.out (by omega) (by omega) x y hyb)
            have hch : Rm.choices sk = 0 := HNN.out.symm.trans hz
            have hts : Rm.turn C3.D sk x y = sk := if_pos hch
            rw [hts, hch] at HT
            have hpe := PA1.out hz
            have hsk : sF = sk := by rw [HSF.out, hpe]
            have hck : cF = k := by rw [HCF.out, hpe]
            clear hts hch hpe
            go_wp2_with fail
            refine HT.out.mono ?_
            rintro e wd ⟨rfl, hgd⟩
            obtain ⟨τ3'', h3h⟩ := H3G.out.goC hgd
            rw [← hsk] at h3h HAKK
            have H3Z := Lib.hid h3h
            have HAK : Rm.At C3.num C3.big n sF := atUp HAKK.out (by omega)
            clear hgd h3h hsk
            have hcc1 : ((cF : Int) == (cF : Int)) = true := by simp
            subst hck
            have hAk := HAK
            have HX1 := Lib.hid (halled2 H3Z.out.a HAF.out (by omega) (by omega))
            go_wp2_with fail
            refine HX1.out.mono ?_
            rintro e x1 ⟨va, rfl, hra, hbx1⟩
            have HRA := Lib.hid hra
            have H3Y := Lib.hid (H3Z.out.new (Keeps.of_new hbx1))
            have HX2 := Lib.hid (halled2 H3Y.out.b HAF2.out (by omega) (by omega))
            clear hra hbx1 HX1
            go_wp2_with fail
            refine HX2.out.mono ?_
            rintro e x2 ⟨vb, rfl, hrb, hbx2⟩
            have H3X := Lib.hid (H3Y.out.new (Keeps.of_new hbx2))
            have HX3 := Lib.hid (sameHall_any (HRA.out.below hbx2) hrb)
            clear hrb hbx2 HX2 HRA
            go_wp2_with fail
            refine HX3.out.mono ?_
            rintro e x3 ⟨rfl, hbx3⟩
            have H3W := Lib.hid (H3X.out.new (Keeps.of_new hbx3))
            have HX4 := Lib.hid (halled2 H3W.out.a HAF.out (by omega) (by omega))
            clear hbx3 HX3
            go_wp2_with fail
            refine HX4.out.mono ?_
            rintro e x4 ⟨vc, rfl, hrc, hbx4⟩
            have HRC := Lib.hid hrc
            have H3V := Lib.hid (H3W.out.new (Keeps.of_new hbx4))
            have HX5 := Lib.hid (halled2 H3V.out.c hAk (by omega) (by omega))
            clear hrc hbx4 HX4
            go_wp2_with fail
            refine HX5.out.mono ?_
            rintro e x5 ⟨vd, rfl, hrd, hbx5⟩
            have H3U := Lib.hid (H3V.out.new (Keeps.of_new hbx5))
            have HX6 := Lib.hid (sameHall_any (HRC.out.below hbx5) hrd)
            clear hrd hbx5 HX5 HRC
            go_wp2_with fail
            refine HX6.out.mono ?_
            rintro e x6 ⟨rfl, hbx6⟩
            have H3T := Lib.hid (H3U.out.new (Keeps.of_new hbx6))
            have HX7 := Lib.hid (events_open H3T.out.a HAF.out (by omega))
            clear hbx6 HX6
            go_wp2_with fail
            refine HX7.out.mono ?_
            rintro e x7 ⟨ve, rfl, hoe, hbx7⟩
            have HRE := Lib.hid (readE_of hoe)
            have H3S := Lib.hid (H3T.out.new (Keeps.of_new hbx7))
            have HX8 := Lib.hid (events_open H3S.out.b HAF2.out (by omega))
            clear hoe hbx7 HX7
            go_wp2_with fail
            refine HX8.out.mono ?_
            rintro e x8 ⟨vf, rfl, hof, hbx8⟩
            have HX9 := Lib.hid (equalE_any (readE_below HRE.out hbx8) (readE_of hof) (by have := HAF.out.events; omega))
            have HBZ := Lib.hid (H3S.out.a.bel.trans (hbx8.mono H3S.out.a.bel.size))
            clear hof hbx8 HX8
            go_wp2_with fail
            refine HX9.out.mono ?_
            rintro e x9 ⟨rfl, nz, rfl⟩
            have HBQ : Hid (Below w.heap.size w (x8.drewN nz)) := Lib.hid (HBZ.out.trans ((below_drewN x8 nz).mono HBZ.out.size))
            go_wp2_with fail
            go_ret
            exact ⟨rfl, HBQ.out⟩
          · have hzi : (0 : Int) < (nn : Int) := by omega
            have hz0 : ((nn : Int) == 0) = false := by rw [beq_eq_false_iff_ne]; omega
            have hz1 : ¬ (nn : Int) = 0 := by omega
            obtain ⟨w1e, w2e, w3e⟩ := drawn_rem x (m := nn) (by omega) (by omega)
            have HPI := Lib.hid (pickV_any (x.tmod (nn : Int) + (nn : Int)) nn wc (by omega) (by omega))
            rw [pick_drawn x (by omega) (by omega)] at HPI
            obtain ⟨dr, hdr⟩ : ∃ z, z = drawn x nn := ⟨_, rfl⟩
            rw [← hdr] at HPI w3e
            have hw3 : IntKind.i64.wrap ((dr : Int) + (nn : Int)) = (dr : Int) + (nn : Int) := IntWalk.i64_in _ (by omega)
            obtain ⟨we, hwe⟩ : ∃ we, we = wc.setCell ⟨pb, 0, none⟩ (.int .i64 ((dr : Int) + (nn : Int))) := ⟨_, rfl⟩
            have z0 : we.cell? ⟨pb, 0, none⟩ = some (.int .i64 ((dr : Int) + (nn : Int))) := by rw [hwe]; exact World.cell?_setCell_same _ _ _ y0
            have z1 : we.cell? ⟨pb, 1, none⟩ = some (.int .i64 y) := by rw [hwe, World.cell?_setCell_other _ _ _ _ (by intro e; injection e with _ e; omega)]; exact y1
            have hkE : Keeps (fun b => b = pb) wc we := by rw [hwe]; exact (Keeps.refl (fun b => b = pb) wc).setCell (p := ⟨pb, 0, none⟩) (Or.inl rfl) _
            have h3h := H3G.out.keeps hkE fun b e => by rw [show b = pb from e]; exact HFR.out
            have H3H := Lib.hid h3h
            have HT := Lib.hid (turn_open h3h.c HAKK.out HE.out (by omega) (by omega) ((dr : Int) + (nn : Int)) y hyb)
            have hts : Rm.turn C3.D sk ((dr : Int) + (nn : Int)) y = Rm.turn D sk x y := by
              rw [HDD3.out]
              refine Rm.turn_same ?_ y
              rw [← HNN.out, Rm.drawn_round x (by omega) (dr : Int) (by rw [hdr])]
            have hpe := PA2.out (by omega)
            rw [hts, ← HNN.out, show decide (nn ≠ 0) = true from decide_eq_true hz] at HT
            have HPE := Lib.hid hpe
            clear hts hpe hkE h3h hdr w2e w3e
            go_wp2_with fail
            refine HPI.out.mono ?_
            rintro e wc2 ⟨rfl, rfl⟩
            go_upto_region 18 with fail
            rw [← hwe]
            clear hwe y0 y1 yz
            go_wp2_with fail
            refine HT.out.mono ?_
            rintro e wd ⟨rfl, hgd⟩
            obtain ⟨τ3'', h3i⟩ := H3H.out.goC hgd
            have h3j : Three w C1 C2 C3 wd τ1' τ2'' τ3'' r1 r2 r3 (0 + n) (0 + q + (n - q)) (k + 1) sF sF (Rm.play D s0 (pl.take (k + 1))).1 := by rw [HPE.out]; exact h3i
            have H3J := Lib.hid h3j
            have HP2 : Hid ((Rm.play D s0 (pl.take (k + 1))).2 = k + 1) := Lib.hid (by rw [HPE.out])
            clear hgd h3i h3j z0 z1
            go_wp2_with fail
            go_roundw
            case rel => exact ⟨k + 1, τ3'', by omega, by go_num, HP2.out, H3J.out⟩
            case measure => simp [intOf]; omega
        · obtain rfl : k = n := by omega
          have hkk : ¬ (k : Int) < (k : Int) := by omega
          have hall : pl.take k = pl := by rw [HN.out, List.take_length]
          rw [hall, ← HSF.out] at H3E HAKK
          rw [hall, ← HCF.out] at HPKK
          have hck : cF = k := HPKK.out
          have H3Z := Lib.hid H3E.out
          have HAK : Rm.At C3.num C3.big k sF := HAKK.out
          have hcc1 : ((cF : Int) == (cF : Int)) = true := by simp
          clear hall
          subst hck
          have hAk := HAK
          have HX1 := Lib.hid (halled2 H3Z.out.a HAF.out (by omega) (by omega))
          go_wp2_with fail
          refine HX1.out.mono ?_
          rintro e x1 ⟨va, rfl, hra, hbx1⟩
          have HRA := Lib.hid hra
          have H3Y := Lib.hid (H3Z.out.new (Keeps.of_new hbx1))
          have HX2 := Lib.hid (halled2 H3Y.out.b HAF2.out (by omega) (by omega))
          clear hra hbx1 HX1
          go_wp2_with fail
          refine HX2.out.mono ?_
          rintro e x2 ⟨vb, rfl, hrb, hbx2⟩
          have H3X := Lib.hid (H3Y.out.new (Keeps.of_new hbx2))
          have HX3 := Lib.hid (sameHall_any (HRA.out.below hbx2) hrb)
          clear hrb hbx2 HX2 HRA
          go_wp2_with fail
          refine HX3.out.mono ?_
          rintro e x3 ⟨rfl, hbx3⟩
          have H3W := Lib.hid (H3X.out.new (Keeps.of_new hbx3))
          have HX4 := Lib.hid (halled2 H3W.out.a HAF.out (by omega) (by omega))
          clear hbx3 HX3
          go_wp2_with fail
          refine HX4.out.mono ?_
          rintro e x4 ⟨vc, rfl, hrc, hbx4⟩
          have HRC := Lib.hid hrc
          have H3V := Lib.hid (H3W.out.new (Keeps.of_new hbx4))
          have HX5 := Lib.hid (halled2 H3V.out.c hAk (by omega) (by omega))
          clear hrc hbx4 HX4
          go_wp2_with fail
          refine HX5.out.mono ?_
          rintro e x5 ⟨vd, rfl, hrd, hbx5⟩
          have H3U := Lib.hid (H3V.out.new (Keeps.of_new hbx5))
          have HX6 := Lib.hid (sameHall_any (HRC.out.below hbx5) hrd)
          clear hrd hbx5 HX5 HRC
          go_wp2_with fail
          refine HX6.out.mono ?_
          rintro e x6 ⟨rfl, hbx6⟩
          have H3T := Lib.hid (H3U.out.new (Keeps.of_new hbx6))
          have HX7 := Lib.hid (events_open H3T.out.a HAF.out (by omega))
          clear hbx6 HX6
          go_wp2_with fail
          refine HX7.out.mono ?_
          rintro e x7 ⟨ve, rfl, hoe, hbx7⟩
          have HRE := Lib.hid (readE_of hoe)
          have H3S := Lib.hid (H3T.out.new (Keeps.of_new hbx7))
          have HX8 := Lib.hid (events_open H3S.out.b HAF2.out (by omega))
          clear hoe hbx7 HX7
          go_wp2_with fail
          refine HX8.out.mono ?_
          rintro e x8 ⟨vf, rfl, hof, hbx8⟩
          have HX9 := Lib.hid (equalE_any (readE_below HRE.out hbx8) (readE_of hof) (by have := HAF.out.events; omega))
          have HBZ := Lib.hid (H3S.out.a.bel.trans (hbx8.mono H3S.out.a.bel.size))
          clear hof hbx8 HX8
          go_wp2_with fail
          refine HX9.out.mono ?_
          rintro e x9 ⟨rfl, nz, rfl⟩
          have HBQ : Hid (Below w.heap.size w (x8.drewN nz)) := Lib.hid (HBZ.out.trans ((below_drewN x8 nz).mono HBZ.out.size))
          go_wp2_with fail
          go_ret
          exact ⟨rfl, HBQ.out⟩
    · have hpq2 : ¬ (pcap : Int) = (q : Int) := by omega
      have hdl : (pl.drop q).length = n - q := by rw [List.length_drop, ← HN.out]
      have hPC := play_open H3C.out.b HAQ.out HE.out (H3.out.1.dropM q hqn) (H3.out.2.drop q) (by rw [hdl]; omega) (by rw [hdl]; omega)
      obtain ⟨c2, hc2⟩ : ∃ z, z = (Rm.play D sq (pl.drop q)).2 := ⟨_, rfl⟩
      have hsF : (Rm.play D sq (pl.drop q)).1 = sF := by rw [HSF.out, hap2]
      have hcF : cF = q + c2 := by rw [HCF.out, hap2, hc2]
      rw [HDD2.out, hsF, ← hc2, hdl] at hPC
      have HPC := Lib.hid hPC
      have hw9 : IntKind.i64.wrap ((q : Int) + (c2 : Int)) = (cF : Int) := by rw [IntWalk.i64_in _ (by omega)]; omega
      clear hPC hdl hsF hc2 hap2 hcF
      go_wp2_with fail
      refine HPC.out.mono ?_
      rintro e w7 ⟨rfl, hg7⟩
      obtain ⟨τ2'', h3d⟩ := H3C.out.goB hg7
      have H3D := Lib.hid h3d
      clear hg7 h3d HPC
      go_wp2_with fail
      generalize (Option.map (fun x : Addr => x.add (q * 2)) po) = pm at *
      go_loopw [14] (fun kv wr => ∃ (k : Nat) (τ3' : Nat → RR), k ≤ n ∧ kv = .int .i64 k ∧ (Rm.play D s0 (pl.take k)).2 = k ∧ Three w C1 C2 C3 wr τ1' τ2'' τ3' r1 r2 r3 (0 + n) (0 + q + (n - q)) k sF sF (Rm.play D s0 (pl.take k)).1) (fun kv _ => n - (intOf kv).toNat)
      case atStart => exact ⟨0, τ3, Nat.zero_le _, rfl, rfl, H3D.out⟩
      case round =>
        obtain ⟨k, τ3', hk, rfl, hpk, h3e⟩ := hrel
        rename World => wr
        have HPKK := Lib.hid hpk
        have H3E := Lib.hid h3e
        have HAK : Rm.At C3.num C3.big (0 + (pl.take k).length) (Rm.play D s0 (pl.take k)).1 := by
          have h9 := HA3.out.play C3.bd (pl.take k)
          rw [HDD3.out] at h9; exact h9
        rw [show 0 + (pl.take k).length = k by rw [List.length_take, ← HN.out]; omega] at HAK
        have HAKK := Lib.hid HAK
        clear hpk h3e HAK
        by_cases hkn : k < n
        · obtain ⟨⟨x, y⟩, hx⟩ : ∃ x, pl[k]? = some x := ⟨_, List.getElem?_eq_getElem (by rw [← HN.out]; exact hkn)⟩
          obtain ⟨po', pcap', e, -, -, hcell⟩ := H3.out.1.below H3E.out.a.bel
          obtain ⟨gp, go, e2, hgl, hcell⟩ := hcell (by rw [← HN.out]; omega)
          obtain ⟨p0, p1⟩ := hcell k _ hx
          injection e with e3 e4 e5
          rw [e2] at e3
          have hyb := (H3.out.2 _ (List.mem_of_getElem? hx)).2
          have hxb := (H3.out.2 _ (List.mem_of_getElem? hx)).1
          obtain ⟨pa1, pa2⟩ := play_at D pl s0 k _ hx HPKK.out
          simp only at p0 p1 hyb hxb pa1 pa2
          have PA1 := Lib.hid pa1
          have PA2 := Lib.hid pa2
          obtain ⟨sk, hsk⟩ : ∃ z, z = (Rm.play D s0 (pl.take k)).1 := ⟨_, rfl⟩
          rw [← hsk] at PA1 PA2 H3E HAKK
          have hkk : (0 : Int) ≤ (k : Int) ∧ (k : Int) < (n : Int) := by omega
          obtain ⟨wb, hwb⟩ : ∃ wb, wb = wr.alloc (.cells #[.int .i64 x, .int .i64 y] 43) := ⟨_, rfl⟩
          have hcc := alloc_cells wr #[.int .i64 x, .int .i64 y] 43
          rw [← hwb] at hcc
          have x0 : wb.cell? ⟨wr.heap.size, 0, none⟩ = some (.int .i64 x) := hcc 0 _ rfl
          have x1 : wb.cell? ⟨wr.heap.size, 1, none⟩ = some (.int .i64 y) := hcc 1 _ rfl
          have hbb : Below wr.heap.size wr wb := by rw [hwb]; exact (Below.refl _ wr).alloc (Nat.le_refl _) _
          have hzb : wb.frozen? ⟨wr.heap.size, 0, none⟩ = false := by rw [hwb, World.frozen?_alloc_at _ _ _ _ rfl]
          have hfr : (τ1' wr.heap.size = .free ∧ τ2'' wr.heap.size = .free ∧ τ3' wr.heap.size = .free) ∧ w.heap.size ≤ wr.heap.size :=
            ⟨⟨Classical.byContradiction fun e => by have := H3E.out.a.dom _ e; omega, Classical.byContradiction fun e => by have := H3E.out.b.dom _ e; omega, Classical.byContradiction fun e => by have := H3E.out.c.dom _ e; omega⟩, H3E.out.a.bel.size⟩
          have HFR := Lib.hid hfr
          have H3F := Lib.hid (H3E.out.new (Keeps.of_new hbb))
          have HCH := Lib.hid (choices_open H3F.out.c HAKK.out (by omega))
          obtain ⟨nn, hnn⟩ : ∃ z, z = Rm.choices sk := ⟨_, rfl⟩
          have hnb : nn ≤ 100000 := by
            rw [hnn]
            have h9 := HAKK.out.inv.few
            have h8 : (Rm.ready sk).length ≤ sk.live.length := List.length_filter_le _ _
            unfold Rm.choices
            split
            · split <;> omega
            · omega
          have HNN := Lib.hid hnn
          rw [← hnn] at HCH PA1 PA2
          clear hcell hx e4 e5 hcc hbb hfr pa1 pa2 hsk e2 hgl hnn
          subst e3
          go_upto_region 15 with fail
          rw [← hwb]
          clear hwb p0 p1
          generalize wr.heap.size = pb at *
          go_wp2_with fail
          refine HCH.out.mono ?_
          rintro e wc ⟨rfl, hbc⟩
          have y0 := (hbc.cell (p := ⟨pb, 0, none⟩) (block_lt_of_cell x0)).trans x0
          have y1 := (hbc.cell (p := ⟨pb, 1, none⟩) (block_lt_of_cell x1)).trans x1
          have yz : wc.frozen? ⟨pb, 0, none⟩ = false := by rw [(Keeps.of_new (S := fun _ => False) hbc).frozen (p := ⟨pb, 0, none⟩) (block_lt_of_cell x0) id]; exact hzb
          have H3G := Lib.hid (H3F.out.new (Keeps.of_new hbc))
          clear hbc x0 x1 hzb HCH
          by_cases hz : nn = 0
          · have hzi : ¬ (0 : Int) < (nn : Int) := by omega
            have HT := Lib.hid (turn_open H3G.out.c HAKK.out HE.out (by omega) (by omega) x y hyb)
            have hch : Rm.choices sk = 0 := HNN.out.symm.trans hz
            have hts : Rm.turn C3.D sk x y = sk := if_pos hch
            rw [hts, hch] at HT
            have hpe := PA1.out hz
            have hsk : sF = sk := by rw [HSF.out, hpe]
            have hck : cF = k := by rw [HCF.out, hpe]
            clear hts hch hpe
            go_wp2_with fail
            refine HT.out.mono ?_
            rintro e wd ⟨rfl, hgd⟩
            obtain ⟨τ3'', h3h⟩ := H3G.out.goC hgd
            rw [← hsk] at h3h HAKK
            have H3Z := Lib.hid h3h
            have HAK : Rm.At C3.num C3.big n sF := atUp HAKK.out (by omega)
            clear hgd h3h hsk
            have hcc1 : ((cF : Int) == (cF : Int)) = true := by simp
            subst hck
            have hAk := HAK
            have HX1 := Lib.hid (halled2 H3Z.out.a HAF.out (by omega) (by omega))
            go_wp2_with fail
            refine HX1.out.mono ?_
            rintro e x1 ⟨va, rfl, hra, hbx1⟩
            have HRA := Lib.hid hra
            have H3Y := Lib.hid (H3Z.out.new (Keeps.of_new hbx1))
            have HX2 := Lib.hid (halled2 H3Y.out.b HAF2.out (by omega) (by omega))
            clear hra hbx1 HX1
            go_wp2_with fail
            refine HX2.out.mono ?_
            rintro e x2 ⟨vb, rfl, hrb, hbx2⟩
            have H3X := Lib.hid (H3Y.out.new (Keeps.of_new hbx2))
            have HX3 := Lib.hid (sameHall_any (HRA.out.below hbx2) hrb)
            clear hrb hbx2 HX2 HRA
            go_wp2_with fail
            refine HX3.out.mono ?_
            rintro e x3 ⟨rfl, hbx3⟩
            have H3W := Lib.hid (H3X.out.new (Keeps.of_new hbx3))
            have HX4 := Lib.hid (halled2 H3W.out.a HAF.out (by omega) (by omega))
            clear hbx3 HX3
            go_wp2_with fail
            refine HX4.out.mono ?_
            rintro e x4 ⟨vc, rfl, hrc, hbx4⟩
            have HRC := Lib.hid hrc
            have H3V := Lib.hid (H3W.out.new (Keeps.of_new hbx4))
            have HX5 := Lib.hid (halled2 H3V.out.c hAk (by omega) (by omega))
            clear hrc hbx4 HX4
            go_wp2_with fail
            refine HX5.out.mono ?_
            rintro e x5 ⟨vd, rfl, hrd, hbx5⟩
            have H3U := Lib.hid (H3V.out.new (Keeps.of_new hbx5))
            have HX6 := Lib.hid (sameHall_any (HRC.out.below hbx5) hrd)
            clear hrd hbx5 HX5 HRC
            go_wp2_with fail
            refine HX6.out.mono ?_
            rintro e x6 ⟨rfl, hbx6⟩
            have H3T := Lib.hid (H3U.out.new (Keeps.of_new hbx6))
            have HX7 := Lib.hid (events_open H3T.out.a HAF.out (by omega))
            clear hbx6 HX6
            go_wp2_with fail
            refine HX7.out.mono ?_
            rintro e x7 ⟨ve, rfl, hoe, hbx7⟩
            have HRE := Lib.hid (readE_of hoe)
            have H3S := Lib.hid (H3T.out.new (Keeps.of_new hbx7))
            have HX8 := Lib.hid (events_open H3S.out.b HAF2.out (by omega))
            clear hoe hbx7 HX7
            go_wp2_with fail
            refine HX8.out.mono ?_
            rintro e x8 ⟨vf, rfl, hof, hbx8⟩
            have HX9 := Lib.hid (equalE_any (readE_below HRE.out hbx8) (readE_of hof) (by have := HAF.out.events; omega))
            have HBZ := Lib.hid (H3S.out.a.bel.trans (hbx8.mono H3S.out.a.bel.size))
            clear hof hbx8 HX8
            go_wp2_with fail
            refine HX9.out.mono ?_
            rintro e x9 ⟨rfl, nz, rfl⟩
            have HBQ : Hid (Below w.heap.size w (x8.drewN nz)) := Lib.hid (HBZ.out.trans ((below_drewN x8 nz).mono HBZ.out.size))
            go_wp2_with fail
            go_ret
            exact ⟨rfl, HBQ.out⟩
          · have hzi : (0 : Int) < (nn : Int) := by omega
            have hz0 : ((nn : Int) == 0) = false := by rw [beq_eq_false_iff_ne]; omega
            have hz1 : ¬ (nn : Int) = 0 := by omega
            obtain ⟨w1e, w2e, w3e⟩ := drawn_rem x (m := nn) (by omega) (by omega)
            have HPI := Lib.hid (pickV_any (x.tmod (nn : Int) + (nn : Int)) nn wc (by omega) (by omega))
            rw [pick_drawn x (by omega) (by omega)] at HPI
            obtain ⟨dr, hdr⟩ : ∃ z, z = drawn x nn := ⟨_, rfl⟩
            rw [← hdr] at HPI w3e
            have hw3 : IntKind.i64.wrap ((dr : Int) + (nn : Int)) = (dr : Int) + (nn : Int) := IntWalk.i64_in _ (by omega)
            obtain ⟨we, hwe⟩ : ∃ we, we = wc.setCell ⟨pb, 0, none⟩ (.int .i64 ((dr : Int) + (nn : Int))) := ⟨_, rfl⟩
            have z0 : we.cell? ⟨pb, 0, none⟩ = some (.int .i64 ((dr : Int) + (nn : Int))) := by rw [hwe]; exact World.cell?_setCell_same _ _ _ y0
            have z1 : we.cell? ⟨pb, 1, none⟩ = some (.int .i64 y) := by rw [hwe, World.cell?_setCell_other _ _ _ _ (by intro e; injection e with _ e; omega)]; exact y1
            have hkE : Keeps (fun b => b = pb) wc we := by rw [hwe]; exact (Keeps.refl (fun b => b = pb) wc).setCell (p := ⟨pb, 0, none⟩) (Or.inl rfl) _
            have h3h := H3G.out.keeps hkE fun b e => by rw [show b = pb from e]; exact HFR.out
            have H3H := Lib.hid h3h
            have HT := Lib.hid (turn_open h3h.c HAKK.out HE.out (by omega) (by omega) ((dr : Int) + (nn : Int)) y hyb)
            have hts : Rm.turn C3.D sk ((dr : Int) + (nn : Int)) y = Rm.turn D sk x y := by
              rw [HDD3.out]
              refine Rm.turn_same ?_ y
              rw [← HNN.out, Rm.drawn_round x (by omega) (dr : Int) (by rw [hdr])]
            have hpe := PA2.out (by omega)
            rw [hts, ← HNN.out, show decide (nn ≠ 0) = true from decide_eq_true hz] at HT
            have HPE := Lib.hid hpe
            clear hts hpe hkE h3h hdr w2e w3e
            go_wp2_with fail
            refine HPI.out.mono ?_
            rintro e wc2 ⟨rfl, rfl⟩
            go_upto_region 18 with fail
            rw [← hwe]
            clear hwe y0 y1 yz
            go_wp2_with fail
            refine HT.out.mono ?_
            rintro e wd ⟨rfl, hgd⟩
            obtain ⟨τ3'', h3i⟩ := H3H.out.goC hgd
            have h3j : Three w C1 C2 C3 wd τ1' τ2'' τ3'' r1 r2 r3 (0 + n) (0 + q + (n - q)) (k + 1) sF sF (Rm.play D s0 (pl.take (k + 1))).1 := by rw [HPE.out]; exact h3i
            have H3J := Lib.hid h3j
            have HP2 : Hid ((Rm.play D s0 (pl.take (k + 1))).2 = k + 1) := Lib.hid (by rw [HPE.out])
            clear hgd h3i h3j z0 z1
            go_wp2_with fail
            go_roundw
            case rel => exact ⟨k + 1, τ3'', by omega, by go_num, HP2.out, H3J.out⟩
            case measure => simp [intOf]; omega
        · obtain rfl : k = n := by omega
          have hkk : ¬ (k : Int) < (k : Int) := by omega
          have hall : pl.take k = pl := by rw [HN.out, List.take_length]
          rw [hall, ← HSF.out] at H3E HAKK
          rw [hall, ← HCF.out] at HPKK
          have hck : cF = k := HPKK.out
          have H3Z := Lib.hid H3E.out
          have HAK : Rm.At C3.num C3.big k sF := HAKK.out
          have hcc1 : ((cF : Int) == (cF : Int)) = true := by simp
          clear hall
          subst hck
          have hAk := HAK
          have HX1 := Lib.hid (halled2 H3Z.out.a HAF.out (by omega) (by omega))
          go_wp2_with fail
          refine HX1.out.mono ?_
          rintro e x1 ⟨va, rfl, hra, hbx1⟩
          have HRA := Lib.hid hra
          have H3Y := Lib.hid (H3Z.out.new (Keeps.of_new hbx1))
          have HX2 := Lib.hid (halled2 H3Y.out.b HAF2.out (by omega) (by omega))
          clear hra hbx1 HX1
          go_wp2_with fail
          refine HX2.out.mono ?_
          rintro e x2 ⟨vb, rfl, hrb, hbx2⟩
          have H3X := Lib.hid (H3Y.out.new (Keeps.of_new hbx2))
          have HX3 := Lib.hid (sameHall_any (HRA.out.below hbx2) hrb)
          clear hrb hbx2 HX2 HRA
          go_wp2_with fail
          refine HX3.out.mono ?_
          rintro e x3 ⟨rfl, hbx3⟩
          have H3W := Lib.hid (H3X.out.new (Keeps.of_new hbx3))
          have HX4 := Lib.hid (halled2 H3W.out.a HAF.out (by omega) (by omega))
          clear hbx3 HX3
          go_wp2_with fail
          refine HX4.out.mono ?_
          rintro e x4 ⟨vc, rfl, hrc, hbx4⟩
          have HRC := Lib.hid hrc
          have H3V := Lib.hid (H3W.out.new (Keeps.of_new hbx4))
          have HX5 := Lib.hid (halled2 H3V.out.c hAk (by omega) (by omega))
          clear hrc hbx4 HX4
          go_wp2_with fail
          refine HX5.out.mono ?_
          rintro e x5 ⟨vd, rfl, hrd, hbx5⟩
          have H3U := Lib.hid (H3V.out.new (Keeps.of_new hbx5))
          have HX6 := Lib.hid (sameHall_any (HRC.out.below hbx5) hrd)
          clear hrd hbx5 HX5 HRC
          go_wp2_with fail
          refine HX6.out.mono ?_
          rintro e x6 ⟨rfl, hbx6⟩
          have H3T := Lib.hid (H3U.out.new (Keeps.of_new hbx6))
          have HX7 := Lib.hid (events_open H3T.out.a HAF.out (by omega))
          clear hbx6 HX6
          go_wp2_with fail
          refine HX7.out.mono ?_
          rintro e x7 ⟨ve, rfl, hoe, hbx7⟩
          have HRE := Lib.hid (readE_of hoe)
          have H3S := Lib.hid (H3T.out.new (Keeps.of_new hbx7))
          have HX8 := Lib.hid (events_open H3S.out.b HAF2.out (by omega))
          clear hoe hbx7 HX7
          go_wp2_with fail
          refine HX8.out.mono ?_
          rintro e x8 ⟨vf, rfl, hof, hbx8⟩
          have HX9 := Lib.hid (equalE_any (readE_below HRE.out hbx8) (readE_of hof) (by have := HAF.out.events; omega))
          have HBZ := Lib.hid (H3S.out.a.bel.trans (hbx8.mono H3S.out.a.bel.size))
          clear hof hbx8 HX8
          go_wp2_with fail
          refine HX9.out.mono ?_
          rintro e x9 ⟨rfl, nz, rfl⟩
          have HBQ : Hid (Below w.heap.size w (x8.drewN nz)) := Lib.hid (HBZ.out.trans ((below_drewN x8 nz).mono HBZ.out.size))
          go_wp2_with fail
          go_ret
          exact ⟨rfl, HBQ.out⟩
  · have hap2 := HAP.out
    rw [if_neg hqe] at hap2
    obtain ⟨τ2'', h3d⟩ : ∃ τ2'', Three w C1 C2 C3 w6 τ1' τ2'' τ3 r1 r2 r3 (0 + n) (0 + q) 0 sF sF s0 := ⟨τ2', by have h9 := H3C.out; rw [show sq = sF from by rw [HSF.out, hap2]; exact HSQ.out] at h9; exact h9⟩
    have H3D := Lib.hid h3d
    have hcF : cF = cq := by rw [HCF.out, hap2]; exact HCQ.out.symm
    have hqq : ((cq : Int) == (q : Int)) = false := by rw [beq_eq_false_iff_ne]; omega
    have hqq2 : ¬ (cq : Int) = (q : Int) := by omega
    clear h3d hap2
    subst hcF
    go_wp2_with fail
    go_loopw [14] (fun kv wr => ∃ (k : Nat) (τ3' : Nat → RR), k ≤ n ∧ kv = .int .i64 k ∧ (Rm.play D s0 (pl.take k)).2 = k ∧ Three w C1 C2 C3 wr τ1' τ2'' τ3' r1 r2 r3 (0 + n) (0 + q) k sF sF (Rm.play D s0 (pl.take k)).1) (fun kv _ => n - (intOf kv).toNat)
    case atStart => exact ⟨0, τ3, Nat.zero_le _, rfl, rfl, H3D.out⟩
    case round =>
      obtain ⟨k, τ3', hk, rfl, hpk, h3e⟩ := hrel
      rename World => wr
      have HPKK := Lib.hid hpk
      have H3E := Lib.hid h3e
      have HAK : Rm.At C3.num C3.big (0 + (pl.take k).length) (Rm.play D s0 (pl.take k)).1 := by
        have h9 := HA3.out.play C3.bd (pl.take k)
        rw [HDD3.out] at h9; exact h9
      rw [show 0 + (pl.take k).length = k by rw [List.length_take, ← HN.out]; omega] at HAK
      have HAKK := Lib.hid HAK
      clear hpk h3e HAK
      by_cases hkn : k < n
      · obtain ⟨⟨x, y⟩, hx⟩ : ∃ x, pl[k]? = some x := ⟨_, List.getElem?_eq_getElem (by rw [← HN.out]; exact hkn)⟩
        obtain ⟨po', pcap', e, -, -, hcell⟩ := H3.out.1.below H3E.out.a.bel
        obtain ⟨gp, go, e2, hgl, hcell⟩ := hcell (by rw [← HN.out]; omega)
        obtain ⟨p0, p1⟩ := hcell k _ hx
        injection e with e3 e4 e5
        rw [e2] at e3
        have hyb := (H3.out.2 _ (List.mem_of_getElem? hx)).2
        have hxb := (H3.out.2 _ (List.mem_of_getElem? hx)).1
        obtain ⟨pa1, pa2⟩ := play_at D pl s0 k _ hx HPKK.out
        simp only at p0 p1 hyb hxb pa1 pa2
        have PA1 := Lib.hid pa1
        have PA2 := Lib.hid pa2
        obtain ⟨sk, hsk⟩ : ∃ z, z = (Rm.play D s0 (pl.take k)).1 := ⟨_, rfl⟩
        rw [← hsk] at PA1 PA2 H3E HAKK
        have hkk : (0 : Int) ≤ (k : Int) ∧ (k : Int) < (n : Int) := by omega
        obtain ⟨wb, hwb⟩ : ∃ wb, wb = wr.alloc (.cells #[.int .i64 x, .int .i64 y] 43) := ⟨_, rfl⟩
        have hcc := alloc_cells wr #[.int .i64 x, .int .i64 y] 43
        rw [← hwb] at hcc
        have x0 : wb.cell? ⟨wr.heap.size, 0, none⟩ = some (.int .i64 x) := hcc 0 _ rfl
        have x1 : wb.cell? ⟨wr.heap.size, 1, none⟩ = some (.int .i64 y) := hcc 1 _ rfl
        have hbb : Below wr.heap.size wr wb := by rw [hwb]; exact (Below.refl _ wr).alloc (Nat.le_refl _) _
        have hzb : wb.frozen? ⟨wr.heap.size, 0, none⟩ = false := by rw [hwb, World.frozen?_alloc_at _ _ _ _ rfl]
        have hfr : (τ1' wr.heap.size = .free ∧ τ2'' wr.heap.size = .free ∧ τ3' wr.heap.size = .free) ∧ w.heap.size ≤ wr.heap.size :=
          ⟨⟨Classical.byContradiction fun e => by have := H3E.out.a.dom _ e; omega, Classical.byContradiction fun e => by have := H3E.out.b.dom _ e; omega, Classical.byContradiction fun e => by have := H3E.out.c.dom _ e; omega⟩, H3E.out.a.bel.size⟩
        have HFR := Lib.hid hfr
        have H3F := Lib.hid (H3E.out.new (Keeps.of_new hbb))
        have HCH := Lib.hid (choices_open H3F.out.c HAKK.out (by omega))
        obtain ⟨nn, hnn⟩ : ∃ z, z = Rm.choices sk := ⟨_, rfl⟩
        have hnb : nn ≤ 100000 := by
          rw [hnn]
          have h9 := HAKK.out.inv.few
          have h8 : (Rm.ready sk).length ≤ sk.live.length := List.length_filter_le _ _
          unfold Rm.choices
          split
          · split <;> omega
          · omega
        have HNN := Lib.hid hnn
        rw [← hnn] at HCH PA1 PA2
        clear hcell hx e4 e5 hcc hbb hfr pa1 pa2 hsk e2 hgl hnn
        subst e3
        go_upto_region 15 with fail
        rw [← hwb]
        clear hwb p0 p1
        generalize wr.heap.size = pb at *
        go_wp2_with fail
        refine HCH.out.mono ?_
        rintro e wc ⟨rfl, hbc⟩
        have y0 := (hbc.cell (p := ⟨pb, 0, none⟩) (block_lt_of_cell x0)).trans x0
        have y1 := (hbc.cell (p := ⟨pb, 1, none⟩) (block_lt_of_cell x1)).trans x1
        have yz : wc.frozen? ⟨pb, 0, none⟩ = false := by rw [(Keeps.of_new (S := fun _ => False) hbc).frozen (p := ⟨pb, 0, none⟩) (block_lt_of_cell x0) id]; exact hzb
        have H3G := Lib.hid (H3F.out.new (Keeps.of_new hbc))
        clear hbc x0 x1 hzb HCH
        by_cases hz : nn = 0
        · have hzi : ¬ (0 : Int) < (nn : Int) := by omega
          have HT := Lib.hid (turn_open H3G.out.c HAKK.out HE.out (by omega) (by omega) x y hyb)
          have hch : Rm.choices sk = 0 := HNN.out.symm.trans hz
          have hts : Rm.turn C3.D sk x y = sk := if_pos hch
          rw [hts, hch] at HT
          have hpe := PA1.out hz
          have hsk : sF = sk := by rw [HSF.out, hpe]
          have hck : cF = k := by rw [HCF.out, hpe]
          clear hts hch hpe
          go_wp2_with fail
          refine HT.out.mono ?_
          rintro e wd ⟨rfl, hgd⟩
          obtain ⟨τ3'', h3h⟩ := H3G.out.goC hgd
          rw [← hsk] at h3h HAKK
          have H3Z := Lib.hid h3h
          have HAK : Rm.At C3.num C3.big n sF := atUp HAKK.out (by omega)
          clear hgd h3h hsk
          have hcc1 : ((cF : Int) == (cF : Int)) = true := by simp
          subst hck
          have hAk := HAK
          have HX1 := Lib.hid (halled2 H3Z.out.a HAF.out (by omega) (by omega))
          go_wp2_with fail
          refine HX1.out.mono ?_
          rintro e x1 ⟨va, rfl, hra, hbx1⟩
          have HRA := Lib.hid hra
          have H3Y := Lib.hid (H3Z.out.new (Keeps.of_new hbx1))
          have HX2 := Lib.hid (halled2 H3Y.out.b HAF2.out (by omega) (by omega))
          clear hra hbx1 HX1
          go_wp2_with fail
          refine HX2.out.mono ?_
          rintro e x2 ⟨vb, rfl, hrb, hbx2⟩
          have H3X := Lib.hid (H3Y.out.new (Keeps.of_new hbx2))
          have HX3 := Lib.hid (sameHall_any (HRA.out.below hbx2) hrb)
          clear hrb hbx2 HX2 HRA
          go_wp2_with fail
          refine HX3.out.mono ?_
          rintro e x3 ⟨rfl, hbx3⟩
          have H3W := Lib.hid (H3X.out.new (Keeps.of_new hbx3))
          have HX4 := Lib.hid (halled2 H3W.out.a HAF.out (by omega) (by omega))
          clear hbx3 HX3
          go_wp2_with fail
          refine HX4.out.mono ?_
          rintro e x4 ⟨vc, rfl, hrc, hbx4⟩
          have HRC := Lib.hid hrc
          have H3V := Lib.hid (H3W.out.new (Keeps.of_new hbx4))
          have HX5 := Lib.hid (halled2 H3V.out.c hAk (by omega) (by omega))
          clear hrc hbx4 HX4
          go_wp2_with fail
          refine HX5.out.mono ?_
          rintro e x5 ⟨vd, rfl, hrd, hbx5⟩
          have H3U := Lib.hid (H3V.out.new (Keeps.of_new hbx5))
          have HX6 := Lib.hid (sameHall_any (HRC.out.below hbx5) hrd)
          clear hrd hbx5 HX5 HRC
          go_wp2_with fail
          refine HX6.out.mono ?_
          rintro e x6 ⟨rfl, hbx6⟩
          have H3T := Lib.hid (H3U.out.new (Keeps.of_new hbx6))
          have HX7 := Lib.hid (events_open H3T.out.a HAF.out (by omega))
          clear hbx6 HX6
          go_wp2_with fail
          refine HX7.out.mono ?_
          rintro e x7 ⟨ve, rfl, hoe, hbx7⟩
          have HRE := Lib.hid (readE_of hoe)
          have H3S := Lib.hid (H3T.out.new (Keeps.of_new hbx7))
          have HX8 := Lib.hid (events_open H3S.out.b HAF2.out (by omega))
          clear hoe hbx7 HX7
          go_wp2_with fail
          refine HX8.out.mono ?_
          rintro e x8 ⟨vf, rfl, hof, hbx8⟩
          have HX9 := Lib.hid (equalE_any (readE_below HRE.out hbx8) (readE_of hof) (by have := HAF.out.events; omega))
          have HBZ := Lib.hid (H3S.out.a.bel.trans (hbx8.mono H3S.out.a.bel.size))
          clear hof hbx8 HX8
          go_wp2_with fail
          refine HX9.out.mono ?_
          rintro e x9 ⟨rfl, nz, rfl⟩
          have HBQ : Hid (Below w.heap.size w (x8.drewN nz)) := Lib.hid (HBZ.out.trans ((below_drewN x8 nz).mono HBZ.out.size))
          go_wp2_with fail
          go_ret
          exact ⟨rfl, HBQ.out⟩
        · have hzi : (0 : Int) < (nn : Int) := by omega
          have hz0 : ((nn : Int) == 0) = false := by rw [beq_eq_false_iff_ne]; omega
          have hz1 : ¬ (nn : Int) = 0 := by omega
          obtain ⟨w1e, w2e, w3e⟩ := drawn_rem x (m := nn) (by omega) (by omega)
          have HPI := Lib.hid (pickV_any (x.tmod (nn : Int) + (nn : Int)) nn wc (by omega) (by omega))
          rw [pick_drawn x (by omega) (by omega)] at HPI
          obtain ⟨dr, hdr⟩ : ∃ z, z = drawn x nn := ⟨_, rfl⟩
          rw [← hdr] at HPI w3e
          have hw3 : IntKind.i64.wrap ((dr : Int) + (nn : Int)) = (dr : Int) + (nn : Int) := IntWalk.i64_in _ (by omega)
          obtain ⟨we, hwe⟩ : ∃ we, we = wc.setCell ⟨pb, 0, none⟩ (.int .i64 ((dr : Int) + (nn : Int))) := ⟨_, rfl⟩
          have z0 : we.cell? ⟨pb, 0, none⟩ = some (.int .i64 ((dr : Int) + (nn : Int))) := by rw [hwe]; exact World.cell?_setCell_same _ _ _ y0
          have z1 : we.cell? ⟨pb, 1, none⟩ = some (.int .i64 y) := by rw [hwe, World.cell?_setCell_other _ _ _ _ (by intro e; injection e with _ e; omega)]; exact y1
          have hkE : Keeps (fun b => b = pb) wc we := by rw [hwe]; exact (Keeps.refl (fun b => b = pb) wc).setCell (p := ⟨pb, 0, none⟩) (Or.inl rfl) _
          have h3h := H3G.out.keeps hkE fun b e => by rw [show b = pb from e]; exact HFR.out
          have H3H := Lib.hid h3h
          have HT := Lib.hid (turn_open h3h.c HAKK.out HE.out (by omega) (by omega) ((dr : Int) + (nn : Int)) y hyb)
          have hts : Rm.turn C3.D sk ((dr : Int) + (nn : Int)) y = Rm.turn D sk x y := by
            rw [HDD3.out]
            refine Rm.turn_same ?_ y
            rw [← HNN.out, Rm.drawn_round x (by omega) (dr : Int) (by rw [hdr])]
          have hpe := PA2.out (by omega)
          rw [hts, ← HNN.out, show decide (nn ≠ 0) = true from decide_eq_true hz] at HT
          have HPE := Lib.hid hpe
          clear hts hpe hkE h3h hdr w2e w3e
          go_wp2_with fail
          refine HPI.out.mono ?_
          rintro e wc2 ⟨rfl, rfl⟩
          go_upto_region 18 with fail
          rw [← hwe]
          clear hwe y0 y1 yz
          go_wp2_with fail
          refine HT.out.mono ?_
          rintro e wd ⟨rfl, hgd⟩
          obtain ⟨τ3'', h3i⟩ := H3H.out.goC hgd
          have h3j : Three w C1 C2 C3 wd τ1' τ2'' τ3'' r1 r2 r3 (0 + n) (0 + q) (k + 1) sF sF (Rm.play D s0 (pl.take (k + 1))).1 := by rw [HPE.out]; exact h3i
          have H3J := Lib.hid h3j
          have HP2 : Hid ((Rm.play D s0 (pl.take (k + 1))).2 = k + 1) := Lib.hid (by rw [HPE.out])
          clear hgd h3i h3j z0 z1
          go_wp2_with fail
          go_roundw
          case rel => exact ⟨k + 1, τ3'', by omega, by go_num, HP2.out, H3J.out⟩
          case measure => simp [intOf]; omega
      · obtain rfl : k = n := by omega
        have hkk : ¬ (k : Int) < (k : Int) := by omega
        have hall : pl.take k = pl := by rw [HN.out, List.take_length]
        rw [hall, ← HSF.out] at H3E HAKK
        rw [hall, ← HCF.out] at HPKK
        have hck : cF = k := HPKK.out
        have H3Z := Lib.hid H3E.out
        have HAK : Rm.At C3.num C3.big k sF := HAKK.out
        have hcc1 : ((cF : Int) == (cF : Int)) = true := by simp
        clear hall
        subst hck
        have hAk := HAK
        have HX1 := Lib.hid (halled2 H3Z.out.a HAF.out (by omega) (by omega))
        go_wp2_with fail
        refine HX1.out.mono ?_
        rintro e x1 ⟨va, rfl, hra, hbx1⟩
        have HRA := Lib.hid hra
        have H3Y := Lib.hid (H3Z.out.new (Keeps.of_new hbx1))
        have HX2 := Lib.hid (halled2 H3Y.out.b HAF2.out (by omega) (by omega))
        clear hra hbx1 HX1
        go_wp2_with fail
        refine HX2.out.mono ?_
        rintro e x2 ⟨vb, rfl, hrb, hbx2⟩
        have H3X := Lib.hid (H3Y.out.new (Keeps.of_new hbx2))
        have HX3 := Lib.hid (sameHall_any (HRA.out.below hbx2) hrb)
        clear hrb hbx2 HX2 HRA
        go_wp2_with fail
        refine HX3.out.mono ?_
        rintro e x3 ⟨rfl, hbx3⟩
        have H3W := Lib.hid (H3X.out.new (Keeps.of_new hbx3))
        have HX4 := Lib.hid (halled2 H3W.out.a HAF.out (by omega) (by omega))
        clear hbx3 HX3
        go_wp2_with fail
        refine HX4.out.mono ?_
        rintro e x4 ⟨vc, rfl, hrc, hbx4⟩
        have HRC := Lib.hid hrc
        have H3V := Lib.hid (H3W.out.new (Keeps.of_new hbx4))
        have HX5 := Lib.hid (halled2 H3V.out.c hAk (by omega) (by omega))
        clear hrc hbx4 HX4
        go_wp2_with fail
        refine HX5.out.mono ?_
        rintro e x5 ⟨vd, rfl, hrd, hbx5⟩
        have H3U := Lib.hid (H3V.out.new (Keeps.of_new hbx5))
        have HX6 := Lib.hid (sameHall_any (HRC.out.below hbx5) hrd)
        clear hrd hbx5 HX5 HRC
        go_wp2_with fail
        refine HX6.out.mono ?_
        rintro e x6 ⟨rfl, hbx6⟩
        have H3T := Lib.hid (H3U.out.new (Keeps.of_new hbx6))
        have HX7 := Lib.hid (events_open H3T.out.a HAF.out (by omega))
        clear hbx6 HX6
        go_wp2_with fail
        refine HX7.out.mono ?_
        rintro e x7 ⟨ve, rfl, hoe, hbx7⟩
        have HRE := Lib.hid (readE_of hoe)
        have H3S := Lib.hid (H3T.out.new (Keeps.of_new hbx7))
        have HX8 := Lib.hid (events_open H3S.out.b HAF2.out (by omega))
        clear hoe hbx7 HX7
        go_wp2_with fail
        refine HX8.out.mono ?_
        rintro e x8 ⟨vf, rfl, hof, hbx8⟩
        have HX9 := Lib.hid (equalE_any (readE_below HRE.out hbx8) (readE_of hof) (by have := HAF.out.events; omega))
        have HBZ := Lib.hid (H3S.out.a.bel.trans (hbx8.mono H3S.out.a.bel.size))
        clear hof hbx8 HX8
        go_wp2_with fail
        refine HX9.out.mono ?_
        rintro e x9 ⟨rfl, nz, rfl⟩
        have HBQ : Hid (Below w.heap.size w (x8.drewN nz)) := Lib.hid (HBZ.out.trans ((below_drewN x8 nz).mono HBZ.out.size))
        go_wp2_with fail
        go_ret
        exact ⟨rfl, HBQ.out⟩
end Go.Proofs.YtnjdmijcoadidaaGreatDoor

namespace Go.Proofs.YtnjdmijcoadidaaGreatDoor
open Go.RowKit
theorem etG : Tryz.prog.globalNamed "errors.errorType" = some 0 := by kernel_rfl
theorem etRt : (Tryz.prog.cutTypes.find? (·.1 == "internal/reflectlite.rtype")).map (·.2) = some 289 := by kernel_rfl
theorem etOne : ((List.range Tryz.prog.types.size).filter fun t => Tryz.prog.rowNamed t [101, 114, 114, 111, 114]) = [33] := by kernel_rfl
theorem errT_of_laid {W : World} {l : List (String × DataW Unit)} (h : laidMetH Tryz.prog l W) (hm : ("errors.errorType", Rows.laid_errors_errorType) ∈ l) : ErrT W := by
  obtain ⟨name, u, ty, e1, e2, e3, e4, e5⟩ := (laidMetH_iff.1 h).2 _ (List.mem_filter.2 ⟨hm, rfl⟩)
  have en : name = [101, 114, 114, 111, 114] := (Option.some.inj e1).symm
  subst en
  obtain rfl := Option.some.inj (etRt.symm.trans e2)
  have hr : ty ∈ (List.range Tryz.prog.types.size).filter fun t => Tryz.prog.rowNamed t [101, 114, 114, 111, 114] := List.mem_filter.2 ⟨List.mem_range.2 e3, e4⟩
  rw [etOne] at hr
  obtain rfl := List.mem_singleton.1 hr
  have hh : typeHandle Tryz.prog 33 = .pointer (some ⟨1, 33, none⟩) := by kernel_rfl
  rw [hh] at e5
  simpa [ErrT] using World.var?_cell etG e5 0
end Go.Proofs.YtnjdmijcoadidaaGreatDoor

namespace Go.Proofs.YtnjdmijcoadidaaGreatDoor
open Go.RowKit
theorem errT_only {W : World} (h : laidMetH Tryz.prog [("errors.errorType", Rows.laid_errors_errorType)] W) : ErrT W := errT_of_laid h (List.mem_cons_self ..)
end Go.Proofs.YtnjdmijcoadidaaGreatDoor
