/-
  The walks of package wire's readParts and Open.
-/
import Derived.Test.YtjdihgmngiplkaaDoorWireRead
import Derived.Test.YtjdihgmngiplkaaDoorPrefix
namespace Go.Proofs.YtjdihgmngiplkaaDoor
open Go.RowKit

/-- Parts as cells. -/
def cellsP (ps : List WPart) : List Value := ps.flatMap fun p => [.int .u8 (p.1 : Int), .string p.2]
theorem cellsP_snoc (ps : List WPart) (t : Nat) (b : ByteArray) : cellsP ps ++ [.int .u8 (t : Int), .string b] = cellsP (ps ++ [(t, b)]) := by simp [cellsP]
theorem cellsP_length (ps : List WPart) : (cellsP ps).length = ps.length * 2 := by
  induction ps with
  | nil => rfl
  | cons p ps ih => simp only [cellsP, List.flatMap_cons, List.length_append, List.length_cons, List.length_nil] at ih ⊢; omega
theorem cellsP_get : ∀ (ps : List WPart) (i : Nat), i < ps.length → (cellsP ps)[i * 2]? = some (.int .u8 (pt ps i : Int)) ∧ (cellsP ps)[i * 2 + 1]? = some (.string (pb ps i)) := by
  intro ps
  induction ps with
  | nil => intro i hi; cases hi
  | cons p ps ih =>
    intro i hi
    have e : cellsP (p :: ps) = .int .u8 (p.1 : Int) :: .string p.2 :: cellsP ps := rfl
    cases i with
    | zero => exact ⟨rfl, rfl⟩
    | succ i =>
      have := ih i (by simpa using hi)
      rw [e, show (i + 1) * 2 = i * 2 + 1 + 1 by omega, List.getElem?_cons_succ, List.getElem?_cons_succ, show i * 2 + 1 + 1 + 1 = (i * 2 + 1) + 1 + 1 by omega, List.getElem?_cons_succ, List.getElem?_cons_succ]
      exact this
theorem partsAt_owns {w : World} {base n : Nat} {v : Value} {ps : List WPart} (h : w.ownsRow base 51 2 v n (cellsP ps)) (ht : ∀ p ∈ ps, p.1 < 256) : PartsAt w v ps ∧ n = ps.length := by
  have hl : ps.length = n := by have := h.1; rw [cellsP_length] at this; omega
  refine ⟨?_, hl.symm⟩
  rcases h.2 with ⟨rfl, h0⟩ | ⟨g, cap, cur, rfl, hbg, hg, hnc, hcm, hcs, htake⟩
  · exact ⟨none, 0, 0, rfl, by omega, Nat.le_refl _, Nat.zero_le _, fun h => absurd h (Nat.lt_irrefl _), ht⟩
  · refine ⟨_, n, cap, rfl, hl.symm, hnc, hcm, fun _ => ⟨g, 0, rfl, (Array.getElem?_eq_some_iff.1 hg).1, fun i hi => ?_⟩, ht⟩
    obtain ⟨g1, g2⟩ := cellsP_get ps i (by omega)
    rw [cell_of_row _ _ _ _ _ _ hg, cell_of_row _ _ _ _ _ _ hg, Nat.zero_add]
    rw [← htake] at g1 g2
    rw [List.getElem?_take, if_pos (by omega)] at g1 g2
    exact ⟨by simpa using g1, by simpa using g2⟩
theorem info_part : (Tryd.prog.info? 51).map (fun i => (i.zero, i.size, i.bytes)) = some (some (.agg #[.int .u8 0, .string ByteArray.empty]), 2, 24) := by kernel_rfl
theorem info_parts3 {i : Option TypeInfo} {z : Value} {n m : Nat} (h : i.map (fun i => (i.zero, i.size, i.bytes)) = some (some z, n, m)) : ∃ i0, i = some i0 ∧ i0.zero = some z ∧ i0.size = n ∧ i0.bytes = m := by
  cases i with
  | none => cases h
  | some i0 =>
    simp only [Option.map_some, Option.some.injEq, Prod.mk.injEq] at h
    exact ⟨i0, rfl, h.1, h.2.1, h.2.2⟩
theorem cell_two_new (w : World) (x y : Value) (t : TypeId) : ∀ j u, [x, y][j]? = some u → (w.alloc (.cells #[x, y] t)).cell? ((⟨w.heap.size, 0, none⟩ : Addr).add j) = some u := by
  intro j u hj
  match j, hj with
  | 0, hj => simp at hj; subst hj; simp [Addr.add]
  | 1, hj => simp at hj; subst hj; simp [Addr.add]

theorem cell_two_new2 (w : World) (o : Obj) (x y : Value) (t : TypeId) : ∀ j u, [x, y][j]? = some u → ((w.alloc o).alloc (.cells #[x, y] t)).cell? ((⟨w.heap.size + 1, 0, none⟩ : Addr).add j) = some u := by
  have := cell_two_new (w.alloc o) x y t
  rwa [show (w.alloc o).heap.size = w.heap.size + 1 by simp] at this

/-- The last tag of what has been read. -/
def LastIs (acc : List WPart) (last : Option Nat) : Prop := (acc = [] ∧ last = none) ∨ (∃ ini p, acc = ini ++ [p] ∧ last = some p.1)
theorem mayStand_last {acc : List WPart} {last : Option Nat} (h : LastIs acc last) (t : Nat) (b : ByteArray) : MayStand (acc ++ [(t, b)]) acc.length ↔ Above last t := by
  have ht : pt (acc ++ [(t, b)]) acc.length = t := by
    unfold pt; rw [List.getD_eq_getElem?_getD, List.getElem?_append_right (Nat.le_refl _), Nat.sub_self]; rfl
  unfold MayStand
  rw [ht]
  rcases h with ⟨rfl, rfl⟩ | ⟨ini, p, rfl, rfl⟩
  · exact ⟨(fun _ x hx => by cases hx), fun _ h => absurd h (Nat.lt_irrefl _)⟩
  · have hp : pt (ini ++ [p] ++ [(t, b)]) ((ini ++ [p]).length - 1) = p.1 := by
      unfold pt
      rw [List.length_append, List.length_singleton, Nat.add_sub_cancel, List.append_assoc, List.getD_eq_getElem?_getD, List.getElem?_append_right (Nat.le_refl _), Nat.sub_self]; rfl
    rw [hp]
    exact ⟨fun h x hx => by cases hx; exact h (by simp), fun h _ => h _ rfl⟩
theorem RP.re {s : ByteArray} {a t nx re : Nat} {b : ByteArray} (h : RP s a t b nx re) : re = 0 ∨ re = 3 ∨ re = 15 := by
  rcases h with ⟨_, _, _, _, _, _, _, h⟩ | ⟨_, _, _, ⟨_, h⟩ | ⟨_, _, h⟩ | ⟨_, _, _, _, _, h⟩ | ⟨_, _, _, _, _, _, h⟩⟩ <;> omega

theorem PS.bad {s : ByteArray} : ∀ {n a : Nat} {last : Option Nat} {ps : List WPart} {re : Nat}, PS s n a last ps re → re ≠ 0 → ps = [] := by
  intro n a last ps re h hre
  cases n with
  | zero => exact h.1
  | succ n =>
    obtain ⟨t, b, nx, e, _, h⟩ := h
    rcases h with ⟨_, h, _⟩ | ⟨_, _, h, _⟩ | ⟨_, _, ps', _, h⟩
    · exact h
    · exact h
    · rw [if_neg hre] at h; exact h
theorem owns_below {w w' : World} {base : Nat} {e : TypeId} {size n : Nat} {v : Value} {xs : List Value} (h : w.ownsRow base e size v n xs) (hb : Below w.heap.size w w') : w'.ownsRow base e size v n xs := by
  refine ⟨h.1, ?_⟩
  rcases h.2 with h | ⟨g, cap, cur, g1, g2, g3, g4⟩
  · exact Or.inl h
  · exact Or.inr ⟨g, cap, cur, g1, g2, by rw [hb.block g (Array.getElem?_eq_some_iff.1 g3).1]; exact g3, g4⟩
theorem LastIs.snoc (acc : List WPart) (t : Nat) (b : ByteArray) : LastIs (acc ++ [(t, b)]) (some t) := Or.inr ⟨acc, (t, b), rfl, rfl⟩

/-- What readParts says. -/
def RPS (r : ByteArray) (ps : List WPart) (re : Nat) : Prop := ∃ n a e, RN ((bs r).drop 4) 4 n a e ∧
  ((e = 3 ∧ n = 0 ∧ a = 0 ∧ ps = [] ∧ re = 3) ∨ (e = 0 ∧ 40 < n ∧ ps = [] ∧ re = 4) ∨ (e = 0 ∧ n ≤ 40 ∧ PS r n a none ps re))

set_option maxRecDepth 100000 in
set_option maxHeartbeats 3200000 in
theorem readParts_any (r : ByteArray) (ps : List WPart) (re : Nat) (w : World) (hs : r.size ≤ 60000) (h4 : 4 ≤ r.size) (hR : RPS r ps re) (hL : Leaves w) :
    Calls Tryd.prog 72 #[.string r, .int .i64 4] w fun e w' => ∃ v, e = .returned (.tuple #[v, errV re]) ∧ PartsAt w' v ps ∧ Below w.heap.size w w' := by
  obtain ⟨n, a, e0, hRN, hR⟩ := hR
  have HRN := Lib.hid hRN
  have HL := Lib.hid hL
  clear hRN hL
  have hnone : ∀ W, PartsAt W (.slice none 0 0) [] := fun W => ⟨none, 0, 0, rfl, rfl, Nat.le_refl _, Nat.zero_le _, fun h => absurd h (Nat.lt_irrefl _), fun p hp => by cases hp⟩
  have HNO := Lib.hid hnone
  clear hnone
  rcases hR with ⟨rfl, rfl, rfl, rfl, rfl⟩ | ⟨rfl, h40, rfl, rfl⟩ | ⟨rfl, h40, hPS⟩
  · go_enter Tryd.func72, Tryd.ntmps72
    go_wp2_with fail
    refine (readNum_any r 4 0 0 3 _ (by omega) h4 HRN.out).mono ?_
    rintro e w1 ⟨rfl, hb1⟩
    rw [errV_3]
    go_wp2_with fail
    go_ret2
    exact ⟨_, rfl, HNO.out _, hb1⟩
  · have h40i : (40 : Int) < (n : Int) := by omega
    go_enter Tryd.func72, Tryd.ntmps72
    go_wp2_with fail
    refine (readNum_any r 4 n a 0 _ (by omega) h4 HRN.out).mono ?_
    rintro e w1 ⟨rfl, hb1⟩
    rw [errV_0]
    go_wp2_with fail
    go_ret2
    exact ⟨_, rfl, HNO.out _, hb1⟩
  · have h40i : ¬ (40 : Int) < (n : Int) := by omega
    obtain ⟨i0, hi, hz0, hz1, hz2⟩ := info_parts3 info_part
    have HPS := Lib.hid hPS
    have HPB : Hid (re ≠ 0 → ps = []) := Lib.hid fun h => hPS.bad h
    have HA : Hid (a ≤ r.size) := Lib.hid (by
      rcases HRN.out with ⟨h, ha, _⟩ | ⟨_, _, h, _⟩
      · have := h.len; rw [List.length_drop, bs_length] at this; omega
      · omega)
    clear hPS
    go_enter Tryd.func72, Tryd.ntmps72
    go_wp2_with fail
    refine (readNum_any r 4 n a 0 _ (by omega) h4 HRN.out).mono ?_
    rintro e w1 ⟨rfl, hb1⟩
    rw [errV_0]
    go_wp2_with fail
    go_loopw [1, 8, 29] (fun av v i wr => ∃ (k x : Nat) (last : Option Nat) (acc ps' : List WPart), k ≤ n ∧ x ≤ r.size ∧ i = .int .i64 k ∧ av = .int .i64 x ∧ wr.ownsRow w.heap.size 51 2 v k (cellsP acc) ∧ (∀ p ∈ acc, p.1 < 256 ∧ p.2.size ≤ 60000) ∧ LastIs acc last ∧
      PS r (n - k) x last ps' re ∧ (re = 0 → ps = acc ++ ps') ∧ Below w.heap.size w wr) (fun _ _ i _ => n - (intOf i).toNat)
    case atStart =>
      refine ⟨0, a, none, [], ps, Nat.zero_le _, HA.out, rfl, rfl, World.ownsRow_nil _ _ _ _, (fun p hp => by cases hp), Or.inl ⟨rfl, rfl⟩, HPS.out, fun _ => rfl, hb1⟩
    case round =>
      obtain ⟨k, x, last, acc, ps', hk, hx, rfl, rfl, hown, htags, hlast, hps, hok, hb⟩ := hrel
      have HT := Lib.hid htags
      have HLA := Lib.hid hlast
      have HOK := Lib.hid hok
      have HLr := Lib.hid (wleaves_below HL.out hb (leaves_lt HL.out))
      obtain ⟨hpa, hka⟩ := partsAt_owns hown (fun p hp => (htags p hp).1)
      have HKA := Lib.hid hka
      clear htags hlast hok hpa hka
      by_cases hkn : k < n
      · obtain ⟨m, hm⟩ : ∃ m, n - k = m + 1 := ⟨n - k - 1, by omega⟩
        rw [hm] at hps
        obtain ⟨t, b, nx, e1, hrp, hps⟩ := hps
        have HRP := Lib.hid hrp
        clear hrp
        go_wp2_with fail
        refine (readPart_any r b x t nx e1 _ (by omega) hx HRP.out HLr.out).mono ?_
        rintro e w2 ⟨rfl, hb2⟩
        have hb02 : Below w.heap.size w w2 := hb.trans (hb2.mono hb.size)
        by_cases he1 : e1 = 0
        · subst he1
          have hrok := HRP.out.ok
          have ht256 := hrok.2.2.2.1
          have hnxs := hrok.2.1
          have hbsz : b.size ≤ 60000 := by omega
          have HOW := Lib.hid (owns_below hown hb2)
          have hgeh := owns_ge hown
          have HGE := Lib.hid hgeh
          have hws : w.heap.size ≤ w2.heap.size := hb02.size
          have HB02 := Lib.hid hb02
          clear hown hgeh hrok hb02 hb2
          rw [errV_0]
          go_wp2_with (at_builtin; refine wpList_append_own _ rfl _ _ 52 rfl w.heap.size 51 i0 (.agg #[.int .u8 0, .string ByteArray.empty]) 2 24 Tryd.underlying52 hi hz0 hz1 hz2 rfl (by decide) _ _ _ rfl ((HOW.out.alloc _).alloc _) ⟨_, 0, none⟩ 1 1 [.int .u8 (t : Int), .string b] rfl rfl ?c1 ?c2 ?c3 ?c4 ?c5 ?_)
          case c1 => exact cell_two_new2 _ _ _ _ _
          case c2 => intro u hu; simp at hu; rcases hu with rfl | rfl <;> rfl
          case c3 => unfold maxLen; omega
          case c4 => omega
          case c5 => simp; omega
          intro v' w3 hown' hgrow _
          have hb03 : Below w.heap.size w w3 := ((HB02.out.alloc hws _).alloc (by simp; omega) _).grown hgrow (by simp; omega) HGE.out
          rw [cellsP_snoc] at hown'
          have htags' : ∀ p ∈ acc ++ [(t, b)], p.1 < 256 ∧ p.2.size ≤ 60000 := fun p hp => by
            rcases List.mem_append.1 hp with hp | hp
            · exact HT.out p hp
            · rw [List.mem_singleton.1 hp]; exact ⟨ht256, hbsz⟩
          obtain ⟨hpa, _⟩ := partsAt_owns hown' (fun p hp => (htags' p hp).1)
          have HO := Lib.hid hown'
          have HPA := Lib.hid hpa
          have HTG := Lib.hid htags'
          have hklen : k < (acc ++ [(t, b)]).length := by rw [List.length_append, ← HKA.out]; simp
          have hpbk : (pb (acc ++ [(t, b)]) k).size ≤ 60000 := by
            unfold pb
            rw [List.getD_eq_getElem?_getD, HKA.out, List.getElem?_append_right (Nat.le_refl _), Nat.sub_self]
            exact hbsz
          clear hown' hpa hgrow htags'
          rcases hps with ⟨h1, _⟩ | ⟨_, hna, hpe, hre⟩ | ⟨_, hab, ps'', hps2, hpe⟩
          · exact absurd rfl h1
          · have HM : Hid (¬ MayStand (acc ++ [(t, b)]) k) := Lib.hid (by rw [HKA.out, mayStand_last HLA.out]; exact hna)
            subst hre
            have HPE := Lib.hid (HPB.out (by decide))
            go_wp2_with fail
            refine (mayStand_any v' _ k 10 _ HPA.out hklen hpbk (Or.inr ⟨HM.out, rfl⟩)).mono ?_
            rintro e w4 ⟨rfl, hb4⟩
            rw [show errV 10 = .iface 26 (.int .i64 10) from rfl]
            go_wp2_with fail
            go_ret2
            exact ⟨_, rfl, by rw [HPE.out]; exact HNO.out _, hb03.trans (hb4.mono hb03.size)⟩
          · have HM : Hid (MayStand (acc ++ [(t, b)]) k) := Lib.hid (by rw [HKA.out, mayStand_last HLA.out]; exact hab)
            have HPS2 : Hid (PS r (n - (k + 1)) nx (some t) ps'' re) := Lib.hid (by rw [show n - (k + 1) = m by omega]; exact hps2)
            have HPE : Hid (re = 0 → ps = (acc ++ [(t, b)]) ++ ps'') := Lib.hid fun h => by rw [HOK.out h, hpe, if_pos h]; simp
            clear hps2 hpe hab
            go_wp2_with fail
            refine (mayStand_any v' _ k 0 _ HPA.out hklen hpbk (Or.inl ⟨HM.out, rfl⟩)).mono ?_
            rintro e w4 ⟨rfl, hb4⟩
            have HO4 := Lib.hid (owns_below HO.out hb4)
            rw [errV_0]
            go_wp2_with fail
            go_roundw
            case rel => exact ⟨k + 1, nx, some t, acc ++ [(t, b)], ps'', by omega, hnxs, by go_num, rfl, HO4.out, HTG.out, LastIs.snoc _ _ _, HPS2.out, HPE.out, hb03.trans (hb4.mono hb03.size)⟩
            case measure => simp [intOf]; omega
        · rcases hps with ⟨_, hpe, hre⟩ | ⟨h, _⟩ | ⟨h, _⟩
          · subst hre
            have HPE := Lib.hid (HPB.out he1)
            rcases HRP.out.re with h | rfl | rfl
            · exact absurd h he1
            · rw [errV_3]
              go_wp2_with fail
              go_ret2
              exact ⟨_, rfl, by rw [HPE.out]; exact HNO.out _, hb02.alloc hb02.size _⟩
            · rw [show errV 15 = .iface 26 (.int .i64 15) from rfl]
              go_wp2_with fail
              go_ret2
              exact ⟨_, rfl, by rw [HPE.out]; exact HNO.out _, hb02.alloc hb02.size _⟩
          · exact absurd h he1
          · exact absurd h he1
      · obtain rfl : k = n := by omega
        rw [Nat.sub_self] at hps
        obtain ⟨rfl, hps⟩ := hps
        rcases hps with ⟨rfl, rfl⟩ | ⟨hne, rfl⟩
        · have HPE : Hid (ps = acc) := Lib.hid (by have := HOK.out rfl; simpa using this)
          have HPA := Lib.hid (partsAt_owns hown (fun p hp => (HT.out p hp).1)).1
          clear hown
          go_wp2_with fail
          go_ret2
          exact ⟨_, rfl, by rw [HPE.out]; exact HPA.out, hb⟩
        · have HPE := Lib.hid (HPB.out (by decide))
          have hnei : ¬ (x : Int) = (r.size : Int) := by omega
          clear hown
          go_wp2_with fail
          go_ret2
          exact ⟨_, rfl, by rw [HPE.out]; exact HNO.out _, hb⟩

theorem RPS.re {r : ByteArray} {ps : List WPart} {re : Nat} (h : RPS r ps re) : re = 0 ∨ re = 3 ∨ re = 4 ∨ re = 10 ∨ re = 15 := by
  have key : ∀ (n a : Nat) (last : Option Nat) (ps : List WPart) (re : Nat), PS r n a last ps re → re = 0 ∨ re = 3 ∨ re = 4 ∨ re = 10 ∨ re = 15 := by
    intro n
    induction n with
    | zero =>
      intro a last ps re h
      rcases h.2 with ⟨_, h⟩ | ⟨_, h⟩ <;> omega
    | succ n ih =>
      intro a last ps re h
      obtain ⟨t, b, nx, e, hp, h⟩ := h
      rcases h with ⟨_, _, h⟩ | ⟨_, _, _, h⟩ | ⟨_, _, ps', h, _⟩
      · have := hp.re; omega
      · omega
      · exact ih _ _ _ _ h
  obtain ⟨n, a, e, _, h⟩ := h
  rcases h with ⟨_, _, _, _, h⟩ | ⟨_, _, _, h⟩ | ⟨_, _, h⟩
  · omega
  · omega
  · exact key _ _ _ _ _ h
theorem RPS.bad {r : ByteArray} {ps : List WPart} {re : Nat} (h : RPS r ps re) (h0 : re ≠ 0) : ps = [] := by
  obtain ⟨n, a, e, _, h⟩ := h
  rcases h with ⟨_, _, _, h, _⟩ | ⟨_, _, h, _⟩ | ⟨_, _, h⟩
  · exact h
  · exact h
  · exact h.bad h0
theorem OP.split {s : ByteArray} {k : Nat} {ps : List WPart} {re : Nat} (h : OP s k ps re) :
    (k = 0 ∧ ps = [] ∧ re = 3 ∧ (s.size < 8 ∨ ¬ [83, 76, 87] <+: bs s)) ∨ (8 ≤ s.size ∧ [83, 76, 87] <+: bs s ∧
      ((¬ Fits s 0 (s.size - 4) ∧ k = 0 ∧ ps = [] ∧ re = 15) ∨ (Fits s 0 (s.size - 4) ∧ RPS (s.extract 0 (s.size - 4)) ps re ∧ k = if re = 0 then (bs s).getD 3 0 else 0))) := by
  rcases h with h | ⟨h1, h2, h⟩
  · exact Or.inl h
  · refine Or.inr ⟨h1, h2, ?_⟩
    rcases h with h | ⟨h3, n, a, e, h4, h⟩
    · exact Or.inl h
    · refine Or.inr ⟨h3, ⟨n, a, e, h4, ?_⟩, ?_⟩
      · rcases h with ⟨g1, g2, g3, g4, g5, g6⟩ | ⟨g1, g2, g3, g4, g5⟩ | ⟨g1, g2, g3, g4⟩
        · exact Or.inl ⟨g1, g2, g3, g5, g6⟩
        · exact Or.inr (Or.inl ⟨g1, g2, g4, g5⟩)
        · exact Or.inr (Or.inr ⟨g1, g2, g3⟩)
      · rcases h with ⟨g1, g2, g3, g4, g5, g6⟩ | ⟨g1, g2, g3, g4, g5⟩ | ⟨g1, g2, g3, g4⟩
        · rw [g4, g6]; rfl
        · rw [g3, g5]; rfl
        · exact g4

theorem bs_SLW : bs { data := #[83, 76, 87] } = [83, 76, 87] := rfl
set_option maxRecDepth 100000 in
set_option maxHeartbeats 1600000 in
theorem open_any (s : ByteArray) (k : Nat) (ps : List WPart) (re : Nat) (w : World) (hs : s.size ≤ 60000) (hO : OP s k ps re) (hL : Leaves w) :
    Calls Tryd.prog 39 #[.string s] w fun e w' => ∃ v, e = .returned (.tuple #[.int .u8 (k : Int), v, errV re]) ∧ PartsAt w' v ps ∧ Below w.heap.size w w' := by
  have HL := Lib.hid hL
  clear hL
  have hnone : ∀ W, PartsAt W (.slice none 0 0) [] := fun W => ⟨none, 0, 0, rfl, rfl, Nat.le_refl _, Nat.zero_le _, fun h => absurd h (Nat.lt_irrefl _), fun p hp => by cases hp⟩
  have HNO := Lib.hid hnone
  clear hnone
  rcases hO.split with ⟨rfl, rfl, rfl, h⟩ | ⟨h8, hpre, h⟩
  · by_cases h8 : s.size < 8
    · have h8i : (s.size : Int) < 8 := by omega
      have h8d : decide ((s.size : Int) < 8) = true := by rw [decide_eq_true_eq]; omega
      clear h
      go_enter Tryd.func39, Tryd.ntmps39
      go_wp2_with fail
      go_ret3
      exact ⟨_, rfl, HNO.out _, Below.refl _ _⟩
    · have HNP := Lib.hid (h.resolve_left h8)
      have h8d : decide ((s.size : Int) < 8) = false := by rw [decide_eq_false_iff_not]; omega
      have HM : Hid (s.size ≤ maxLen) := Lib.hid (by unfold maxLen; omega)
      clear h
      go_enter Tryd.func39, Tryd.ntmps39
      go_wp2_with fail
      refine (hasPrefix_any s { data := #[83, 76, 87] } false _ HM.out (by decide) ⟨fun h => Bool.noConfusion h, fun hp => absurd hp HNP.out⟩).mono ?_
      rintro e w1 ⟨rfl, rfl⟩
      go_wp2_with fail
      go_ret3
      exact ⟨_, rfl, HNO.out _, Below.refl _ _⟩
  · have h8d : decide ((s.size : Int) < 8) = false := by rw [decide_eq_false_iff_not]; omega
    have HM : Hid (s.size ≤ maxLen) := Lib.hid (by unfold maxLen; omega)
    have HP := Lib.hid hpre
    have he : ((s.size - 4 : Nat) : Int) = (s.size : Int) - 4 := by omega
    have HE := Lib.hid he
    rcases h with ⟨hf, rfl, rfl, rfl⟩ | ⟨hf, hR, hk⟩
    · have HF := Lib.hid hf
      clear hf hpre he
      go_enter Tryd.func39, Tryd.ntmps39
      go_wp2_with fail
      refine (hasPrefix_any s { data := #[83, 76, 87] } true _ HM.out (by decide) ⟨fun _ => HP.out, fun _ => rfl⟩).mono ?_
      rintro e w1 ⟨rfl, rfl⟩
      go_wp2_with fail
      rw [← HE.out]
      refine (sumFits_any s 0 (s.size - 4) false _ (by omega) (Nat.zero_le _) (by omega) ⟨fun h => Bool.noConfusion h, fun h => absurd h HF.out⟩ HL.out).mono ?_
      rintro e w2 ⟨rfl, hb2⟩
      go_wp2_with fail
      go_ret3
      exact ⟨_, rfl, HNO.out _, hb2⟩
    · have HF := Lib.hid hf
      have HR := Lib.hid hR
      have hre := hR.re
      have hrs : (s.extract 0 (s.size - 4)).size = s.size - 4 := size_extract0 s (by omega)
      have HRS := Lib.hid hrs
      have h3 : 3 < s.size := by omega
      have HG : Hid ((bs s).getD 3 0 = s[3].toNat) := Lib.hid (bs_getD s 3 h3)
      clear hf hpre he hR hrs
      go_enter Tryd.func39, Tryd.ntmps39
      go_wp2_with fail
      refine (hasPrefix_any s { data := #[83, 76, 87] } true _ HM.out (by decide) ⟨fun _ => HP.out, fun _ => rfl⟩).mono ?_
      rintro e w1 ⟨rfl, rfl⟩
      go_wp2_with fail
      rw [← HE.out]
      refine (sumFits_any s 0 (s.size - 4) true _ (by omega) (Nat.zero_le _) (by omega) ⟨fun _ => HF.out, fun _ => rfl⟩ HL.out).mono ?_
      rintro e w2 ⟨rfl, hb2⟩
      have HL2 := Lib.hid (Leaves.next HL.out hb2)
      go_wp2_with fail
      refine (readParts_any (s.extract 0 (s.size - 4)) ps re _ (by rw [HRS.out]; omega) (by rw [HRS.out]; omega) HR.out HL2.out).mono ?_
      rintro e w3 ⟨v, rfl, hpa, hb3⟩
      by_cases h0 : re = 0
      · subst h0
        rw [errV_0]
        rw [if_pos rfl] at hk
        go_wp2_with fail
        go_ret3
        exact ⟨_, by rw [hk, HG.out]; rfl, hpa, hb2.trans (hb3.mono hb2.size)⟩
      · rw [if_neg h0] at hk
        subst hk
        have hnn : errV re = .iface 26 (.int .i64 re) := by unfold errV; rw [if_neg h0]
        rw [hnn]
        go_wp2_with fail
        go_ret3
        exact ⟨_, by rw [hnn]; rfl, by rw [HR.out.bad h0]; exact HNO.out _, hb2.trans (hb3.mono hb2.size)⟩
end Go.Proofs.YtjdihgmngiplkaaDoor
