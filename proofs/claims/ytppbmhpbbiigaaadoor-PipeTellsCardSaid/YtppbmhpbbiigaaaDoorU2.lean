/-
  Texts of one proof, in build order: The walk of package pipe's free: which talks can be done now. | The walks of slices.Clone at talks, and at rows of those that wait. | What turns when a task waits: the map is made, a row grows. | The walk of package pipe's wait. | The walk of package pipe's Talk. | The walk of package pipe's Make. | The walk of package pipe's Make. | What a ring holds, laid into a row of its own. | All of a ring: what the function that All hands back tells, whatever the loop's body does with the ring. | A variable that lies in a block of its own. Of no chapter. | 'xs = append(xs, y)' on a slice of numbers of the call's own, within a fence (a loop's body over a function). | The walk of package pipe's look at a channel: all that is to be seen of it. | The walk of package pipe's Look: all channels, one behind the other.
-/
import Derived.Test.YtppbmhpbbiigaaaDoorU1
import Derived.OwnWalk
import Derived.Lib.SliceRun
import Derived.Maps.AppendAt
import Derived.RangeFuncBox
import Derived.RangeFuncLeaves
import Derived.RangeFuncWrites
import Derived.Shelf.Abstract
import Derived.OwnWalkIn
import Derived.TacticsInMore
import Derived.LoopNIn
import Derived.LoopIn
import Derived.Maps.OwnIn
import Derived.TacticsIn
import Derived.RegionIn
import Derived.ControlIn
import Derived.RangeFuncCalls
import Derived.Deep.RegionHeld3
import Derived.Deep.DeepCutAuto
import Derived.Deep.CutRange
namespace Go.Proofs.YtppbmhpbbiigaaaDoor
open Go.RowKit Go.Maps Pp

/-- What may stand where nothing is wrong. -/
def Fine (m : Nat) (l : List Tk) : Prop := ∀ x ∈ l, x.what = 40 ∨ x.good m
theorem other_fine {m : Nat} {l : List Tk} {k : Nat} {o : Int} (h : (Pp.other m l k o).2 = 0) : Fine m l := by
  induction l generalizing k o with
  | nil => intro x hx; cases hx
  | cons t l ih =>
    unfold Pp.other at h
    intro x hx
    by_cases e : t.what = 40
    · rw [if_pos e] at h
      split at h
      · exact absurd h (by decide)
      · rcases List.mem_cons.1 hx with rfl | hx
        · exact Or.inl e
        · exact ih h x hx
    · rw [if_neg e] at h
      split at h
      · exact absurd h (by decide)
      · next e2 =>
        split at h
        · exact absurd h (by decide)
        · next e3 =>
          rcases List.mem_cons.1 hx with rfl | hx
          · refine Or.inr ⟨?_, ?_⟩
            · unfold may at e3; simp at e3; exact e3
            · omega
          · exact ih h x hx
theorem frees_le (chs : List Ch) : ∀ (l : List Tk) (k : Nat), (frees chs l k).length ≤ l.length
  | [], _ => Nat.le_refl _
  | t :: l, k => by
    have := frees_le chs l (k + 1)
    unfold frees
    split <;> simp <;> omega
/-- The places so far. -/
structure FreeJ (w wr : World) (chs : List Ch) (l : List Tk) (v : Value) (ks : List Nat) (k : Nat) : Prop where
  own : OwnI wr w.heap.size v (ks.map fun (j : Nat) => (j : Int))
  keep : Keeps (fun _ => False) w wr
  rest : frees chs l 0 = ks ++ frees chs (l.drop k) k
  len : ks.length ≤ k

set_option maxRecDepth 100000 in
set_option maxHeartbeats 6400000 in
theorem free_any {w : World} {ρ : Nat → Role} {pb : Nat} {vch : Value} {ptr : List Nat} {mb : Option Nat} {D : DataW Value} {N M : Nat} {s : St} (h : PipesAt w ρ pb vch ptr mb D N M s) {v : Value} {l : List Tk} (hl : TalksAt w v l) (h6 : l.length ≤ 100000) (hf : Fine s.chs.length l) :
    Calls Tryd.prog 34 #[.pointer (some ⟨pb, 0, none⟩), v] w fun e w' => ∃ u, e = .returned u ∧ OwnI w' w.heap.size u ((frees s.chs l 0).map fun (j : Nat) => (j : Int)) ∧ Keeps (fun _ => False) w w' := by
  obtain ⟨ao, cap, rfl, hc1, hc2⟩ := hl.slice
  have HH := Lib.hid h
  have HT := Lib.hid hl
  have HF := Lib.hid hf
  have HJ0 : Hid (FreeJ w w s.chs l (.slice none 0 0) [] 0) := Lib.hid ⟨ownI_nil _ _, Keeps.refl _ _, rfl, Nat.le_refl _⟩
  clear h hl hf
  go_enter Tryd.func34, Tryd.ntmps34
  go_wp2_with fail
  go_loopw [5, 11] (fun fv kv wr => ∃ (k : Nat) (ks : List Nat), k ≤ l.length ∧ kv = .int .i64 k ∧ FreeJ w wr s.chs l fv ks k) (fun _ kv _ => l.length - (intOf kv).toNat)
  case atStart => exact ⟨0, [], Nat.zero_le _, rfl, HJ0.out⟩
  case round =>
    obtain ⟨k, ks, hk, rfl, hJ⟩ := hrel
    obtain ⟨a5, c5, hv5⟩ := hJ.own.slice
    rw [List.length_map] at hv5
    subst hv5
    have HJ := Lib.hid hJ
    clear hJ HJ0
    by_cases hkl : k < l.length
    · obtain ⟨x, hx⟩ : ∃ x, l[k]? = some x := ⟨_, List.getElem?_eq_getElem hkl⟩
      have hdrop : l.drop k = x :: l.drop (k + 1) := by rw [List.drop_eq_getElem_cons hkl, (List.getElem?_eq_some_iff.1 hx).2]
      have hgx := HF.out x (List.mem_of_getElem? hx)
      obtain ⟨tb, tof, rfl, htb, c1, c2, c3⟩ := (HT.out.keeps HJ.out.keep fun _ _ e => e).at hx
      have hki : (0 : Int) ≤ (k : Int) ∧ (k : Int) < (l.length : Int) := by omega
      obtain ⟨xw, xc, xn⟩ := x
      simp only at c1 c2 c3
      have hr := HJ.out.rest
      rw [hdrop, frees] at hr
      have hka : Keeps (fun _ => False) wr (wr.alloc (.cells #[.int .i64 xw, .int .i64 xc, .int .i64 xn] 85)) := (Keeps.refl _ wr).alloc _
      have HKA := Lib.hid (HJ.out.keep.trans hka)
      have HP1 := Lib.hid (HH.out.keeps (HJ.out.keep.trans hka) fun _ _ e => e.elim)
      have HO1 := Lib.hid (HJ.out.own.keeps hka fun _ _ e => e)
      have hlen := HJ.out.len
      clear hx hdrop hka
      -- one that can't be done
      have HNO : Hid (isFree s.chs ⟨xw, xc, xn⟩ = false → ∀ n, FreeJ w ((wr.alloc (.cells #[.int .i64 xw, .int .i64 xc, .int .i64 xn] 85)).drewN n) s.chs l (.slice a5 ks.length c5) ks (k + 1)) := Lib.hid fun e n =>
        ⟨HO1.out.keeps (keeps_drewN (Keeps.refl (fun _ => False) _) n) fun _ _ e => e, keeps_drewN HKA.out n, by rw [hr, e]; rfl, by omega⟩
      have HYES : Hid (isFree s.chs ⟨xw, xc, xn⟩ = true → frees s.chs l 0 = (ks ++ [k]) ++ frees s.chs (l.drop (k + 1)) (k + 1)) := Lib.hid fun e => by rw [hr, e]; simp
      clear hr
      by_cases h40 : xw = 40
      · subst h40
        have HN := Lib.hid (HNO.out (by simp [isFree]) 0)
        clear HNO HYES
        go_wp2_with fail
        go_roundw
        case rel => exact ⟨k + 1, ks, by omega, by go_num, HN.out⟩
        case measure => simp [intOf]; omega
      · have e40 : (xw == 40) = false := by rw [beq_eq_false_iff_ne]; exact h40
        have hgood : Tk.good s.chs.length ⟨xw, xc, xn⟩ := hgx.resolve_left h40
        have hmay : may s.chs.length xc = true := by unfold may; simp [hgood.1.1, hgood.1.2]
        have HMAY := Lib.hid hmay
        rcases HP1.out.chan hmay with ⟨h0, hn0, hc0⟩ | ⟨kc, cb, rb, sb, v1, v2, c, hxc, hcg, hcp, hcp2, hchn, hch⟩
        · have HN0 := Lib.hid hn0
          have HN := Lib.hid (HNO.out (by unfold isFree; rw [hc0]; simp) 0)
          clear HNO HYES hn0 hc0 hmay hgx hgood h0
          go_wp2_with fail
          refine (channel_any HP1.out xc HMAY.out).mono ?_
          rintro e w6 ⟨rfl, rfl⟩
          rw [HN0.out]
          go_wp2_with fail
          go_roundw
          case rel => exact ⟨k + 1, ks, by omega, by go_num, HN.out⟩
          case measure => simp [intOf]; omega
        · have HCP := Lib.hid hcp2
          have HCF := Lib.hid (cfree_any hch xw)
          have hfr : isFree s.chs ⟨xw, xc, xn⟩ = c.free xw := by unfold isFree; rw [hchn]; simp [h40]
          rw [hfr] at HNO HYES
          clear hcp2 hmay hgx hgood hch hchn hfr hcg hcp hxc
          cases hfx : c.free xw with
          | false =>
            rw [hfx] at HCF
            have HN := Lib.hid (HNO.out hfx)
            clear hfx HNO HYES
            go_wp2_with fail
            refine (channel_any HP1.out xc HMAY.out).mono ?_
            rintro e w6 ⟨rfl, rfl⟩
            rw [HCP.out]
            go_wp2_with fail
            refine HCF.out.mono ?_
            rintro e w6 ⟨rfl, m, rfl⟩
            go_wp2_with fail
            go_roundw
            case rel => exact ⟨k + 1, ks, by omega, by go_num, HN.out m⟩
            case measure => simp [intOf]; omega
          | true =>
            rw [hfx] at HCF
            have HY := Lib.hid (HYES.out hfx)
            have HO2 : Hid (∀ m, OwnI ((wr.alloc (.cells #[.int .i64 xw, .int .i64 xc, .int .i64 xn] 85)).drewN m) w.heap.size (.slice a5 ks.length c5) (ks.map fun (j : Nat) => (j : Int))) := Lib.hid fun m => HO1.out.keeps (keeps_drewN (Keeps.refl (fun _ => False) _) m) fun _ _ e => e
            have HK2 : Hid (∀ m, Keeps (fun _ => False) w ((wr.alloc (.cells #[.int .i64 xw, .int .i64 xc, .int .i64 xn] 85)).drewN m)) := Lib.hid fun m => keeps_drewN HKA.out m
            clear hfx HNO HYES
            go_wp2_with fail
            refine (channel_any HP1.out xc HMAY.out).mono ?_
            rintro e w6 ⟨rfl, rfl⟩
            rw [HCP.out]
            go_wp2_with fail
            refine HCF.out.mono ?_
            rintro e w6 ⟨rfl, m, rfl⟩
            have HO3 := Lib.hid (HO2.out m)
            have HK3 := Lib.hid (HK2.out m)
            clear HO2 HK2
            have hz : w.heap.size ≤ ((wr.alloc (.cells #[.int .i64 xw, .int .i64 xc, .int .i64 xn] 85)).drewN m).heap.size := HK3.out.size
            generalize (wr.alloc (.cells #[.int .i64 xw, .int .i64 xc, .int .i64 xn] 85)).drewN m = w5 at *
            go_wp2_with (at_builtin; go_loud (refine wpList_appendI rfl _ _ rfl _ w.heap.size _ (ks.map fun (j : Nat) => (j : Int)) (k : Int) HO3.out rfl rfl (by simp; omega) hz ?_; intro a6 c6 w6 hO6 hK6 hN6; have HO6 := Lib.hid hO6; have HK6 := Lib.hid hK6; clear hO6 hK6 hN6))
            go_roundw
            case rel =>
              refine ⟨k + 1, ks ++ [k], by omega, by go_num, ?_, ?_, HY.out, by simp; omega⟩
              · have := HO6.out
                rw [List.length_map] at this
                rw [List.map_append]
                exact this
              · exact HK3.out.trans' HK6.out fun g hg e => by
                  have := HO3.out.le g e
                  omega
            case measure => simp [intOf]; omega
    · obtain rfl : k = l.length := by omega
      have hr := HJ.out.rest
      rw [List.drop_length, frees, List.append_nil] at hr
      have HR := Lib.hid hr
      clear hr
      go_wp2_with fail
      go_ret
      exact ⟨_, rfl, by rw [HR.out]; exact HJ.out.own, HJ.out.keep⟩
end Go.Proofs.YtppbmhpbbiigaaaDoor

namespace Go.Proofs.YtppbmhpbbiigaaaDoor
open Go.RowKit Go.Maps Pp

def cellsL (l : List Tk) : List Value := l.flatMap fun x => [.int .i64 x.what, .int .i64 x.chan, .int .i64 x.n]
theorem cellsL_cons (x : Tk) (l : List Tk) : cellsL (x :: l) = .int .i64 x.what :: .int .i64 x.chan :: .int .i64 x.n :: cellsL l := rfl
theorem cellsL_len (l : List Tk) : (cellsL l).length = l.length * 3 := by
  induction l with
  | nil => rfl
  | cons w r ih => rw [cellsL_cons, List.length_cons, List.length_cons, List.length_cons, ih, List.length_cons]; omega
theorem cellsL_get : ∀ (l : List Tk) (i : Nat) (x : Tk), l[i]? = some x → (cellsL l)[i * 3]? = some (.int .i64 x.what) ∧ (cellsL l)[i * 3 + 1]? = some (.int .i64 x.chan) ∧ (cellsL l)[i * 3 + 2]? = some (.int .i64 x.n) := by
  intro l
  induction l with
  | nil => intro i x h; cases h
  | cons p r ih =>
    intro i x h
    cases i with
    | zero => cases h; exact ⟨rfl, rfl, rfl⟩
    | succ i =>
      have := ih i x (by simpa using h)
      rw [cellsL_cons]
      refine ⟨?_, ?_, ?_⟩
      · rw [show (i + 1) * 3 = i * 3 + 1 + 1 + 1 by omega]; simpa using this.1
      · rw [show (i + 1) * 3 + 1 = i * 3 + 1 + 1 + 1 + 1 by omega]; simpa using this.2.1
      · rw [show (i + 1) * 3 + 2 = i * 3 + 2 + 1 + 1 + 1 by omega]; simpa using this.2.2
theorem get_cellsL : ∀ (l : List Tk) (j : Nat) (u : Value), (cellsL l)[j]? = some u → ∃ i x, l[i]? = some x ∧ ((j = i * 3 ∧ u = .int .i64 x.what) ∨ (j = i * 3 + 1 ∧ u = .int .i64 x.chan) ∨ (j = i * 3 + 2 ∧ u = .int .i64 x.n)) := by
  intro l
  induction l with
  | nil => intro j u h; simp [cellsL] at h
  | cons p r ih =>
    intro j u h
    rw [cellsL_cons] at h
    match j with
    | 0 => simp at h; exact ⟨0, p, rfl, Or.inl ⟨rfl, h.symm⟩⟩
    | 1 => simp at h; exact ⟨0, p, rfl, Or.inr (Or.inl ⟨rfl, h.symm⟩)⟩
    | 2 => simp at h; exact ⟨0, p, rfl, Or.inr (Or.inr ⟨rfl, h.symm⟩)⟩
    | j + 3 =>
      simp at h
      obtain ⟨i, x, h1, h2⟩ := ih j u h
      refine ⟨i + 1, x, by simpa using h1, ?_⟩
      rcases h2 with ⟨h3, h4⟩ | ⟨h3, h4⟩ | ⟨h3, h4⟩
      · exact Or.inl ⟨by omega, h4⟩
      · exact Or.inr (Or.inl ⟨by omega, h4⟩)
      · exact Or.inr (Or.inr ⟨by omega, h4⟩)
theorem addr_addP (b o j : Nat) : (⟨b, o, none⟩ : Addr).add j = ⟨b, o + j, none⟩ := by
  unfold Addr.add
  split <;> simp_all
/-- A row of talks of one's own is to be read. -/
theorem talks_of_own {w : World} {B : Nat} {v : Value} {l : List Tk} (h : w.ownsRow B 85 3 v l.length (cellsL l)) : TalksAt w v l := by
  have hc := h
  rcases h.2 with ⟨rfl, h0⟩ | ⟨g, cap, cur, rfl, hb, hg, h3, h4, h5, h6⟩
  · exact ⟨none, 0, 0, rfl, by omega, Nat.le_refl _, Nat.zero_le _, fun h => absurd h (Nat.lt_irrefl _)⟩
  · refine ⟨_, _, _, rfl, rfl, h3, h4, fun _ => ⟨g, 0, rfl, (Array.getElem?_eq_some_iff.1 hg).1, fun i x hx => ?_⟩⟩
    obtain ⟨e1, e2, e3⟩ := cellsL_get l i x hx
    have f1 := World.ownsRow.cells hc (g := g) rfl _ _ e1
    have f2 := World.ownsRow.cells hc (g := g) rfl _ _ e2
    have f3 := World.ownsRow.cells hc (g := g) rfl _ _ e3
    rw [addr_addP] at f1 f2 f3
    exact ⟨f1, by rw [Nat.add_assoc]; exact f2, by rw [Nat.add_assoc]; exact f3⟩
theorem info_talk : (Tryd.prog.info? 85).map (fun i => (i.zero, i.size, i.bytes)) = some (some (.agg #[.int .i64 0, .int .i64 0, .int .i64 0]), 3, 24) := by kernel_rfl
theorem info_wait : (Tryd.prog.info? 90).map (fun i => (i.zero, i.size, i.bytes)) = some (some (.agg #[.int .i64 0, .int .i64 0]), 2, 16) := by kernel_rfl
theorem tinfoP {i : Option TypeInfo} {z : Value} {n m : Nat} (h : i.map (fun i => (i.zero, i.size, i.bytes)) = some (some z, n, m)) : ∃ i0, i = some i0 ∧ i0.zero = some z ∧ i0.size = n ∧ i0.bytes = m := by
  cases i with
  | none => cases h
  | some i0 =>
    simp at h
    exact ⟨i0, rfl, h.1, h.2.1, h.2.2⟩

set_option maxRecDepth 100000 in
set_option maxHeartbeats 1600000 in
theorem cloneT_any (w : World) {v : Value} {l : List Tk} (hl : TalksAt w v l) (h6 : l.length ≤ 1000000) :
    Calls Tryd.prog 49 #[v] w fun e w' => ∃ u, e = .returned u ∧ w'.ownsRow w.heap.size 85 3 u l.length (cellsL l) ∧ Below w.heap.size w w' := by
  obtain ⟨ao, n, cap, rfl, hn, h1, h2, h3⟩ := hl
  obtain ⟨i0, hi, hz0, hz1, hz2⟩ := tinfoP info_talk
  cases ao with
  | none =>
    have hl0 : l = [] := by
      rcases Nat.eq_zero_or_pos n with h0 | h0
      · exact List.eq_nil_of_length_eq_zero (by omega)
      · obtain ⟨b, o, e, _⟩ := h3 h0; cases e
    subst hl0
    have heq := Lib.run_eql_slice_nil (P := Tryd.prog) w 32 85 none n cap 0 0 Tryd.underlying32
    rw [Option.isNone_none] at heq
    clear h3 hn
    go_enter Tryd.func49, Tryd.ntmps49
    go_wp2_with fail
    go_ret
    exact ⟨_, rfl, World.ownsRow_nil _ _ _ _, Below.refl _ _⟩
  | some ad =>
    have hcell : ∀ j u, (cellsL l)[j]? = some u → w.cell? (ad.add j) = some u := fun j u hu => by
      obtain ⟨i, x, e1, e2⟩ := get_cellsL l j u hu
      have hi2 := (List.getElem?_eq_some_iff.1 e1).1
      obtain ⟨b, o, e3, _, e4⟩ := h3 (by omega)
      cases e3
      obtain ⟨f1, f2, f3⟩ := e4 i x e1
      rw [addr_addP]
      rcases e2 with ⟨rfl, rfl⟩ | ⟨rfl, rfl⟩ | ⟨rfl, rfl⟩
      · exact f1
      · rw [← Nat.add_assoc]; exact f2
      · rw [← Nat.add_assoc]; exact f3
    have h1c : ∀ u ∈ cellsL l, u.oneCell' = true := fun u hu => by
      obtain ⟨j, hj⟩ := List.mem_iff_getElem?.1 hu
      obtain ⟨i, x, _, e2⟩ := get_cellsL l j u hj
      rcases e2 with ⟨_, rfl⟩ | ⟨_, rfl⟩ | ⟨_, rfl⟩ <;> rfl
    have HC := Lib.hid hcell
    have HL := Lib.hid (cellsL_len l)
    clear hcell h3
    subst hn
    have heq := Lib.run_eql_slice_nil (P := Tryd.prog) w 32 85 (some ad) l.length cap 0 0 Tryd.underlying32
    rw [Option.isNone_some] at heq
    go_enter Tryd.func49, Tryd.ntmps49
    have HOWN : Hid ((w.alloc (.cells #[] 85)).ownsRow w.heap.size 85 3 (.slice (some ⟨w.heap.size, 0, none⟩) 0 0) 0 []) := Lib.hid ⟨rfl, Or.inr ⟨w.heap.size, 0, #[], rfl, Nat.le_refl _, by show (w.heap.push _)[w.heap.size]? = _; simp, Nat.le_refl _, Nat.zero_le _, rfl, rfl⟩⟩
    have HCA : Hid (∀ j u, (cellsL l)[j]? = some u → (w.alloc (.cells #[] 85)).cell? (ad.add j) = some u) := Lib.hid fun j u hu => by
      exact Go.Lib.cell?_alloc_some _ (HC.out j u hu)
    go_wp2_with (at_builtin; refine wpList_append_own _ rfl _ _ 32 rfl w.heap.size 85 i0 (.agg #[.int .i64 0, .int .i64 0, .int .i64 0]) 3 24 Tryd.underlying32 hi hz0 hz1 hz2 rfl (by decide) _ 0 [] rfl HOWN.out ad l.length cap (cellsL l) rfl HL.out HCA.out h1c (by unfold maxLen; omega) (by omega) (by simp) ?_)
    intro v' w' ho' hg' _
    have HO := Lib.hid ho'
    have HG := Lib.hid hg'
    clear ho' hg'
    go_wp2_with fail
    go_ret
    refine ⟨_, rfl, ?_, ?_⟩
    · exact HO.out
    · exact ((Below.refl w.heap.size w).alloc (Nat.le_refl _) _).trans ((Keeps.of_grownBy (S := fun g => g = w.heap.size) HG.out fun g _ e => by cases e; rfl).below (by simp) fun g _ e => by omega)

theorem cellsW_one (r : List (Int × Nat)) : ∀ u ∈ cellsW r, u.oneCell' = true := by
  induction r with
  | nil => intro u hu; simp [cellsW] at hu
  | cons p r ih =>
    intro u hu
    have e : cellsW (p :: r) = .int .i64 p.1 :: .int .i64 (p.2 : Int) :: cellsW r := rfl
    rw [e] at hu
    rcases List.mem_cons.1 hu with rfl | hu
    · rfl
    · rcases List.mem_cons.1 hu with rfl | hu
      · rfl
      · exact ih u hu
set_option maxRecDepth 100000 in
set_option maxHeartbeats 1600000 in
theorem cloneW_any (w : World) {v : Value} {r : List (Int × Nat)} (hl : RowW w v r) (h6 : r.length ≤ 1000000000) :
    Calls Tryd.prog 55 #[v] w fun e w' => ∃ u, e = .returned u ∧ w'.ownsRow w.heap.size 90 2 u r.length (cellsW r) ∧ Below w.heap.size w w' := by
  obtain ⟨i0, hi, hz0, hz1, hz2⟩ := tinfoP info_wait
  have hc := hl
  rcases hl.2 with ⟨rfl, h0⟩ | ⟨g, cap, cur, rfl, hb, hg, h3, h4, h5, h6'⟩
  · obtain rfl : r = [] := List.eq_nil_of_length_eq_zero h0
    have heq := Lib.run_eql_slice_nil (P := Tryd.prog) w 77 90 none 0 0 0 0 Tryd.underlying77
    rw [Option.isNone_none] at heq
    clear hl hc h0
    go_enter Tryd.func55, Tryd.ntmps55
    go_wp2_with fail
    go_ret
    exact ⟨_, rfl, World.ownsRow_nil _ _ _ _, Below.refl _ _⟩
  · obtain ⟨ad, had⟩ : ∃ ad : Addr, ad = ⟨g, 0, none⟩ := ⟨_, rfl⟩
    have HC : Hid (∀ j u, (cellsW r)[j]? = some u → w.cell? (ad.add j) = some u) := Lib.hid fun j u hu => by rw [had]; exact World.ownsRow.cells hc (g := g) rfl j u hu
    have HL := Lib.hid (cellsW_len r)
    have h1c := cellsW_one r
    rw [← had]
    have heq := Lib.run_eql_slice_nil (P := Tryd.prog) w 77 90 (some ad) r.length cap 0 0 Tryd.underlying77
    rw [Option.isNone_some] at heq
    clear hl hc had h5 h6'
    have HOWN : Hid ((w.alloc (.cells #[] 90)).ownsRow w.heap.size 90 2 (.slice (some ⟨w.heap.size, 0, none⟩) 0 0) 0 []) := Lib.hid ⟨rfl, Or.inr ⟨w.heap.size, 0, #[], rfl, Nat.le_refl _, by show (w.heap.push _)[w.heap.size]? = _; simp, Nat.le_refl _, Nat.zero_le _, rfl, rfl⟩⟩
    have HCA : Hid (∀ j u, (cellsW r)[j]? = some u → (w.alloc (.cells #[] 90)).cell? (ad.add j) = some u) := Lib.hid fun j u hu => by
      exact Go.Lib.cell?_alloc_some _ (HC.out j u hu)
    go_enter Tryd.func55, Tryd.ntmps55
    go_wp2_with (at_builtin; refine wpList_append_own _ rfl _ _ 77 rfl w.heap.size 90 i0 (.agg #[.int .i64 0, .int .i64 0]) 2 16 Tryd.underlying77 hi hz0 hz1 hz2 rfl (by decide) _ 0 [] rfl HOWN.out ad r.length cap (cellsW r) rfl HL.out HCA.out h1c (by unfold maxLen; omega) (by omega) (by simp) ?_)
    intro v' w' ho' hg' _
    have HO := Lib.hid ho'
    have HG := Lib.hid hg'
    clear ho' hg'
    go_wp2_with fail
    go_ret
    refine ⟨_, rfl, ?_, ?_⟩
    · exact HO.out
    · exact ((Below.refl w.heap.size w).alloc (Nat.le_refl _) _).trans ((Keeps.of_grownBy (S := fun g => g = w.heap.size) HG.out fun g _ e => by cases e; rfl).below (by simp) fun g _ e => by omega)
end Go.Proofs.YtppbmhpbbiigaaaDoor

namespace Go.Proofs.YtppbmhpbbiigaaaDoor
open Go.RowKit Go.Maps Pp

/-- 'row = append(row, y)'. -/
theorem wpList_appendW {ops : Array Oper} {rest : List Oper} {o : Oper} {a : Act} {Q : Exit → Act → World → Prop} (hgd : o.guard = none) (s x : Operand)
    (ho : o.op = .call { callee := .builtin .append, args := #[s, x], argTypes := #[77, 77] }) (w : World) (v : Value) (r : List (Int × Nat)) (y1 : Int) (y2 : Nat) (hown : RowW w v r) (hs : a.eval s = v)
    (hx : a.eval x = .slice (some ⟨w.heap.size, 0, none⟩) 1 1) (hl : r.length ≤ 100000000)
    (h : ∀ ao' cap' w', RowW w' (.slice ao' (r.length + 1) cap') (r ++ [(y1, y2)]) → Keeps (fun b => v.ownBlock = some b) w w' → (∀ k, (Value.slice ao' (r.length + 1) cap').ownBlock = some k → v.ownBlock = some k ∨ w.heap.size ≤ k) →
      wpList Tryd.prog ops Q rest (a.put o.dst (.slice ao' (r.length + 1) cap')) w') : wpList Tryd.prog ops Q (o :: rest) a (w.alloc (.cells #[.int .i64 y1, .int .i64 (y2 : Int)] 90)) := by
  obtain ⟨i0, hi, hz0, hz1, hz2⟩ := tinfoP info_wait
  have hnew : ∀ j u, [Value.int .i64 y1, Value.int .i64 (y2 : Int)][j]? = some u → (w.alloc (.cells #[.int .i64 y1, .int .i64 (y2 : Int)] 90)).cell? ((⟨w.heap.size, 0, none⟩ : Addr).add j) = some u := fun j u hu => by
    rw [addr_addP, World.cell?_alloc_at _ _ _ _ rfl]
    rcases j with _ | _ | j
    · exact hu
    · exact hu
    · simp at hu
  refine wpList_append_own_at _ hgd s x 77 ho 0 90 i0 (.agg #[.int .i64 0, .int .i64 0]) 2 16 Tryd.underlying77 hi hz0 hz1 hz2 rfl (by decide) v r.length (cellsW r) hs (World.ownsRow.alloc hown _) ⟨w.heap.size, 0, none⟩ 1 1 [.int .i64 y1, .int .i64 (y2 : Int)] hx rfl
    hnew (fun u hu => by simp at hu; rcases hu with rfl | rfl <;> rfl) (by unfold maxLen; omega) (by omega) (Nat.zero_le _) ?_
  intro v' w' h1 h2 _ h4
  have hO : RowW w' v' (r ++ [(y1, y2)]) := by
    unfold RowW
    rw [cellsW_append, List.length_append]
    exact h1
  obtain ⟨ao', cap', e, _, _⟩ := hO.slice
  rw [List.length_append] at e
  have e' : v' = .slice ao' (r.length + 1) cap' := e
  subst e'
  refine h _ _ _ hO (keeps_append h2 fun k e => e) fun k hk => ?_
  rcases h4 with h4 | h4
  · exact Or.inl (h4 ▸ hk)
  · rw [h4] at hk
    cases hk
    exact Or.inr (by simp)

section
variable {w w' : World} {ρ : Nat → Role} {pb : Nat} {vch : Value} {ptr : List Nat} {mb : Option Nat} {D : DataW Value} {N M : Nat} {s : St}
theorem PipesAt.mono (h : PipesAt w ρ pb vch ptr mb D N M s) {N' M' : Nat} (hN : N ≤ N') (hM : M ≤ M') : PipesAt w ρ pb vch ptr mb D N' M' s :=
  ⟨h.c0, h.c1, h.z, h.row, h.len, h.many, h.chs, fun k c hc => by have := h.rows k c hc; omega, h.map0, fun b hb => ⟨(h.map1 b hb).1.mono hN, (h.map1 b hb).2⟩, h.has, h.talk, h.p0, h.p1, h.dom⟩
/-- New blocks, of a role. -/
def roleFrom (ρ : Nat → Role) (lo hi : Nat) (r : Role) (b : Nat) : Role := if lo ≤ b ∧ b < hi then r else ρ b
theorem roleFrom_old {ρ : Nat → Role} {lo hi : Nat} {r : Role} {b : Nat} (h : b < lo) : roleFrom ρ lo hi r b = ρ b := by unfold roleFrom; rw [if_neg (by omega)]
theorem roleFrom_new {ρ : Nat → Role} {lo hi : Nat} {r : Role} {b : Nat} (h : lo ≤ b) (h2 : b < hi) : roleFrom ρ lo hi r b = r := by unfold roleFrom; rw [if_pos ⟨h, h2⟩]
theorem roleFrom_dom {ρ : Nat → Role} {lo hi : Nat} {r : Role} (hd : ∀ b, ρ b ≠ .free → b < lo) (hl : lo ≤ hi) : ∀ b, roleFrom ρ lo hi r b ≠ .free → b < hi := fun b h => by
  unfold roleFrom at h
  split at h
  · omega
  · have := hd b h; omega
/-- The map is made. -/
theorem PipesAt.made (h : PipesAt w ρ pb vch ptr none D N M s) : PipesAt ((w.alloc (.map #[] 0)).setCell ⟨pb, 1, none⟩ (.map (some w.heap.size))) (roleFrom ρ w.heap.size (w.heap.size + 1) .asks) pb vch ptr (some w.heap.size) (.map []) 0 M s ∧
    Keeps (fun b => b = pb) w ((w.alloc (.map #[] 0)).setCell ⟨pb, 1, none⟩ (.map (some w.heap.size))) := by
  have hk0 : Keeps (fun _ => False) w (w.alloc (.map #[] 0)) := (Keeps.refl _ w).alloc _
  have h1 := h.same (ρ' := roleFrom ρ w.heap.size (w.heap.size + 1) .asks) hk0 (fun b hb => roleFrom_old hb) (fun b hb => by simpa using roleFrom_dom h.dom (Nat.le_succ _) b hb) fun _ e => e.elim
  have hk1 := keeps_set1 (w.alloc (.map #[] 0)) ⟨pb, 1, none⟩ (.map (some w.heap.size))
  have hk1' : Keeps (fun b => b = pb) (w.alloc (.map #[] 0)) ((w.alloc (.map #[] 0)).setCell ⟨pb, 1, none⟩ (.map (some w.heap.size))) := hk1
  have hn : ∀ g r, roleFrom ρ w.heap.size (w.heap.size + 1) .asks g = r → r ≠ .pipes → ¬ g = pb := fun g r hr h3 e => h3 (by rw [← hr, e]; exact h1.p0)
  have hempty : ∀ t : Int, s.asks t = none := fun t => by
    have h2 := h.has t
    rw [h.map0 rfl] at h2
    cases hs : s.asks t with
    | none => rfl
    | some l => rw [hs] at h2; cases h2
  have hrole : roleFrom ρ w.heap.size (w.heap.size + 1) .asks w.heap.size = .asks := roleFrom_new (Nat.le_refl _) (Nat.lt_succ_self _)
  refine ⟨⟨?_, World.cell?_setCell_same _ _ _ h1.c1, fun j => by rw [World.frozen?_setCell]; exact h1.z j, hk1'.row h1.row fun g hg => hn g _ (h1.p1 g hg) (by simp), h1.len, h1.many, fun k cb c hcb hc => ?_, h1.rows, fun e => (by cases e), fun b hb => ?_,
    fun t => by rw [hempty t]; rfl, fun t l hl => (by rw [hempty t] at hl; cases hl), h1.p0, h1.p1, fun g hg => Nat.lt_of_lt_of_le (h1.dom g hg) hk1'.size⟩, (hk0.mono fun _ _ e => e.elim).trans hk1'⟩
  · rw [cell_set_other (off_ne (by decide) pb)]; exact h1.c0
  · obtain ⟨rb, sb, v1, v2, h3⟩ := h1.chs k cb c hcb hc
    exact ⟨rb, sb, v1, v2, h3.keeps hk1' fun g _ hg e => by rw [e, h1.p0] at hg; exact hg⟩
  · cases hb
    refine ⟨hk1'.map (World.ownsMap_made w Tryd.prog 3 (heldE)) (hn _ _ hrole (by simp)), hrole⟩
/-- A task's talks are noted. -/
theorem PipesAt.note (h : PipesAt w ρ pb vch ptr mb D N M s) {b : Nat} (hb : mb = some b) {t : Int} {l : List Tk} {u : Value} (hwf : (Lit.int .i64 t).wf = true) (hk : Keeps (fun k => k = b) w w') (ho : w'.ownsMap Tryd.prog 3 heldE b (N + 1) (D.put (.int .i64 t) (.held u)))
    (hu : TalksAt w u l) (hur : ∀ g, u.ownBlock = some g → ρ g = .talks t) :
    PipesAt w' ρ pb vch ptr mb (D.put (.int .i64 t) (.held u)) (N + 1) M ⟨s.chs, fun x => if x = t then some l else s.asks x⟩ := by
  obtain ⟨h1, h2⟩ := h.map1 b hb
  have hI := h1.isMap
  have hkl : WideAt.IsKeyLit (Lit.int .i64 t) := trivial
  have hoff : ∀ {v : Value} {q : Int}, (∀ g, v.ownBlock = some g → ρ g = .talks q) → Off v (fun k => k = b) := fun hv g hg e => by
    have := hv g hg
    rw [e, h2] at this
    cases this
  refine h.turn hb hk ho (fun x => ?_) fun x m hm => ?_
  · by_cases e : x = t
    · subst e
      rw [Maps.has_put_same hI hkl]; simp
    · rw [Maps.has_put_other (lit_neI e), h.has, if_neg e]
  · split at hm
    · next e =>
      subst e
      cases hm
      exact ⟨hwf, u, fun z => Maps.atKey_put_same hI hkl _ z, hu.keeps hk (hoff hur), hur⟩
    · next e =>
      obtain ⟨h3, v, h4, h5, h6⟩ := h.talk x m hm
      exact ⟨h3, v, fun z => by rw [Maps.atKey_put_other (lit_neI e)]; exact h4 z, h5.keeps hk (hoff h6), h6⟩
end
theorem lay_succ {task : Int} {l : List Tk} {i : Nat} {x : Tk} (hx : l[i]? = some x) : ∀ (chs : List Ch) (k : Nat), lay task chs (l.take (i + 1)) k = layAt task (lay task chs (l.take i) k) x (k + i) := by
  induction l generalizing i with
  | nil => cases hx
  | cons t l ih =>
    intro chs k
    cases i with
    | zero => cases hx; rfl
    | succ i =>
      rw [List.take_succ_cons, List.take_succ_cons, lay, lay, ih (by simpa using hx)]
      congr 1
      omega
theorem layAt_zero {task : Int} {chs : List Ch} {x : Tk} {i : Nat} (h : x.chan = 0) : layAt task chs x i = chs := by unfold layAt; rw [if_pos h]
theorem layAt_set {task : Int} {chs : List Ch} {x : Tk} {i k : Nat} {c : Ch} (h : x.chan = (k : Int) + 1) (hc : chs[k]? = some c) : layAt task chs x i = chs.set k (c.lay task x.what i) := by
  unfold layAt
  rw [if_neg (by omega), show (x.chan - 1).toNat = k by omega, modify_set _ hc]
end Go.Proofs.YtppbmhpbbiigaaaDoor

namespace Go.Proofs.YtppbmhpbbiigaaaDoor
open Go.RowKit Go.Maps Pp

theorem run_equalIn_map_nil {P : Program} (w : World) (d : Nat) (t k e : TypeId) (m : Option Nat) (h : P.underlying t = some (.map k e)) : (Op.equalIn (d + 1) t (.map m) (.map none)).run P w = .ok m.isNone w := by
  cases m <;> simp [Op.equalIn, run_underlying h]
theorem run_eql_map_nil {P : Program} (w : World) (t k e : TypeId) (m : Option Nat) (h : P.underlying t = some (.map k e)) : (binOp .eql t (.map m) (.map none)).run P w = .ok (.bool m.isNone) w := by
  simp only [binOp]
  simp [Op.equal, Op.maxDepth, run_equalIn_map_nil w 9999 t k e m h]
/-- So many of a task's talks stand in their rows. -/
structure WaitJ (w wr : World) (ρ : Nat → Role) (pb : Nat) (vch : Value) (ptr : List Nat) (b : Nat) (D : DataW Value) (N M : Nat) (s : St) (task : Int) (l : List Tk) (i : Nat) : Prop where
  at_ : ∃ ρ', PipesAt wr ρ' pb vch ptr (some b) D N (M + i) ⟨lay task s.chs (l.take i) 0, s.asks⟩ ∧ ∀ g, g < w.heap.size → ρ' g = ρ g
  keep : Keeps (fun g => ρ g ≠ .free) w wr

/-- Talks of no length lie nowhere. -/
theorem TalksAt.keeps0 {S : Nat → Prop} {w w' : World} {v : Value} {l : List Tk} (h : TalksAt w v l) (hk : Keeps S w w') (ho : 0 < l.length → Off v S) : TalksAt w' v l := by
  rcases Nat.eq_zero_or_pos l.length with h0 | h0
  · obtain ⟨ao, n, cap, hv, hn, hc, hm, hx⟩ := h
    exact ⟨ao, n, cap, hv, hn, hc, hm, fun h1 => by omega⟩
  · exact h.keeps hk (ho h0)
set_option maxRecDepth 100000 in
set_option maxHeartbeats 6400000 in
theorem wait_any0 {w : World} {ρ : Nat → Role} {pb : Nat} {vch : Value} {ptr : List Nat} {mb : Option Nat} {D : DataW Value} {N M : Nat} {s : St} (h : PipesAt w ρ pb vch ptr mb D N M s) (hN : N ≤ 1000000000) (hM : M ≤ 10000000) (task : Int) (hwf : (Lit.int .i64 task).wf = true) {v : Value} {l : List Tk}
    (hl : TalksAt w v l) (hvo : 0 < l.length → ∀ g, v.ownBlock = some g → ρ g = .free) (hg : ∀ x ∈ l, x.good s.chs.length) (h6 : l.length ≤ 6) :
    Calls Tryd.prog 37 #[.pointer (some ⟨pb, 0, none⟩), .int .i64 task, v] w fun e w' => (e = .returned (.tuple #[])) ∧ (∃ ρ' mb' D', PipesAt w' ρ' pb vch ptr mb' D' (N + 1) (M + 6) (Pp.wait s task l) ∧ ∀ g, g < w.heap.size → ρ' g = ρ g) ∧
      Keeps (fun b => ρ b ≠ .free) w w' := by
  obtain ⟨ao, cap, rfl, hc1, hc2⟩ := hl.slice
  have HWF := Lib.hid hwf
  have HTW := Lib.hid hl
  have HVO := Lib.hid hvo
  have HG := Lib.hid hg
  have HDOM := Lib.hid h.dom
  have p1 := h.c1
  cases mb with
  | none =>
    have hmm := @run_makeMap Tryd.prog
    have heq := run_eql_map_nil (P := Tryd.prog) w 29 3 32 none Tryd.underlying29
    rw [Option.isNone_none] at heq
    have hz1 : (w.alloc (.map #[] 0)).frozen? ⟨pb, 1, none⟩ = false := by rw [World.frozen?_alloc_past _ _ _ h.lt]; exact h.z 1
    have hp1 := Go.Lib.cell?_alloc_some (.map #[] 0) h.c1
    obtain ⟨h1, hk1⟩ := h.made
    have HP1 := Lib.hid (h1.mono (Nat.zero_le N) (Nat.le_refl M))
    have HT1 : Hid (TalksAt ((w.alloc (.map #[] 0)).setCell ⟨pb, 1, none⟩ (.map (some w.heap.size))) (.slice ao l.length cap) l) := Lib.hid (hl.keeps0 hk1 fun h0 g hg e => by (have := hvo h0 g hg; rw [e, h.p0] at this; cases this))
    have HX1 : Hid (∀ g, g < w.heap.size → roleFrom ρ w.heap.size (w.heap.size + 1) .asks g = ρ g) := Lib.hid fun g hg => roleFrom_old hg
    have HKF : Hid (Keeps (fun b => ρ b ≠ .free) w ((w.alloc (.map #[] 0)).setCell ⟨pb, 1, none⟩ (.map (some w.heap.size)))) := Lib.hid (hk1.mono fun g _ e => by rw [e, h.p0]; simp)
    have hpbl : ¬ pb = w.heap.size := by have := h.lt; omega
    clear h h1 hk1 hl hwf hvo hg
    go_enter Tryd.func37, Tryd.ntmps37
    go_upto_region 2 with fail
    clear hz1 hmm p1 hp1 heq
    generalize (w.alloc (.map #[] 0)).setCell ⟨pb, 1, none⟩ (.map (some w.heap.size)) = w1 at *
    generalize roleFrom ρ w.heap.size (w.heap.size + 1) .asks = ρ1 at *
    have p2 := HP1.out.c1
    have HPBL : Hid (pb < w1.heap.size) := Lib.hid HP1.out.lt
    have HTD : Hid (∀ n, TalksAt (w1.drewN n) (.slice ao l.length cap) l) := Lib.hid fun n => HT1.out.keeps (keeps_drewN (Keeps.refl (fun _ => False) w1) n) fun _ _ e => e
    go_region_with (go_at_call 49; refine (cloneT_any _ (HTD.out _) (by omega)).mono ?_; rintro e w3 ⟨u, rfl, ho3, hb3⟩; have HO3 : Hid (w3.ownsRow w1.heap.size 85 3 u l.length (cellsL l)) := Lib.hid ho3; have HB3 : Hid (Below w1.heap.size w1 w3) := Lib.hid ⟨hb3.os, hb3.tape, hb3.output, hb3.size, hb3.block⟩; have p3 : w3.cell? ⟨pb, 1, none⟩ = some (.map (some w.heap.size)) := (HB3.out.cell (p := ⟨pb, 1, none⟩) HPBL.out).trans p2; obtain ⟨w4, hmu, hown4, hgrow4⟩ := World.ownsMap.update ((Keeps.of_new HB3.out).map (S := fun _ => False) (HP1.out.map1 _ rfl).1 id) keyedP Tryd.underlying29 (by unfold maxLen; omega) (keyOf_int_mk Tryd.underlying3 HWF.out) (val := u) (d := .held u) (ps := []) rfl; have HO4 := Lib.hid hown4; have HG4 := Lib.hid hgrow4; clear ho3 hb3 hown4 hgrow4)
    all_goals
      have HK34 : Hid (Keeps (fun g => g = w.heap.size) w3 w4) := Lib.hid (Keeps.of_grownBy HG4.out fun g _ e => by cases e; rfl)
      have HP4 : Hid (PipesAt w4 (roleFrom ρ1 w1.heap.size w3.heap.size (.talks task)) pb vch ptr (some w.heap.size) ((DataW.map []).put (.int .i64 task) (.held u)) (N + 1) M ⟨s.chs, fun x => if x = task then some l else s.asks x⟩) := Lib.hid (by
        have h3 := HP1.out.same (ρ' := roleFrom ρ1 w1.heap.size w3.heap.size (.talks task)) (Keeps.of_new (S := fun _ => False) HB3.out) (fun g hg => roleFrom_old hg) (roleFrom_dom HP1.out.dom HB3.out.size) fun _ e => e.elim
        refine h3.note rfl HWF.out HK34.out HO4.out (talks_of_own HO3.out) fun g hg => ?_
        have := World.ownsRow.lt HO3.out g hg
        exact roleFrom_new this.1 this.2)
      have HX4 : Hid (∀ g, g < w.heap.size → roleFrom ρ1 w1.heap.size w3.heap.size (.talks task) g = ρ g) := Lib.hid fun g hg => (roleFrom_old (Nat.lt_of_lt_of_le hg HKF.out.size)).trans (HX1.out g hg)
      have HK4 : Hid (Keeps (fun g => ρ g ≠ .free) w w4) := Lib.hid ((HKF.out.trans (Keeps.of_new HB3.out)).trans' HK34.out fun g hg e => by
        have h1 := (HP1.out.map1 _ rfl).2
        have hx9 : ρ1 g = ρ g := HX1.out g hg
        rw [← hx9, e, h1]; simp)
      have HJ0 : Hid (WaitJ w w4 ρ pb vch ptr w.heap.size ((DataW.map []).put (.int .i64 task) (.held u)) (N + 1) M ⟨s.chs, fun x => if x = task then some l else s.asks x⟩ task l 0) := Lib.hid ⟨⟨_, HP4.out, HX4.out⟩, HK4.out⟩
      clear p2 p3 hmu
      go_wp2_with fail
      go_loopw [28] (fun t wr => ∃ i : Nat, i ≤ l.length ∧ t = .int .i64 i ∧ WaitJ w wr ρ pb vch ptr w.heap.size ((DataW.map []).put (.int .i64 task) (.held u)) (N + 1) M ⟨s.chs, fun x => if x = task then some l else s.asks x⟩ task l i) (fun t _ => l.length - (intOf t).toNat)
      case atStart => exact ⟨0, Nat.zero_le _, rfl, HJ0.out⟩
      case round =>
        obtain ⟨i, hi, rfl, hJ⟩ := hrel
        have HJ := Lib.hid hJ
        clear hJ HJ0
        by_cases hil : i < l.length
        · obtain ⟨x, hx⟩ : ∃ x, l[i]? = some x := ⟨_, List.getElem?_eq_getElem hil⟩
          have HX := Lib.hid hx
          have HGX := Lib.hid (HG.out x (List.mem_of_getElem? hx))
          obtain ⟨ρ', hp, hxr⟩ := HJ.out.at_
          have htr : TalksAt wr (.slice ao l.length cap) l := HTW.out.keeps0 HJ.out.keep fun h0 g hg e => e (HVO.out h0 g hg)
          obtain ⟨tb, o, rfl, htb, c1, c2, c3⟩ := htr.at hx
          have hii : (0 : Int) ≤ (i : Int) ∧ (i : Int) < (l.length : Int) := by omega
          obtain ⟨xw, xc, xn⟩ := x
          simp only at c1 c2 c3
          have hka : Keeps (fun _ => False) wr (wr.alloc (.cells #[.int .i64 xw, .int .i64 xc, .int .i64 xn] 85)) := (Keeps.refl _ wr).alloc _
          have HP6 := Lib.hid (hp.keeps hka fun _ _ e => e.elim)
          have HKA := Lib.hid (HJ.out.keep.trans' hka fun _ _ e => e.elim)
          have HXR := Lib.hid hxr
          have hm6 : may (lay task s.chs (l.take i) 0).length xc = true := by
            rw [lay_len]
            unfold may
            obtain ⟨h1, _⟩ := HGX.out
            simp only at h1
            simp [h1.1, h1.2]
          have HM6 := Lib.hid hm6
          have HC6 := Lib.hid (HP6.out.chan hm6)
          clear hka hm6 hx htr hp hxr htb
          rcases HC6.out with ⟨h0, hn0, _⟩ | ⟨kc, cb, rb, sb, v1, v2, c, hxc, hcg, hcp, hcp2, _, hch⟩
          · have HN0 := Lib.hid hn0
            have HS0 : Hid (lay task s.chs (l.take (i + 1)) 0 = lay task s.chs (l.take i) 0) := Lib.hid ((lay_succ HX.out s.chs 0).trans (layAt_zero h0))
            clear hn0 h0 HC6
            go_wp2_with fail
            refine (channel_any HP6.out xc HM6.out).mono ?_
            rintro e w6 ⟨rfl, rfl⟩
            rw [HN0.out]
            go_wp2_with fail
            go_roundw
            case rel =>
              refine ⟨i + 1, by omega, by go_num, ⟨ρ', ?_, HXR.out⟩, HKA.out⟩
              have := HP6.out.mono (Nat.le_refl (N + 1)) (Nat.le_succ (M + i))
              simp only at this ⊢
              rw [HS0.out]; exact this
            case measure => simp [intOf]; omega
          · have HCH := Lib.hid hch
            have HCP := Lib.hid hcp2
            have HXC := Lib.hid hxc
            have HCG := Lib.hid hcg
            have HCB := Lib.hid hcp
            obtain ⟨a1, k1, hv1, _, _⟩ := hch.r1.slice
            obtain ⟨a2, k2, hv2, _, _⟩ := hch.r2.slice
            subst hv1
            subst hv2
            have c2' := hch.c2
            have c3' := hch.c3
            have z2 := hch.z 2
            have z3 := hch.z 3
            have HROWS := Lib.hid (HP6.out.rows kc c hcg)
            have hrs1 := HROWS.out.1
            have hrs2 := HROWS.out.2
            clear hch hcp2 hxc hcg hcp HC6
            by_cases h3 : xw = 3
            · subst h3
              have hrow := row_any (wr.alloc (.cells #[.int .i64 3, .int .i64 xc, .int .i64 xn] 85)) cb 3
              rw [if_pos rfl] at hrow
              have HROW := Lib.hid hrow
              have hclt : cb < (wr.alloc (.cells #[.int .i64 3, .int .i64 xc, .int .i64 xn] 85)).heap.size := block_lt_of_cell HCH.out.c0
              have hcb : ¬ (Value.slice a1 c.sends.length k1).ownBlock = some cb := fun e => by
                have h1 := HCH.out.p3 cb e
                rw [HCH.out.p0] at h1
                cases h1
              have HCLT := Lib.hid hclt
              have HNCB := Lib.hid hcb
              clear hrow hclt hcb
              go_wp2_with fail
              refine (channel_any HP6.out xc HM6.out).mono ?_
              rintro e w6 ⟨rfl, rfl⟩
              rw [HCP.out]
              go_wp2_with fail
              refine HROW.out.mono ?_
              rintro e w6 ⟨rfl, rfl⟩
              clear c1 c2 c3
              generalize wr.alloc (.cells #[.int .i64 3, .int .i64 xc, .int .i64 xn] 85) = w6 at *
              go_wp2_with (at_builtin; go_loud (refine wpList_appendW rfl _ _ rfl w6 _ c.sends task i HCH.out.r1 rfl rfl (by omega) ?_; intro a6 c6 w7 hO7 hK7 hN7; have HO7 := Lib.hid hO7; have HK7 := Lib.hid hK7; have HN7 := Lib.hid hN7; have y2 : w7.cell? ⟨cb, 2, none⟩ = some (Value.slice a1 c.sends.length k1) := hK7.cell_of c2' HNCB.out; have y3 : w7.frozen? ⟨cb, 2, none⟩ = false := (by rw [hK7.frozen (p := ⟨cb, 2, none⟩) HCLT.out HNCB.out]; exact z2); clear hO7 hK7 hN7))
              have HR7 : Hid (∀ g, (Value.slice a6 (c.sends.length + 1) c6).ownBlock = some g → roleFrom ρ' w6.heap.size w7.heap.size (.sends kc) g = .sends kc) := Lib.hid fun g hg => by
                rcases HN7.out g hg with h1 | h1
                · have h2 := HCH.out.p3 g h1
                  rw [roleFrom_old (HP6.out.dom g (by rw [h2]; simp))]; exact h2
                · exact roleFrom_new h1 (HO7.out.lt g hg)
              have HC7 := Lib.hid ((HCH.out.role (ρ' := roleFrom ρ' w6.heap.size w7.heap.size (.sends kc)) fun g hg => roleFrom_old hg).sends HK7.out HO7.out HR7.out)
              have HK8 : Hid (Keeps (fun g => (Value.slice a1 c.sends.length k1).ownBlock = some g ∨ g = cb) w6 (w7.setCell ⟨cb, 2, none⟩ (.slice a6 (c.sends.length + 1) c6))) := Lib.hid ((HK7.out.mono (S' := fun g => (Value.slice a1 c.sends.length k1).ownBlock = some g ∨ g = cb) fun _ _ e => Or.inl e).setCell (p := ⟨cb, 2, none⟩) (Or.inl (Or.inr rfl)) _)
              have HST : Hid (lay task s.chs (l.take (i + 1)) 0 = (lay task s.chs (l.take i) 0).set kc (c.lay task 3 i)) := Lib.hid ((lay_succ HX.out s.chs 0).trans (by rw [Nat.zero_add]; exact layAt_set HXC.out HCG.out))
              have HLAY : Hid (Ch.lay task 3 i c = { c with sends := c.sends ++ [(task, i)] }) := Lib.hid (by unfold Ch.lay; rw [if_pos rfl])
              have HJ7 : Hid (WaitJ w (w7.setCell ⟨cb, 2, none⟩ (.slice a6 (c.sends.length + 1) c6)) ρ pb vch ptr w.heap.size ((DataW.map []).put (.int .i64 task) (.held u)) (N + 1) M ⟨s.chs, fun x => if x = task then some l else s.asks x⟩ task l (i + 1)) := Lib.hid (by
                refine ⟨⟨roleFrom ρ' w6.heap.size w7.heap.size (.sends kc), ?_, fun g hg => ?_⟩, HKA.out.trans' HK8.out fun g hg e => ?_⟩
                · have h1 := HP6.out.put (M' := M + (i + 1)) (ρ' := roleFrom ρ' w6.heap.size w7.heap.size (.sends kc)) HK8.out (fun g hg => roleFrom_old hg) (fun g hg => by
                    have := roleFrom_dom HP6.out.dom HK7.out.size g hg
                    simpa using this) kc (c' := c.lay task 3 i) (fun g e => Or.inr (by
                    rcases e with e | e
                    · rw [HCH.out.p3 g e]; rfl
                    · rw [e, HCH.out.p0]; rfl)) (fun cb' hcb' => by
                      rw [HCB.out] at hcb'
                      cases hcb'
                      have h9 := HC7.out
                      rw [HLAY.out]
                      exact ⟨_, _, _, _, h9⟩) (by
                      rw [HLAY.out]
                      have h6 := HROWS.out
                      constructor
                      · show (c.sends ++ [(task, i)]).length ≤ _; rw [List.length_append, List.length_singleton]; omega
                      · show c.recvs.length ≤ _; omega) (by omega)
                  simp only at h1 ⊢
                  rw [HST.out]; exact h1
                · rw [roleFrom_old (Nat.lt_of_lt_of_le hg HKA.out.size)]; exact HXR.out g hg
                · rw [← HXR.out g hg]
                  rcases e with e | e
                  · rw [HCH.out.p3 g e]; simp
                  · rw [e, HCH.out.p0]; simp)
              clear c2' c3' z2 z3 hrs1 hrs2
              go_wp2_with fail
              go_roundw
              case rel => exact ⟨i + 1, by omega, by go_num, HJ7.out⟩
              case measure => simp [intOf]; omega
            · have e3 : (xw == 3) = false := by rw [beq_eq_false_iff_ne]; exact h3
              have hrow := row_any (wr.alloc (.cells #[.int .i64 xw, .int .i64 xc, .int .i64 xn] 85)) cb xw
              rw [if_neg h3] at hrow
              have HROW := Lib.hid hrow
              have hclt : cb < (wr.alloc (.cells #[.int .i64 xw, .int .i64 xc, .int .i64 xn] 85)).heap.size := block_lt_of_cell HCH.out.c0
              have hcb : ¬ (Value.slice a2 c.recvs.length k2).ownBlock = some cb := fun e => by
                have h1 := HCH.out.p4 cb e
                rw [HCH.out.p0] at h1
                cases h1
              have HCLT := Lib.hid hclt
              have HNCB := Lib.hid hcb
              clear hrow hclt hcb
              go_wp2_with fail
              refine (channel_any HP6.out xc HM6.out).mono ?_
              rintro e w6 ⟨rfl, rfl⟩
              rw [HCP.out]
              go_wp2_with fail
              refine HROW.out.mono ?_
              rintro e w6 ⟨rfl, rfl⟩
              clear c1 c2 c3
              generalize wr.alloc (.cells #[.int .i64 xw, .int .i64 xc, .int .i64 xn] 85) = w6 at *
              go_wp2_with (at_builtin; go_loud (refine wpList_appendW rfl _ _ rfl w6 _ c.recvs task i HCH.out.r2 rfl rfl (by omega) ?_; intro a6 c6 w7 hO7 hK7 hN7; have HO7 := Lib.hid hO7; have HK7 := Lib.hid hK7; have HN7 := Lib.hid hN7; have y2 : w7.cell? ⟨cb, 3, none⟩ = some (Value.slice a2 c.recvs.length k2) := hK7.cell_of c3' HNCB.out; have y3 : w7.frozen? ⟨cb, 3, none⟩ = false := (by rw [hK7.frozen (p := ⟨cb, 3, none⟩) HCLT.out HNCB.out]; exact z3); clear hO7 hK7 hN7))
              have HR7 : Hid (∀ g, (Value.slice a6 (c.recvs.length + 1) c6).ownBlock = some g → roleFrom ρ' w6.heap.size w7.heap.size (.recvs kc) g = .recvs kc) := Lib.hid fun g hg => by
                rcases HN7.out g hg with h1 | h1
                · have h2 := HCH.out.p4 g h1
                  rw [roleFrom_old (HP6.out.dom g (by rw [h2]; simp))]; exact h2
                · exact roleFrom_new h1 (HO7.out.lt g hg)
              have HC7 := Lib.hid ((HCH.out.role (ρ' := roleFrom ρ' w6.heap.size w7.heap.size (.recvs kc)) fun g hg => roleFrom_old hg).recvs HK7.out HO7.out HR7.out)
              have HK8 : Hid (Keeps (fun g => (Value.slice a2 c.recvs.length k2).ownBlock = some g ∨ g = cb) w6 (w7.setCell ⟨cb, 3, none⟩ (.slice a6 (c.recvs.length + 1) c6))) := Lib.hid ((HK7.out.mono (S' := fun g => (Value.slice a2 c.recvs.length k2).ownBlock = some g ∨ g = cb) fun _ _ e => Or.inl e).setCell (p := ⟨cb, 3, none⟩) (Or.inl (Or.inr rfl)) _)
              have HST : Hid (lay task s.chs (l.take (i + 1)) 0 = (lay task s.chs (l.take i) 0).set kc (c.lay task xw i)) := Lib.hid ((lay_succ HX.out s.chs 0).trans (by rw [Nat.zero_add]; exact layAt_set HXC.out HCG.out))
              have HLAY : Hid (Ch.lay task xw i c = { c with recvs := c.recvs ++ [(task, i)] }) := Lib.hid (by unfold Ch.lay; rw [if_neg h3])
              have HJ7 : Hid (WaitJ w (w7.setCell ⟨cb, 3, none⟩ (.slice a6 (c.recvs.length + 1) c6)) ρ pb vch ptr w.heap.size ((DataW.map []).put (.int .i64 task) (.held u)) (N + 1) M ⟨s.chs, fun x => if x = task then some l else s.asks x⟩ task l (i + 1)) := Lib.hid (by
                refine ⟨⟨roleFrom ρ' w6.heap.size w7.heap.size (.recvs kc), ?_, fun g hg => ?_⟩, HKA.out.trans' HK8.out fun g hg e => ?_⟩
                · have h1 := HP6.out.put (M' := M + (i + 1)) (ρ' := roleFrom ρ' w6.heap.size w7.heap.size (.recvs kc)) HK8.out (fun g hg => roleFrom_old hg) (fun g hg => by
                    have := roleFrom_dom HP6.out.dom HK7.out.size g hg
                    simpa using this) kc (c' := c.lay task xw i) (fun g e => Or.inr (by
                    rcases e with e | e
                    · rw [HCH.out.p4 g e]; rfl
                    · rw [e, HCH.out.p0]; rfl)) (fun cb' hcb' => by
                      rw [HCB.out] at hcb'
                      cases hcb'
                      have h9 := HC7.out
                      rw [HLAY.out]
                      exact ⟨_, _, _, _, h9⟩) (by
                      rw [HLAY.out]
                      have h6 := HROWS.out
                      constructor
                      · show c.sends.length ≤ _; omega
                      · show (c.recvs ++ [(task, i)]).length ≤ _; rw [List.length_append, List.length_singleton]; omega) (by omega)
                  simp only at h1 ⊢
                  rw [HST.out]; exact h1
                · rw [roleFrom_old (Nat.lt_of_lt_of_le hg HKA.out.size)]; exact HXR.out g hg
                · rw [← HXR.out g hg]
                  rcases e with e | e
                  · rw [HCH.out.p4 g e]; simp
                  · rw [e, HCH.out.p0]; simp)
              clear c2' c3' z2 z3 hrs1 hrs2
              go_wp2_with fail
              go_roundw
              case rel => exact ⟨i + 1, by omega, by go_num, HJ7.out⟩
              case measure => simp [intOf]; omega
        · obtain rfl : i = l.length := by omega
          have HE := HJ.out
          go_wp2_with fail
          go_end0
          obtain ⟨ρ', h1, h2⟩ := HE.at_
          rw [List.take_length] at h1
          refine ⟨rfl, ⟨ρ', _, _, h1.mono (Nat.le_refl _) (by omega), h2⟩, HE.keep⟩
  | some b =>
    have heq := run_eql_map_nil (P := Tryd.prog) w 29 3 32 (some b) Tryd.underlying29
    rw [Option.isNone_some] at heq
    have HP1 := Lib.hid h
    have HT1 := Lib.hid hl
    have HKF : Hid (Keeps (fun b => ρ b ≠ .free) w w) := Lib.hid (Keeps.refl _ _)
    clear h hl hwf hvo hg
    go_enter Tryd.func37, Tryd.ntmps37
    go_upto_region 2 with fail
    clear p1 heq
    have p2 := HP1.out.c1
    have HPBL : Hid (pb < w.heap.size) := Lib.hid HP1.out.lt
    have HTD : Hid (∀ n, TalksAt (w.drewN n) (.slice ao l.length cap) l) := Lib.hid fun n => HT1.out.keeps (keeps_drewN (Keeps.refl (fun _ => False) w) n) fun _ _ e => e
    go_region_with (go_at_call 49; refine (cloneT_any _ (HTD.out _) (by omega)).mono ?_; rintro e w3 ⟨u, rfl, ho3, hb3⟩; have HO3 : Hid (w3.ownsRow w.heap.size 85 3 u l.length (cellsL l)) := Lib.hid ho3; have HB3 : Hid (Below w.heap.size w w3) := Lib.hid ⟨hb3.os, hb3.tape, hb3.output, hb3.size, hb3.block⟩; have p3 : w3.cell? ⟨pb, 1, none⟩ = some (.map (some b)) := (HB3.out.cell (p := ⟨pb, 1, none⟩) HPBL.out).trans p2; obtain ⟨w4, hmu, hown4, hgrow4⟩ := World.ownsMap.update ((Keeps.of_new HB3.out).map (S := fun _ => False) (HP1.out.map1 _ rfl).1 id) keyedP Tryd.underlying29 (by unfold maxLen; omega) (keyOf_int_mk Tryd.underlying3 HWF.out) (val := u) (d := .held u) (ps := []) rfl; have HO4 := Lib.hid hown4; have HG4 := Lib.hid hgrow4; clear ho3 hb3 hown4 hgrow4)
    all_goals
      have HK34 : Hid (Keeps (fun g => g = b) w3 w4) := Lib.hid (Keeps.of_grownBy HG4.out fun g _ e => by cases e; rfl)
      have HP4 : Hid (PipesAt w4 (roleFrom ρ w.heap.size w3.heap.size (.talks task)) pb vch ptr (some b) (D.put (.int .i64 task) (.held u)) (N + 1) M ⟨s.chs, fun x => if x = task then some l else s.asks x⟩) := Lib.hid (by
        have h3 := HP1.out.same (ρ' := roleFrom ρ w.heap.size w3.heap.size (.talks task)) (Keeps.of_new (S := fun _ => False) HB3.out) (fun g hg => roleFrom_old hg) (roleFrom_dom HP1.out.dom HB3.out.size) fun _ e => e.elim
        refine h3.note rfl HWF.out HK34.out HO4.out (talks_of_own HO3.out) fun g hg => ?_
        have := World.ownsRow.lt HO3.out g hg
        exact roleFrom_new this.1 this.2)
      have HX4 : Hid (∀ g, g < w.heap.size → roleFrom ρ w.heap.size w3.heap.size (.talks task) g = ρ g) := Lib.hid fun g hg => (roleFrom_old (Nat.lt_of_lt_of_le hg HKF.out.size)).trans ((fun _ _ => rfl) g hg)
      have HK4 : Hid (Keeps (fun g => ρ g ≠ .free) w w4) := Lib.hid ((HKF.out.trans (Keeps.of_new HB3.out)).trans' HK34.out fun g hg e => by
        have h1 := (HP1.out.map1 _ rfl).2
        have hx9 : ρ g = ρ g := (fun _ _ => rfl) g hg
        rw [← hx9, e, h1]; simp)
      have HJ0 : Hid (WaitJ w w4 ρ pb vch ptr b (D.put (.int .i64 task) (.held u)) (N + 1) M ⟨s.chs, fun x => if x = task then some l else s.asks x⟩ task l 0) := Lib.hid ⟨⟨_, HP4.out, HX4.out⟩, HK4.out⟩
      clear p2 p3 hmu
      go_wp2_with fail
      go_loopw [28] (fun t wr => ∃ i : Nat, i ≤ l.length ∧ t = .int .i64 i ∧ WaitJ w wr ρ pb vch ptr b (D.put (.int .i64 task) (.held u)) (N + 1) M ⟨s.chs, fun x => if x = task then some l else s.asks x⟩ task l i) (fun t _ => l.length - (intOf t).toNat)
      case atStart => exact ⟨0, Nat.zero_le _, rfl, HJ0.out⟩
      case round =>
        obtain ⟨i, hi, rfl, hJ⟩ := hrel
        have HJ := Lib.hid hJ
        clear hJ HJ0
        by_cases hil : i < l.length
        · obtain ⟨x, hx⟩ : ∃ x, l[i]? = some x := ⟨_, List.getElem?_eq_getElem hil⟩
          have HX := Lib.hid hx
          have HGX := Lib.hid (HG.out x (List.mem_of_getElem? hx))
          obtain ⟨ρ', hp, hxr⟩ := HJ.out.at_
          have htr : TalksAt wr (.slice ao l.length cap) l := HTW.out.keeps0 HJ.out.keep fun h0 g hg e => e (HVO.out h0 g hg)
          obtain ⟨tb, o, rfl, htb, c1, c2, c3⟩ := htr.at hx
          have hii : (0 : Int) ≤ (i : Int) ∧ (i : Int) < (l.length : Int) := by omega
          obtain ⟨xw, xc, xn⟩ := x
          simp only at c1 c2 c3
          have hka : Keeps (fun _ => False) wr (wr.alloc (.cells #[.int .i64 xw, .int .i64 xc, .int .i64 xn] 85)) := (Keeps.refl _ wr).alloc _
          have HP6 := Lib.hid (hp.keeps hka fun _ _ e => e.elim)
          have HKA := Lib.hid (HJ.out.keep.trans' hka fun _ _ e => e.elim)
          have HXR := Lib.hid hxr
          have hm6 : may (lay task s.chs (l.take i) 0).length xc = true := by
            rw [lay_len]
            unfold may
            obtain ⟨h1, _⟩ := HGX.out
            simp only at h1
            simp [h1.1, h1.2]
          have HM6 := Lib.hid hm6
          have HC6 := Lib.hid (HP6.out.chan hm6)
          clear hka hm6 hx htr hp hxr htb
          rcases HC6.out with ⟨h0, hn0, _⟩ | ⟨kc, cb, rb, sb, v1, v2, c, hxc, hcg, hcp, hcp2, _, hch⟩
          · have HN0 := Lib.hid hn0
            have HS0 : Hid (lay task s.chs (l.take (i + 1)) 0 = lay task s.chs (l.take i) 0) := Lib.hid ((lay_succ HX.out s.chs 0).trans (layAt_zero h0))
            clear hn0 h0 HC6
            go_wp2_with fail
            refine (channel_any HP6.out xc HM6.out).mono ?_
            rintro e w6 ⟨rfl, rfl⟩
            rw [HN0.out]
            go_wp2_with fail
            go_roundw
            case rel =>
              refine ⟨i + 1, by omega, by go_num, ⟨ρ', ?_, HXR.out⟩, HKA.out⟩
              have := HP6.out.mono (Nat.le_refl (N + 1)) (Nat.le_succ (M + i))
              simp only at this ⊢
              rw [HS0.out]; exact this
            case measure => simp [intOf]; omega
          · have HCH := Lib.hid hch
            have HCP := Lib.hid hcp2
            have HXC := Lib.hid hxc
            have HCG := Lib.hid hcg
            have HCB := Lib.hid hcp
            obtain ⟨a1, k1, hv1, _, _⟩ := hch.r1.slice
            obtain ⟨a2, k2, hv2, _, _⟩ := hch.r2.slice
            subst hv1
            subst hv2
            have c2' := hch.c2
            have c3' := hch.c3
            have z2 := hch.z 2
            have z3 := hch.z 3
            have HROWS := Lib.hid (HP6.out.rows kc c hcg)
            have hrs1 := HROWS.out.1
            have hrs2 := HROWS.out.2
            clear hch hcp2 hxc hcg hcp HC6
            by_cases h3 : xw = 3
            · subst h3
              have hrow := row_any (wr.alloc (.cells #[.int .i64 3, .int .i64 xc, .int .i64 xn] 85)) cb 3
              rw [if_pos rfl] at hrow
              have HROW := Lib.hid hrow
              have hclt : cb < (wr.alloc (.cells #[.int .i64 3, .int .i64 xc, .int .i64 xn] 85)).heap.size := block_lt_of_cell HCH.out.c0
              have hcb : ¬ (Value.slice a1 c.sends.length k1).ownBlock = some cb := fun e => by
                have h1 := HCH.out.p3 cb e
                rw [HCH.out.p0] at h1
                cases h1
              have HCLT := Lib.hid hclt
              have HNCB := Lib.hid hcb
              clear hrow hclt hcb
              go_wp2_with fail
              refine (channel_any HP6.out xc HM6.out).mono ?_
              rintro e w6 ⟨rfl, rfl⟩
              rw [HCP.out]
              go_wp2_with fail
              refine HROW.out.mono ?_
              rintro e w6 ⟨rfl, rfl⟩
              clear c1 c2 c3
              generalize wr.alloc (.cells #[.int .i64 3, .int .i64 xc, .int .i64 xn] 85) = w6 at *
              go_wp2_with (at_builtin; go_loud (refine wpList_appendW rfl _ _ rfl w6 _ c.sends task i HCH.out.r1 rfl rfl (by omega) ?_; intro a6 c6 w7 hO7 hK7 hN7; have HO7 := Lib.hid hO7; have HK7 := Lib.hid hK7; have HN7 := Lib.hid hN7; have y2 : w7.cell? ⟨cb, 2, none⟩ = some (Value.slice a1 c.sends.length k1) := hK7.cell_of c2' HNCB.out; have y3 : w7.frozen? ⟨cb, 2, none⟩ = false := (by rw [hK7.frozen (p := ⟨cb, 2, none⟩) HCLT.out HNCB.out]; exact z2); clear hO7 hK7 hN7))
              have HR7 : Hid (∀ g, (Value.slice a6 (c.sends.length + 1) c6).ownBlock = some g → roleFrom ρ' w6.heap.size w7.heap.size (.sends kc) g = .sends kc) := Lib.hid fun g hg => by
                rcases HN7.out g hg with h1 | h1
                · have h2 := HCH.out.p3 g h1
                  rw [roleFrom_old (HP6.out.dom g (by rw [h2]; simp))]; exact h2
                · exact roleFrom_new h1 (HO7.out.lt g hg)
              have HC7 := Lib.hid ((HCH.out.role (ρ' := roleFrom ρ' w6.heap.size w7.heap.size (.sends kc)) fun g hg => roleFrom_old hg).sends HK7.out HO7.out HR7.out)
              have HK8 : Hid (Keeps (fun g => (Value.slice a1 c.sends.length k1).ownBlock = some g ∨ g = cb) w6 (w7.setCell ⟨cb, 2, none⟩ (.slice a6 (c.sends.length + 1) c6))) := Lib.hid ((HK7.out.mono (S' := fun g => (Value.slice a1 c.sends.length k1).ownBlock = some g ∨ g = cb) fun _ _ e => Or.inl e).setCell (p := ⟨cb, 2, none⟩) (Or.inl (Or.inr rfl)) _)
              have HST : Hid (lay task s.chs (l.take (i + 1)) 0 = (lay task s.chs (l.take i) 0).set kc (c.lay task 3 i)) := Lib.hid ((lay_succ HX.out s.chs 0).trans (by rw [Nat.zero_add]; exact layAt_set HXC.out HCG.out))
              have HLAY : Hid (Ch.lay task 3 i c = { c with sends := c.sends ++ [(task, i)] }) := Lib.hid (by unfold Ch.lay; rw [if_pos rfl])
              have HJ7 : Hid (WaitJ w (w7.setCell ⟨cb, 2, none⟩ (.slice a6 (c.sends.length + 1) c6)) ρ pb vch ptr b (D.put (.int .i64 task) (.held u)) (N + 1) M ⟨s.chs, fun x => if x = task then some l else s.asks x⟩ task l (i + 1)) := Lib.hid (by
                refine ⟨⟨roleFrom ρ' w6.heap.size w7.heap.size (.sends kc), ?_, fun g hg => ?_⟩, HKA.out.trans' HK8.out fun g hg e => ?_⟩
                · have h1 := HP6.out.put (M' := M + (i + 1)) (ρ' := roleFrom ρ' w6.heap.size w7.heap.size (.sends kc)) HK8.out (fun g hg => roleFrom_old hg) (fun g hg => by
                    have := roleFrom_dom HP6.out.dom HK7.out.size g hg
                    simpa using this) kc (c' := c.lay task 3 i) (fun g e => Or.inr (by
                    rcases e with e | e
                    · rw [HCH.out.p3 g e]; rfl
                    · rw [e, HCH.out.p0]; rfl)) (fun cb' hcb' => by
                      rw [HCB.out] at hcb'
                      cases hcb'
                      have h9 := HC7.out
                      rw [HLAY.out]
                      exact ⟨_, _, _, _, h9⟩) (by
                      rw [HLAY.out]
                      have h6 := HROWS.out
                      constructor
                      · show (c.sends ++ [(task, i)]).length ≤ _; rw [List.length_append, List.length_singleton]; omega
                      · show c.recvs.length ≤ _; omega) (by omega)
                  simp only at h1 ⊢
                  rw [HST.out]; exact h1
                · rw [roleFrom_old (Nat.lt_of_lt_of_le hg HKA.out.size)]; exact HXR.out g hg
                · rw [← HXR.out g hg]
                  rcases e with e | e
                  · rw [HCH.out.p3 g e]; simp
                  · rw [e, HCH.out.p0]; simp)
              clear c2' c3' z2 z3 hrs1 hrs2
              go_wp2_with fail
              go_roundw
              case rel => exact ⟨i + 1, by omega, by go_num, HJ7.out⟩
              case measure => simp [intOf]; omega
            · have e3 : (xw == 3) = false := by rw [beq_eq_false_iff_ne]; exact h3
              have hrow := row_any (wr.alloc (.cells #[.int .i64 xw, .int .i64 xc, .int .i64 xn] 85)) cb xw
              rw [if_neg h3] at hrow
              have HROW := Lib.hid hrow
              have hclt : cb < (wr.alloc (.cells #[.int .i64 xw, .int .i64 xc, .int .i64 xn] 85)).heap.size := block_lt_of_cell HCH.out.c0
              have hcb : ¬ (Value.slice a2 c.recvs.length k2).ownBlock = some cb := fun e => by
                have h1 := HCH.out.p4 cb e
                rw [HCH.out.p0] at h1
                cases h1
              have HCLT := Lib.hid hclt
              have HNCB := Lib.hid hcb
              clear hrow hclt hcb
              go_wp2_with fail
              refine (channel_any HP6.out xc HM6.out).mono ?_
              rintro e w6 ⟨rfl, rfl⟩
              rw [HCP.out]
              go_wp2_with fail
              refine HROW.out.mono ?_
              rintro e w6 ⟨rfl, rfl⟩
              clear c1 c2 c3
              generalize wr.alloc (.cells #[.int .i64 xw, .int .i64 xc, .int .i64 xn] 85) = w6 at *
              go_wp2_with (at_builtin; go_loud (refine wpList_appendW rfl _ _ rfl w6 _ c.recvs task i HCH.out.r2 rfl rfl (by omega) ?_; intro a6 c6 w7 hO7 hK7 hN7; have HO7 := Lib.hid hO7; have HK7 := Lib.hid hK7; have HN7 := Lib.hid hN7; have y2 : w7.cell? ⟨cb, 3, none⟩ = some (Value.slice a2 c.recvs.length k2) := hK7.cell_of c3' HNCB.out; have y3 : w7.frozen? ⟨cb, 3, none⟩ = false := (by rw [hK7.frozen (p := ⟨cb, 3, none⟩) HCLT.out HNCB.out]; exact z3); clear hO7 hK7 hN7))
              have HR7 : Hid (∀ g, (Value.slice a6 (c.recvs.length + 1) c6).ownBlock = some g → roleFrom ρ' w6.heap.size w7.heap.size (.recvs kc) g = .recvs kc) := Lib.hid fun g hg => by
                rcases HN7.out g hg with h1 | h1
                · have h2 := HCH.out.p4 g h1
                  rw [roleFrom_old (HP6.out.dom g (by rw [h2]; simp))]; exact h2
                · exact roleFrom_new h1 (HO7.out.lt g hg)
              have HC7 := Lib.hid ((HCH.out.role (ρ' := roleFrom ρ' w6.heap.size w7.heap.size (.recvs kc)) fun g hg => roleFrom_old hg).recvs HK7.out HO7.out HR7.out)
              have HK8 : Hid (Keeps (fun g => (Value.slice a2 c.recvs.length k2).ownBlock = some g ∨ g = cb) w6 (w7.setCell ⟨cb, 3, none⟩ (.slice a6 (c.recvs.length + 1) c6))) := Lib.hid ((HK7.out.mono (S' := fun g => (Value.slice a2 c.recvs.length k2).ownBlock = some g ∨ g = cb) fun _ _ e => Or.inl e).setCell (p := ⟨cb, 3, none⟩) (Or.inl (Or.inr rfl)) _)
              have HST : Hid (lay task s.chs (l.take (i + 1)) 0 = (lay task s.chs (l.take i) 0).set kc (c.lay task xw i)) := Lib.hid ((lay_succ HX.out s.chs 0).trans (by rw [Nat.zero_add]; exact layAt_set HXC.out HCG.out))
              have HLAY : Hid (Ch.lay task xw i c = { c with recvs := c.recvs ++ [(task, i)] }) := Lib.hid (by unfold Ch.lay; rw [if_neg h3])
              have HJ7 : Hid (WaitJ w (w7.setCell ⟨cb, 3, none⟩ (.slice a6 (c.recvs.length + 1) c6)) ρ pb vch ptr b (D.put (.int .i64 task) (.held u)) (N + 1) M ⟨s.chs, fun x => if x = task then some l else s.asks x⟩ task l (i + 1)) := Lib.hid (by
                refine ⟨⟨roleFrom ρ' w6.heap.size w7.heap.size (.recvs kc), ?_, fun g hg => ?_⟩, HKA.out.trans' HK8.out fun g hg e => ?_⟩
                · have h1 := HP6.out.put (M' := M + (i + 1)) (ρ' := roleFrom ρ' w6.heap.size w7.heap.size (.recvs kc)) HK8.out (fun g hg => roleFrom_old hg) (fun g hg => by
                    have := roleFrom_dom HP6.out.dom HK7.out.size g hg
                    simpa using this) kc (c' := c.lay task xw i) (fun g e => Or.inr (by
                    rcases e with e | e
                    · rw [HCH.out.p4 g e]; rfl
                    · rw [e, HCH.out.p0]; rfl)) (fun cb' hcb' => by
                      rw [HCB.out] at hcb'
                      cases hcb'
                      have h9 := HC7.out
                      rw [HLAY.out]
                      exact ⟨_, _, _, _, h9⟩) (by
                      rw [HLAY.out]
                      have h6 := HROWS.out
                      constructor
                      · show c.sends.length ≤ _; omega
                      · show (c.recvs ++ [(task, i)]).length ≤ _; rw [List.length_append, List.length_singleton]; omega) (by omega)
                  simp only at h1 ⊢
                  rw [HST.out]; exact h1
                · rw [roleFrom_old (Nat.lt_of_lt_of_le hg HKA.out.size)]; exact HXR.out g hg
                · rw [← HXR.out g hg]
                  rcases e with e | e
                  · rw [HCH.out.p4 g e]; simp
                  · rw [e, HCH.out.p0]; simp)
              clear c2' c3' z2 z3 hrs1 hrs2
              go_wp2_with fail
              go_roundw
              case rel => exact ⟨i + 1, by omega, by go_num, HJ7.out⟩
              case measure => simp [intOf]; omega
        · obtain rfl : i = l.length := by omega
          have HE := HJ.out
          go_wp2_with fail
          go_end0
          obtain ⟨ρ', h1, h2⟩ := HE.at_
          rw [List.take_length] at h1
          refine ⟨rfl, ⟨ρ', _, _, h1.mono (Nat.le_refl _) (by omega), h2⟩, HE.keep⟩
theorem wait_any {w : World} {ρ : Nat → Role} {pb : Nat} {vch : Value} {ptr : List Nat} {mb : Option Nat} {D : DataW Value} {N M : Nat} {s : St} (h : PipesAt w ρ pb vch ptr mb D N M s) (hN : N ≤ 1000000000) (hM : M ≤ 10000000) (task : Int) (hwf : (Lit.int .i64 task).wf = true) {v : Value} {l : List Tk}
    (hl : TalksAt w v l) (hvo : ∀ g, v.ownBlock = some g → ρ g = .free) (hg : ∀ x ∈ l, x.good s.chs.length) (h6 : l.length ≤ 6) :
    Calls Tryd.prog 37 #[.pointer (some ⟨pb, 0, none⟩), .int .i64 task, v] w fun e w' => (e = .returned (.tuple #[])) ∧ (∃ ρ' mb' D', PipesAt w' ρ' pb vch ptr mb' D' (N + 1) (M + 6) (Pp.wait s task l) ∧ ∀ g, g < w.heap.size → ρ' g = ρ g) ∧
      Keeps (fun b => ρ b ≠ .free) w w' :=
  wait_any0 h hN hM task hwf hl (fun _ => hvo) hg h6
end Go.Proofs.YtppbmhpbbiigaaaDoor

namespace Go.Proofs.YtppbmhpbbiigaaaDoor
open Go.RowKit Go.Maps Pp

/-- What comes of a talk. -/
structure TalkP (w w' : World) (ρ : Nat → Role) (pb N : Nat) (r : Pp.Told) (vw : Value) : Prop where
  pipes : ∃ ρ', Pipes w' ρ' pb (N + 1) r.st ∧ (∀ g, g < w.heap.size → ρ' g = ρ g) ∧ ∀ g, vw.ownBlock = some g → ρ' g = .free
  wk : w'.ownsRow w.heap.size 65 3 vw r.wakes.length (cellsK r.wakes)
  keep : Keeps (fun b => ρ b ≠ .free) w w'
/-- The same, ahead of the answer's note, in the block that the talk has made for it. -/
structure TalkI (w W : World) (ρ : Nat → Role) (pb N : Nat) (r : Pp.Told) (vw : Value) : Prop where
  pipes : ∃ ρ', Pipes W ρ' pb (N + 1) r.st ∧ (∀ g, g < w.heap.size + 1 → ρ' g = ρ g) ∧ ∀ g, vw.ownBlock = some g → ρ' g = .free
  wk : W.ownsRow (w.heap.size + 1) 65 3 vw r.wakes.length (cellsK r.wakes)
  keep : Keeps (fun b => ρ b ≠ .free) w W
  c0 : W.cell? ⟨w.heap.size, 0, none⟩ = some (.int .i64 0)
  c1 : W.cell? ⟨w.heap.size, 1, none⟩ = some (.int .i64 0)
  z : ∀ j, W.frozen? ⟨w.heap.size, j, none⟩ = false
theorem own_sliceK {w : World} {B n : Nat} {v : Value} {xs : List Value} {e : TypeId} (h : w.ownsRow B e 3 v n xs) : ∃ ao cap, v = .slice ao n cap := by
  rcases h.2 with ⟨rfl, h0⟩ | ⟨g, cap, cur, rfl, _⟩
  · exact ⟨none, 0, by rw [h0]⟩
  · exact ⟨_, _, rfl⟩
theorem TalkI.fin0 {w W : World} {ρ : Nat → Role} {pb N : Nat} {r : Pp.Told} {vw : Value} (h : TalkI w W ρ pb N r vw) : TalkP w W ρ pb N r vw := by
  obtain ⟨ρ', h1, h2, h3⟩ := h.pipes
  exact ⟨⟨ρ', h1, fun g hg => h2 g (by omega), h3⟩, own_mono h.wk (Nat.le_succ _), h.keep⟩
theorem TalkI.fin {w W : World} {ρ : Nat → Role} {pb N : Nat} {r : Pp.Told} {vw : Value} (h : TalkI w W ρ pb N r vw) (hd : ∀ b, ρ b ≠ .free → b < w.heap.size) (a b : Value) :
    TalkP w ((W.setCell ⟨w.heap.size, 0, none⟩ a).setCell ⟨w.heap.size, 1, none⟩ b) ρ pb N r vw ∧ ((W.setCell ⟨w.heap.size, 0, none⟩ a).setCell ⟨w.heap.size, 1, none⟩ b).cell? ⟨w.heap.size, 0, none⟩ = some a ∧
      ((W.setCell ⟨w.heap.size, 0, none⟩ a).setCell ⟨w.heap.size, 1, none⟩ b).cell? ⟨w.heap.size, 1, none⟩ = some b := by
  have hk : Keeps (fun g => g = w.heap.size) W ((W.setCell ⟨w.heap.size, 0, none⟩ a).setCell ⟨w.heap.size, 1, none⟩ b) := ((Keeps.refl (fun g => g = w.heap.size) W).setCell (p := ⟨w.heap.size, 0, none⟩) (Or.inl rfl) a).setCell (p := ⟨w.heap.size, 1, none⟩) (Or.inl rfl) b
  have hf : ρ w.heap.size = .free := Classical.byContradiction fun e => by
    have := hd _ e
    omega
  refine ⟨⟨?_, ?_, h.keep.trans' hk fun g hg e => by omega⟩, ?_, ?_⟩
  · obtain ⟨ρ', h1, h2, h3⟩ := h.pipes
    exact ⟨ρ', h1.keeps hk fun g _ e => by rw [e, h2 _ (Nat.lt_succ_self _)]; exact hf, fun g hg => h2 g (by omega), h3⟩
  · exact own_mono (hk.row h.wk fun g hg e => by
      have := (World.ownsRow.lt h.wk g hg).1
      omega) (Nat.le_succ _)
  · rw [cell_set_other (off_ne (by decide) _)]; exact cell_set_same h.c0
  · exact cell_set_same (u := .int .i64 0) (by rw [cell_set_other (off_ne (by decide) _)]; exact h.c1)
section
variable {w w' : World} {ρ : Nat → Role} {pb : Nat} {vch : Value} {ptr : List Nat} {mb : Option Nat} {D : DataW Value} {N M : Nat} {s : St}
/-- Whether a task waits. -/
theorem PipesAt.waits (h : PipesAt w ρ pb vch ptr mb D N M s) {t : Int} (hwf : (Lit.int .i64 t).wf = true) : ∃ u, (Instr.lookup 29 (.map mb) (.int .i64 t) true).run Tryd.prog w = .ok (.tuple #[u, .bool (s.asks t).isSome]) w := by
  have hz : (zeroValue 32).run Tryd.prog w = .ok (.slice none 0 0) w := by simp [Tryd.zeroValue32]
  cases mb with
  | none =>
    have h1 := h.has t
    rw [h.map0 rfl] at h1
    rw [← h1]
    exact ⟨_, Maps.look_nil (P := Tryd.prog) (t := 29) (w := w) true keyedP Tryd.underlying29 hz (keyOf_int_mk Tryd.underlying3 hwf)⟩
  | some b =>
    obtain ⟨v, ps, h1, h2⟩ := (h.map1 b rfl).1.look_ok keyedP Tryd.underlying29 hz (zd := .held (.slice none 0 0)) (zp := []) rfl (keyOf_int_mk Tryd.underlying3 hwf)
    rw [h.has] at h1
    exact ⟨v, h1⟩
end
theorem drew_pipes {w : World} {ρ : Nat → Role} {pb N : Nat} {s : St} (h : Pipes w ρ pb N s) : Pipes w ρ pb (N + 1) s := by
  obtain ⟨h0, vch, ptr, mb, D, h1⟩ := h
  exact ⟨h0, vch, ptr, mb, D, h1.mono (Nat.le_succ N) (by omega)⟩

set_option maxRecDepth 100000 in
set_option maxHeartbeats 6400000 in
theorem talk_any0 {w : World} {ρ : Nat → Role} {pb N : Nat} {s : St} (h : Pipes w ρ pb N s) (hN : N ≤ 100000) (task : Int) (hwf : (Lit.int .i64 task).wf = true) {v : Value} {l : List Tk} (hl : TalksAt w v l) (hvo : 0 < l.length → ∀ g, v.ownBlock = some g → ρ g = .free)
    (draw : Int) (hd : -9223372036854775808 ≤ draw ∧ draw ≤ 9223372036854775807) :
    Calls Tryd.prog 9 #[.pointer (some ⟨pb, 0, none⟩), .int .i64 task, v, .int .i64 draw] w fun e w' => ∃ vw, e = .returned (.tuple #[.agg #[.int .i64 (Pp.talk s task l draw).case, .int .i64 (Pp.talk s task l draw).n], vw, .bool (Pp.talk s task l draw).waits, errV (Pp.talk s task l draw).err]) ∧
      TalkP w w' ρ pb N (Pp.talk s task l draw) vw := by
  obtain ⟨r, hr⟩ : ∃ r, Pp.talk s task l draw = r := ⟨_, rfl⟩
  have hrok : Ok r.st := hr ▸ h.1.talk task l draw
  rw [hr]
  obtain ⟨hok, vch, ptr, mb, D, hp⟩ := h
  obtain ⟨ao, cap, rfl, hc1, hc2⟩ := hl.slice
  have hlm : l.length ≤ 9223372036854775807 := by unfold maxLen at hc2; omega
  have hka : Keeps (fun _ => False) w (w.alloc (.cells #[.int .i64 0, .int .i64 0] 44)) := (Keeps.refl _ w).alloc _
  have hp1 := hp.keeps hka fun _ _ e => e.elim
  have hl1 := hl.keeps hka fun _ _ e => e
  obtain ⟨u, hlook⟩ := hp1.waits hwf
  have p1 := hp1.c1
  have r0 : (w.alloc (.cells #[.int .i64 0, .int .i64 0] 44)).cell? ⟨w.heap.size, 0, none⟩ = some (.int .i64 0) := by rw [World.cell?_alloc_at _ _ _ _ rfl]; rfl
  have r1 : (w.alloc (.cells #[.int .i64 0, .int .i64 0] 44)).cell? ⟨w.heap.size, 1, none⟩ = some (.int .i64 0) := by rw [World.cell?_alloc_at _ _ _ _ rfl]; rfl
  have f0 : ∀ j, (w.alloc (.cells #[.int .i64 0, .int .i64 0] 44)).frozen? ⟨w.heap.size, j, none⟩ = false := fun j => by rw [World.frozen?_alloc_at _ _ _ _ rfl]
  have hsz : w.heap.size + 1 ≤ (w.alloc (.cells #[.int .i64 0, .int .i64 0] 44)).heap.size := by simp
  have HDOM := Lib.hid hp.dom
  have HP1 := Lib.hid hp1
  have HL1 := Lib.hid hl1
  have HKA := Lib.hid hka
  have HR := Lib.hid hr
  have HROK := Lib.hid hrok
  have HVO := Lib.hid hvo
  have HWF := Lib.hid hwf
  have HD := Lib.hid hd
  have HOK := Lib.hid hok
  have HF0 := Lib.hid f0
  have g0 := f0 0
  have g1 := f0 1
  -- where nothing is done
  have HN : Hid (∀ W, Keeps (fun _ => False) (w.alloc (.cells #[.int .i64 0, .int .i64 0] 44)) W → ∀ (q : Pp.Told), q.st = s → q.wakes = [] → TalkI w W ρ pb N q (.slice none 0 0)) := Lib.hid fun W hW q h1 h2 => by
    refine ⟨⟨ρ, by rw [h1]; exact drew_pipes ⟨hok, vch, ptr, mb, D, hp1.keeps hW fun _ _ e => e.elim⟩, fun _ _ => rfl, fun g hg => by cases hg⟩, by rw [h2]; exact World.ownsRow_nil _ _ _ _, (hka.trans hW).mono fun _ _ e => e.elim, hW.cell_of r0 id, hW.cell_of r1 id, fun j => by rw [hW.frozen (p := ⟨w.heap.size, j, none⟩) (by simp) id]; exact f0 j⟩
  clear hp hp1 hl1 hka hr hrok hvo hwf hd hok f0 hl
  go_enter Tryd.func9, Tryd.ntmps9
  cases hw : (s.asks task).isSome with
  | true =>
    rw [hw] at hlook
    have HRE : Hid (r = ⟨s, 0, 0, [], false, 6⟩) := Lib.hid (by rw [← HR.out]; unfold Pp.talk; rw [if_pos hw])
    clear hw
    go_wp2_with fail
    have hI := HN.out _ (Keeps.refl _ _) r (by rw [HRE.out]) (by rw [HRE.out])
    have q0 := hI.c0
    have q1 := hI.c1
    refine bodyPost_ret (v := .tuple #[.agg #[.int .i64 0, .int .i64 0], .slice none 0 0, .bool false, .iface 35 (.int .i64 6)]) (by simp [results, Tryd.results9, go_sem, q0, q1] <;> rfl) rfl ?_
    exact ⟨_, by rw [HRE.out]; first | rfl | simp only [hev], hI.fin0⟩
  | false =>
    rw [hw] at hlook
    by_cases h6 : 6 < l.length
    · have HRE : Hid (r = ⟨s, 0, 0, [], false, 4⟩) := Lib.hid (by rw [← HR.out]; unfold Pp.talk; rw [if_neg (by rw [hw]; decide), if_pos h6])
      have h6i : (6 : Int) < (l.length : Int) := by omega
      clear hw
      go_wp2_with fail
      have hI := HN.out _ (Keeps.refl _ _) r (by rw [HRE.out]) (by rw [HRE.out])
      have q0 := hI.c0
      have q1 := hI.c1
      refine bodyPost_ret (v := .tuple #[.agg #[.int .i64 0, .int .i64 0], .slice none 0 0, .bool false, .iface 35 (.int .i64 4)]) (by simp [results, Tryd.results9, go_sem, q0, q1] <;> rfl) rfl ?_
      exact ⟨_, by rw [HRE.out]; first | rfl | simp only [hev], hI.fin0⟩
    · have hrr : r = if (Pp.other s.chs.length l 0 (-1)).2 ≠ 0 then ⟨s, 0, 0, [], false, (Pp.other s.chs.length l 0 (-1)).2⟩ else (Pp.talk s task l draw) := by
        rw [HR.out]
        split
        · next h9 => rw [← HR.out]; unfold Pp.talk; rw [if_neg (by rw [hw]; decide), if_neg h6, if_pos h9]
        · rfl
      have HRR := Lib.hid hrr
      have HOT := Lib.hid (other_any HP1.out HL1.out (by omega))
      have h6i : ¬ (6 : Int) < (l.length : Int) := by omega
      have HFINE : Hid ((Pp.other s.chs.length l 0 (-1)).2 = 0 → Fine s.chs.length l) := Lib.hid other_fine
      have HGOOD : Hid ((Pp.other s.chs.length l 0 (-1)).2 = 0 → (Pp.other s.chs.length l 0 (-1)).1 < 0 → ∀ x ∈ l, x.good s.chs.length) := Lib.hid fun e1 e2 => other_good e1 e2 (by decide)
      have HTALK : Hid ((Pp.other s.chs.length l 0 (-1)).2 = 0 → r = if 0 < (frees s.chs l 0).length then
            (let k := (frees s.chs l 0).getD (drawn draw (frees s.chs l 0).length) 0
            let g := doT s (l.getD k ⟨0, 0, 0⟩)
            if g.err ≠ 0 then ⟨g.st, 0, 0, [], false, g.err⟩ else ⟨g.st, (k : Nat), g.n, g.wakes, false, 0⟩)
          else if 0 ≤ (Pp.other s.chs.length l 0 (-1)).1 then ⟨s, (Pp.other s.chs.length l 0 (-1)).1, 0, [], false, 0⟩
          else ⟨Pp.wait s task l, 0, 0, [], true, 0⟩) := Lib.hid fun e => by
        rw [← HR.out]; unfold Pp.talk; rw [if_neg (by rw [hw]; decide), if_neg h6, if_neg (by rw [e]; decide)]
      have HNONE : Hid (s.asks task = none) := Lib.hid (by cases h9 : s.asks task with
        | none => rfl
        | some m => rw [h9] at hw; cases hw)
      clear hw hrr
      generalize Pp.other s.chs.length l 0 (-1) = oe at *
      obtain ⟨o, e⟩ := oe
      simp only at HOT HRR HFINE HGOOD HTALK
      by_cases he : e = 0
      · subst he
        have HF2 := Lib.hid (HFINE.out rfl)
        have HG2 := Lib.hid (HGOOD.out rfl)
        have HT2 := Lib.hid (HTALK.out rfl)
        clear HFINE HGOOD HTALK HRR
        have heV : errV 0 = .nilIface := rfl
        rw [heV] at HOT
        clear heV
        go_wp2_with fail
        refine HOT.out.mono ?_
        rintro e w2 ⟨rfl, hk2⟩
        have HP2 := Lib.hid (HP1.out.keeps hk2 fun _ _ e => e.elim)
        have HL2 := Lib.hid (HL1.out.keeps hk2 fun _ _ e => e)
        have HK2 := Lib.hid hk2
        have HFR := Lib.hid (free_any HP2.out HL2.out (by omega) HF2.out)
        clear hk2
        go_wp2_with fail
        refine HFR.out.mono ?_
        rintro e w3 ⟨fv, rfl, hof, hk3⟩
        have HOF := Lib.hid hof
        have HP3 := Lib.hid (HP2.out.keeps hk3 fun _ _ e => e.elim)
        have HL3 := Lib.hid (HL2.out.keeps hk3 fun _ _ e => e)
        have HK3 := Lib.hid (HK2.out.trans hk3)
        obtain ⟨af, cf, hfv⟩ := hof.slice
        rw [List.length_map] at hfv
        subst hfv
        clear hof hk3
        by_cases hfr : 0 < (frees s.chs l 0).length
        · have hT2 := HT2.out
          rw [if_pos hfr] at hT2
          have hdl : drawn draw (frees s.chs l 0).length < (frees s.chs l 0).length := by
            unfold drawn
            have h8 : draw % ((frees s.chs l 0).length : Int) < ((frees s.chs l 0).length : Int) := Int.emod_lt_of_pos _ (by omega)
            have h9 : 0 ≤ draw % ((frees s.chs l 0).length : Int) := Int.emod_nonneg _ (by omega)
            omega
          have hlen6 : (frees s.chs l 0).length ≤ 6 := Nat.le_trans (frees_le s.chs l 0) (by omega)
          have HDR := Lib.hid (drawn_any w3 draw (frees s.chs l 0).length hfr HD.out (by omega))
          have hfrI : (0 : Int) < ((frees s.chs l 0).length : Int) := by omega
          generalize hkd : drawn draw (frees s.chs l 0).length = kd at *
          obtain ⟨kk, hkk⟩ : ∃ kk, (frees s.chs l 0)[kd]? = some kk := ⟨_, List.getElem?_eq_getElem hdl⟩
          have hgd : (frees s.chs l 0).getD kd 0 = kk := by rw [List.getD_eq_getElem?_getD, hkk]; rfl
          rw [hgd] at hT2
          obtain ⟨_, x, hx, hxf⟩ := mem_frees (List.mem_of_getElem? hkk)
          rw [Nat.sub_zero] at hx
          have hld : l.getD kk ⟨0, 0, 0⟩ = x := by rw [List.getD_eq_getElem?_getD, hx]; rfl
          rw [hld] at hT2
          have hx0 : 0 ≤ x.chan := by
            rcases HF2.out x (List.mem_of_getElem? hx) with h9 | h9
            · unfold isFree at hxf; simp [h9] at hxf
            · exact h9.1.1
          obtain ⟨kc, c, hxc, hcg, _, _⟩ := isFree_chan hxf hx0
          obtain ⟨xw, xcc, xn⟩ := x
          simp only at hxc
          subst hxc
          -- the place's number, and the talk
          obtain ⟨a0, n0, c0, hv0, hn0, hnc0, hcc0, hxx⟩ := HOF.out.ints
          rw [Value.slice.injEq] at hv0
          obtain ⟨rfl, rfl, rfl⟩ := hv0
          obtain ⟨vb, vo, rfl, hvb, hcell⟩ := hxx hfr
          have hck := hcell kd hdl
          have hgm : ((frees s.chs l 0).map fun (j : Nat) => (j : Int)).getD kd 0 = (kk : Int) := by rw [List.getD_eq_getElem?_getD, List.getElem?_map, hkk]; rfl
          rw [hgm] at hck
          obtain ⟨tb, tof, rfl, htb, t1, t2, t3⟩ := HL3.out.at hx
          simp only at t1 t2 t3
          have hkl := (List.getElem?_eq_some_iff.1 hx).1
          have hkdi : (0 : Int) ≤ (kd : Int) ∧ (kd : Int) < ((frees s.chs l 0).length : Int) := by omega
          have hkki : (0 : Int) ≤ (kk : Int) ∧ (kk : Int) < (l.length : Int) := by omega
          have HDO := Lib.hid (do_any HP3.out HOK.out (by omega) xw xn hcg)
          have HT3 := Lib.hid hT2
          clear hT2 hcell hxx hnc0 hcc0 hn0 hgm hx0 hxf hld hx hgd hkk hkd hcg htb hvb HOF HFR
          generalize (frees s.chs l 0).length = nf at *
          generalize doT s ⟨xw, (kc : Int) + 1, xn⟩ = G at *
          go_wp2_with fail
          refine HDR.out.mono ?_
          rintro e w4 ⟨rfl, rfl⟩
          go_wp2_with fail
          refine HDO.out.mono ?_
          rintro e w5 ⟨vw, rfl, hg⟩
          have HGT := Lib.hid hg
          have hfree : ρ w.heap.size = .free := Classical.byContradiction fun e => by
            have := HDOM.out _ e
            omega
          have hb0 : w.heap.size < w3.heap.size := Nat.lt_of_lt_of_le (by simp) HK3.out.size
          have z0 := hg.keep.cell_of (HK3.out.cell_of r0 id) (fun e => e hfree)
          have z1 := hg.keep.cell_of (HK3.out.cell_of r1 id) (fun e => e hfree)
          have hz : ∀ j, w5.frozen? ⟨w.heap.size, j, none⟩ = false := fun j => by
            rw [hg.keep.frozen (p := ⟨w.heap.size, j, none⟩) hb0 (fun e => e hfree), HK3.out.frozen (p := ⟨w.heap.size, j, none⟩) (by simp) id]; exact HF0.out j
          have y0 := hz 0
          have y1 := hz 1
          have HI : Hid (∀ (q : Pp.Told) (u : Value), r = q → q.st = G.st → (u = vw ∧ q.wakes = G.wakes) ∨ (u = .slice none 0 0 ∧ q.wakes = []) → TalkI w w5 ρ pb N r u) := Lib.hid fun q u e1 e2 e3 => by
            obtain ⟨D5, h5⟩ := HGT.out.at_
            have hok5 := HROK.out
            rw [e1, e2] at hok5
            have hbase : w.heap.size + 1 ≤ w3.heap.size := hb0
            refine ⟨⟨ρ, ?_, fun _ _ => rfl, fun g hg2 => ?_⟩, ?_, ?_, z0, z1, hz⟩
            · rw [e1, e2]; exact ⟨hok5, vch, ptr, mb, D5, h5.mono (Nat.le_succ N) (by omega)⟩
            · rcases e3 with ⟨rfl, _⟩ | ⟨rfl, _⟩
              · have h7 := (World.ownsRow.lt HGT.out.wk g hg2).1
                exact Classical.byContradiction fun e => by
                  have := HDOM.out g e
                  omega
              · cases hg2
            · rw [e1]
              rcases e3 with ⟨rfl, e4⟩ | ⟨rfl, e4⟩
              · rw [e4]; exact own_mono HGT.out.wk hbase
              · rw [e4]; exact World.ownsRow_nil _ _ _ _
            · exact ((HKA.out.trans HK3.out).mono fun _ _ e => e.elim).trans HGT.out.keep
          clear hg hz hfree hb0
          by_cases hge : G.err = 0
          · have HRE : Hid (r = ⟨G.st, (kk : Nat), G.n, G.wakes, false, 0⟩) := Lib.hid (by have := HT3.out; rwa [if_neg (by rw [hge]; decide)] at this)
            have hev : errV G.err = .nilIface := by rw [hge]; rfl
            rw [hev]
            clear hge
            obtain ⟨av, cv, hvw⟩ := own_sliceK HGT.out.wk
            subst hvw
            go_wp2_with fail
            obtain ⟨hT, q0, q1⟩ := (HI.out _ _ HRE.out rfl (Or.inl ⟨rfl, rfl⟩)).fin HDOM.out (.int .i64 (kk : Nat)) (.int .i64 G.n)
            refine bodyPost_ret (v := .tuple #[.agg #[.int .i64 (kk : Nat), .int .i64 G.n], .slice av G.wakes.length cv, .bool false, .nilIface]) (by simp [results, Tryd.results9, go_sem, q0, q1] <;> rfl) rfl ?_
            exact ⟨_, by rw [HRE.out]; first | rfl | simp only [hev], hT⟩
          · have HRE : Hid (r = ⟨G.st, 0, 0, [], false, G.err⟩) := Lib.hid (by have := HT3.out; rwa [if_pos hge] at this)
            have hev : errV G.err = .iface 35 (.int .i64 G.err) := by unfold errV; rw [if_neg hge]
            rw [hev]
            go_wp2_with fail
            obtain ⟨hT, q0, q1⟩ := (HI.out _ _ HRE.out rfl (Or.inr ⟨rfl, rfl⟩)).fin HDOM.out (.int .i64 0) (.int .i64 0)
            refine bodyPost_ret (v := .tuple #[.agg #[.int .i64 0, .int .i64 0], .slice none 0 0, .bool false, .iface 35 (.int .i64 G.err)]) (by simp [results, Tryd.results9, go_sem, q0, q1] <;> rfl) rfl ?_
            exact ⟨_, by rw [HRE.out]; first | rfl | simp only [hev], hT⟩
        · have hf0 : ¬ (0 : Int) < ((frees s.chs l 0).length : Int) := by omega
          have hT2 := HT2.out
          rw [if_neg hfr] at hT2
          have z0 := HK3.out.cell_of r0 id
          have z1 := HK3.out.cell_of r1 id
          have y0 : w3.frozen? ⟨w.heap.size, 0, none⟩ = false := by rw [HK3.out.frozen (p := ⟨w.heap.size, 0, none⟩) (by simp) id]; exact g0
          have y1 : w3.frozen? ⟨w.heap.size, 1, none⟩ = false := by rw [HK3.out.frozen (p := ⟨w.heap.size, 1, none⟩) (by simp) id]; exact g1
          clear hfr
          generalize (frees s.chs l 0).length = nf at *
          by_cases ho : 0 ≤ o
          · rw [if_pos ho] at hT2
            have HRE := Lib.hid hT2
            clear hT2
            go_wp2_with fail
            obtain ⟨hT, q0, q1⟩ := (HN.out _ HK3.out r (by rw [HRE.out]) (by rw [HRE.out])).fin HDOM.out (.int .i64 o) (.int .i64 0)
            refine bodyPost_ret (v := .tuple #[.agg #[.int .i64 o, .int .i64 0], .slice none 0 0, .bool false, .nilIface]) (by simp [results, Tryd.results9, go_sem, q0, q1] <;> rfl) rfl ?_
            exact ⟨_, by rw [HRE.out]; first | rfl | simp only [hev], hT⟩
          · rw [if_neg ho] at hT2
            have HRE := Lib.hid hT2
            have HWT := Lib.hid (wait_any0 HP3.out (by omega) (by omega) task HWF.out HL3.out HVO.out (HG2.out (by omega)) (by omega))
            have hfree : ρ w.heap.size = .free := Classical.byContradiction fun e => by
              have := HDOM.out _ e
              omega
            have hb0 : w.heap.size < w3.heap.size := Nat.lt_of_lt_of_le (by simp) HK3.out.size
            have HFREE := Lib.hid hfree
            have HBB := Lib.hid hb0
            clear hT2 z0 z1 y0 y1 hfree hb0
            go_wp2_with fail
            refine HWT.out.mono ?_
            rintro e w5 ⟨rfl, ⟨ρ', mb', D', h5, hx5⟩, hk5⟩
            have z0 := hk5.cell_of (HK3.out.cell_of r0 id) (fun e => e HFREE.out)
            have z1 := hk5.cell_of (HK3.out.cell_of r1 id) (fun e => e HFREE.out)
            have hz : ∀ j, w5.frozen? ⟨w.heap.size, j, none⟩ = false := fun j => by
              rw [hk5.frozen (p := ⟨w.heap.size, j, none⟩) HBB.out (fun e => e HFREE.out), HK3.out.frozen (p := ⟨w.heap.size, j, none⟩) (by simp) id]; exact HF0.out j
            have y0 := hz 0
            have y1 := hz 1
            have HI : Hid (TalkI w w5 ρ pb N r (.slice none 0 0)) := Lib.hid (by
              have hok5 := HROK.out
              rw [HRE.out] at hok5 ⊢
              exact ⟨⟨ρ', ⟨hok5, vch, ptr, mb', D', h5.mono (Nat.le_refl _) (by omega)⟩, fun g hg => hx5 g (Nat.lt_of_lt_of_le hg HBB.out), fun g hg => by cases hg⟩, World.ownsRow_nil _ _ _ _, ((HKA.out.trans HK3.out).mono fun _ _ e => e.elim).trans hk5, z0, z1, hz⟩)
            clear h5 hx5 hk5 hz
            go_wp2_with fail
            obtain ⟨hT, q0, q1⟩ := (HI.out).fin HDOM.out (.int .i64 0) (.int .i64 0)
            refine bodyPost_ret (v := .tuple #[.agg #[.int .i64 0, .int .i64 0], .slice none 0 0, .bool true, .nilIface]) (by simp [results, Tryd.results9, go_sem, q0, q1] <;> rfl) rfl ?_
            exact ⟨_, by rw [HRE.out]; first | rfl | simp only [hev], hT⟩
      · have HRE : Hid (r = ⟨s, 0, 0, [], false, e⟩) := Lib.hid (by have := HRR.out; rwa [if_pos he] at this)
        have heV : errV e = .iface 35 (.int .i64 e) := by unfold errV; rw [if_neg he]
        rw [heV] at HOT
        clear heV
        go_wp2_with fail
        refine HOT.out.mono ?_
        rintro e' w2 ⟨rfl, hk2⟩
        have HK2 := Lib.hid hk2
        have z0 := hk2.cell_of r0 id
        have z1 := hk2.cell_of r1 id
        have y0 : w2.frozen? ⟨w.heap.size, 0, none⟩ = false := by rw [hk2.frozen (p := ⟨w.heap.size, 0, none⟩) (by simp) id]; exact g0
        have y1 : w2.frozen? ⟨w.heap.size, 1, none⟩ = false := by rw [hk2.frozen (p := ⟨w.heap.size, 1, none⟩) (by simp) id]; exact g1
        clear hk2
        go_wp2_with fail
        have hev : errV e = .iface 35 (.int .i64 e) := by unfold errV; rw [if_neg he]
        obtain ⟨hT, q0, q1⟩ := (HN.out _ HK2.out r (by rw [HRE.out]) (by rw [HRE.out])).fin HDOM.out (.int .i64 0) (.int .i64 0)
        refine bodyPost_ret (v := .tuple #[.agg #[.int .i64 0, .int .i64 0], .slice none 0 0, .bool false, .iface 35 (.int .i64 e)]) (by simp [results, Tryd.results9, go_sem, q0, q1] <;> rfl) rfl ?_
        exact ⟨_, by rw [HRE.out]; first | rfl | simp only [hev], hT⟩
theorem talk_any {w : World} {ρ : Nat → Role} {pb N : Nat} {s : St} (h : Pipes w ρ pb N s) (hN : N ≤ 100000) (task : Int) (hwf : (Lit.int .i64 task).wf = true) {v : Value} {l : List Tk} (hl : TalksAt w v l) (hvo : ∀ g, v.ownBlock = some g → ρ g = .free)
    (draw : Int) (hd : -9223372036854775808 ≤ draw ∧ draw ≤ 9223372036854775807) :
    Calls Tryd.prog 9 #[.pointer (some ⟨pb, 0, none⟩), .int .i64 task, v, .int .i64 draw] w fun e w' => ∃ vw, e = .returned (.tuple #[.agg #[.int .i64 (Pp.talk s task l draw).case, .int .i64 (Pp.talk s task l draw).n], vw, .bool (Pp.talk s task l draw).waits, errV (Pp.talk s task l draw).err]) ∧
      TalkP w w' ρ pb N (Pp.talk s task l draw) vw :=
  talk_any0 h hN task hwf hl (fun _ => hvo) draw hd
end Go.Proofs.YtppbmhpbbiigaaaDoor

namespace Go.Proofs.YtppbmhpbbiigaaaDoor
open Go.RowKit Go.Maps Pp

/-- What comes of making a channel: its number, what is wrong, and the channels. -/
structure Made where
  n : Int
  err : Int
  st : Pp.St
def makeV (s : Pp.St) (size : Int) : Made :=
  if size < 0 ∨ 8 < size then ⟨0, 2, s⟩ else if 32 ≤ s.chs.length then ⟨0, 12, s⟩ else ⟨(s.chs.length : Int) + 1, 0, ⟨s.chs ++ [newCh size.toNat], s.asks⟩⟩
theorem info_pch : (Tryd.prog.info? 76).map (fun i => (i.zero, i.size, i.bytes)) = some (some (.pointer none), 1, 8) := by kernel_rfl
/-- The roles of a new channel's blocks. -/
def roleNew (ρ : Nat → Role) (s0 k hi : Nat) (b : Nat) : Role := if b < s0 then ρ b else if b = s0 then .slots k else if b = s0 + 1 then .ring k else if b = s0 + 2 then .chan k else if b < hi then .chans else ρ b
/-- One more channel in memory. -/
theorem PipesAt.grow {w w1 w4 : World} {ρ : Nat → Role} {pb : Nat} {vch v' : Value} {ptr : List Nat} {mb : Option Nat} {D : DataW Value} {N M : Nat} {s : St} (h : PipesAt w ρ pb vch ptr mb D N M s) {n : Nat} (hm : s.chs.length < 32)
    (hb1 : Below w.heap.size w w1) (hs1 : w1.heap.size = w.heap.size + 2) (hr : RingL eI w1 (w.heap.size + 1) w.heap.size n []) {tc te : TypeId}
    (hg : ((w1.alloc (.cells #[.pointer (some ⟨w.heap.size + 1, 0, none⟩), .bool false, .slice none 0 0, .slice none 0 0] tc)).alloc (.cells #[.pointer (some ⟨w.heap.size + 2, 0, none⟩)] te)).grownBy w4 vch.ownBlock)
    (ho : w4.ownsRow 0 76 1 v' (ptr.length + 1) ((ptr.map fun b => .pointer (some ⟨b, 0, none⟩)) ++ [.pointer (some ⟨w.heap.size + 2, 0, none⟩)])) (hv : ∀ g, v'.ownBlock = some g → vch.ownBlock = some g ∨ w.heap.size + 3 ≤ g) :
    PipesAt (w4.setCell ⟨pb, 0, none⟩ v') (roleNew ρ w.heap.size s.chs.length w4.heap.size) pb v' (ptr ++ [w.heap.size + 2]) mb D N M ⟨s.chs ++ [newCh n], s.asks⟩ ∧
      Keeps (fun b => ρ b ≠ .free) w (w4.setCell ⟨pb, 0, none⟩ v') := by
  obtain ⟨w2, hw2⟩ : ∃ w2, w2 = w1.alloc (.cells #[.pointer (some ⟨w.heap.size + 1, 0, none⟩), .bool false, .slice none 0 0, .slice none 0 0] tc) := ⟨_, rfl⟩
  rw [← hw2] at hg
  have hs2 : w2.heap.size = w.heap.size + 3 := by rw [hw2]; simp; omega
  have hkb : Keeps (fun b => vch.ownBlock = some b ∨ b = pb) w2 (w4.setCell ⟨pb, 0, none⟩ v') :=
    (((Keeps.refl (fun b => vch.ownBlock = some b ∨ b = pb) w2).alloc _).trans (Keeps.of_grownBy hg fun k _ e => Or.inl e)).setCell (p := ⟨pb, 0, none⟩) (Or.inl (Or.inr rfl)) v'
  have hka : Keeps (fun _ => False) w w2 := by rw [hw2]; exact (Keeps.of_new hb1).alloc _
  have hk : Keeps (fun b => vch.ownBlock = some b ∨ b = pb) w (w4.setCell ⟨pb, 0, none⟩ v') := (hka.mono fun _ _ e => e.elim).trans hkb
  have hs4 : w.heap.size + 4 ≤ w4.heap.size := by have := hg.size; simp at this; omega
  have hold : ∀ g, g < w.heap.size → roleNew ρ w.heap.size s.chs.length w4.heap.size g = ρ g := fun g hg => by unfold roleNew; rw [if_pos hg]
  have hvlt : ∀ g, vch.ownBlock = some g → g < w.heap.size := fun g hg => (World.ownsRow.lt h.row g hg).2
  have hnS : ∀ g q, ρ g = q → q ≠ .pipes → q ≠ .chans → ¬ (vch.ownBlock = some g ∨ g = pb) := fun g q hq h1 h2 e => by
    rcases e with e | e
    · exact h2 (by rw [← hq]; exact h.p1 g e)
    · exact h1 (by rw [← hq, e]; exact h.p0)
  have hpb4 : ∀ j, w4.frozen? ⟨pb, j, none⟩ = false := fun j => by
    have hk4 : Keeps (fun b => vch.ownBlock = some b) w w4 := (hka.mono fun _ _ e => e.elim).trans (((Keeps.refl (fun b => vch.ownBlock = some b) w2).alloc _).trans (Keeps.of_grownBy hg fun k _ e => e))
    rw [hk4.frozen (p := ⟨pb, j, none⟩) h.lt (fun e => by have h5 := h.p1 pb e; rw [h.p0] at h5; cases h5)]; exact h.z j
  have hpbc : w4.cell? ⟨pb, 0, none⟩ = some vch := by
    have hk4 : Keeps (fun b => vch.ownBlock = some b) w w4 := (hka.mono fun _ _ e => e.elim).trans (((Keeps.refl (fun b => vch.ownBlock = some b) w2).alloc _).trans (Keeps.of_grownBy hg fun k _ e => e))
    exact hk4.cell_of h.c0 (fun e => by have h5 := h.p1 pb e; rw [h.p0] at h5; cases h5)
  have hnv' : ∀ g, v'.ownBlock = some g → roleNew ρ w.heap.size s.chs.length w4.heap.size g = .chans := fun g hg2 => by
    have hgl := (World.ownsRow.lt ho g hg2).2
    rcases hv g hg2 with h1 | h1
    · rw [hold g (hvlt g h1)]; exact h.p1 g h1
    · unfold roleNew; rw [if_neg (by omega), if_neg (by omega), if_neg (by omega), if_neg (by omega), if_pos hgl]
  refine ⟨⟨World.cell?_setCell_same _ _ _ hpbc, ?_, fun j => by rw [World.frozen?_setCell]; exact hpb4 j, ?_, by simp [h.len], by simp; omega, fun k cb c hcb hc => ?_, fun k c hc => ?_, h.map0, fun b hb => ?_, h.has, fun t l hl => ?_, by rw [hold pb h.lt]; exact h.p0, hnv', fun g hg2 => ?_⟩, hk.mono fun g _ e => ?_⟩
  · rw [cell_set_other (off_ne (by decide) pb)]
    have hk4 : Keeps (fun b => vch.ownBlock = some b) w w4 := (hka.mono fun _ _ e => e.elim).trans (((Keeps.refl (fun b => vch.ownBlock = some b) w2).alloc _).trans (Keeps.of_grownBy hg fun k _ e => e))
    exact hk4.cell_of h.c1 (fun e => by have h5 := h.p1 pb e; rw [h.p0] at h5; cases h5)
  · have h2 := (keeps_set1 w4 ⟨pb, 0, none⟩ v').row ho fun g hg2 e => by
      have h3 := hnv' g hg2
      rw [show g = pb from e, hold pb h.lt, h.p0] at h3; cases h3
    simpa using h2
  · rw [List.getElem?_append] at hcb hc
    rw [h.len] at hcb
    split at hcb
    · next hlt =>
      rw [if_pos hlt] at hc
      obtain ⟨rb, sb, v1, v2, h1⟩ := h.chs k cb c hcb hc
      refine ⟨rb, sb, v1, v2, (h1.role hold).keeps hk fun g hgl hgr => ?_⟩
      rw [hold g hgl] at hgr
      exact hnS g _ rfl (fun e => by rw [e] at hgr; exact hgr) (fun e => by rw [e] at hgr; exact hgr)
    · next hlt =>
      rw [if_neg hlt] at hc
      have hk0 : k = s.chs.length := by
        have := (List.getElem?_eq_some_iff.1 hc).1
        simp at this; omega
      subst hk0
      simp at hcb hc
      subst hcb
      subst hc
      have hcell : ∀ (j : Nat) (u : Value), (#[Value.pointer (some ⟨w.heap.size + 1, 0, none⟩), .bool false, .slice none 0 0, .slice none 0 0] : Array Value)[j]? = some u → (w4.setCell ⟨pb, 0, none⟩ v').cell? ⟨w.heap.size + 2, j, none⟩ = some u := fun j u hu => by
        refine hkb.cell_of (w := w2) ?_ fun e => ?_
        · rw [hw2, World.cell?_alloc_at _ _ _ _ (show w.heap.size + 2 = w1.heap.size by omega)]; exact hu
        · rcases e with e | e
          · have := hvlt _ e; simp at this; omega
          · have := h.lt; simp at e; omega
      have hnew : ∀ g, w.heap.size ≤ g → ¬ (vch.ownBlock = some g ∨ g = pb) := fun g hge e => by
        rcases e with e | e
        · have := hvlt _ e; omega
        · have := h.lt; omega
      refine ⟨w.heap.size + 1, w.heap.size, .slice none 0 0, .slice none 0 0, hcell 0 _ rfl, hcell 1 _ rfl, hcell 2 _ rfl, hcell 3 _ rfl, fun j => ?_, ?_, ?_, rowW_nil _, rowW_nil _, ?_, ?_, ?_, fun b hb => (by cases hb), fun b hb => (by cases hb)⟩
      · rw [hkb.frozen (p := ⟨w.heap.size + 2, j, none⟩) (by simp [hs2]) (hnew _ (by simp)), hw2, World.frozen?_alloc_at _ _ _ _ (show w.heap.size + 2 = w1.heap.size by omega)]
      · have h1 : RingL eI w2 (w.heap.size + 1) w.heap.size n [] := by rw [hw2]; exact hr.keeps ((Keeps.refl (fun _ => False) w1).alloc _) id id
        exact h1.keeps hkb (hnew _ (by omega)) (hnew _ (by omega))
      · have := hk.size; have := hs4; simp; omega
      · unfold roleNew; rw [if_neg (by omega), if_neg (by omega), if_neg (by omega), if_pos rfl]
      · unfold roleNew; rw [if_neg (by omega), if_neg (by omega), if_pos rfl]
      · unfold roleNew; rw [if_neg (by omega), if_pos rfl]
  · rw [List.getElem?_append] at hc
    split at hc
    · exact h.rows k c hc
    · rcases hj : k - s.chs.length with _ | j
      · rw [hj] at hc; cases hc; exact ⟨Nat.zero_le _, Nat.zero_le _⟩
      · rw [hj] at hc; simp at hc
  · obtain ⟨h1, h2⟩ := h.map1 b hb
    exact ⟨hk.map h1 (hnS _ _ h2 (by simp) (by simp)), by rw [hold b h1.lt]; exact h2⟩
  · obtain ⟨h1, v, h2, h3, h4⟩ := h.talk t l hl
    exact ⟨h1, v, h2, h3.keeps hk fun b hb => hnS b _ (h4 b hb) (by simp) (by simp), fun b hb => by rw [hold b (h.dom b (by rw [h4 b hb]; simp))]; exact h4 b hb⟩
  · have hs5 : (w4.setCell ⟨pb, 0, none⟩ v').heap.size = w4.heap.size := by simp
    rw [hs5]
    unfold roleNew at hg2
    split at hg2
    · omega
    · split at hg2
      · omega
      · split at hg2
        · omega
        · split at hg2
          · omega
          · split at hg2
            · assumption
            · have := h.dom g hg2; omega
  · rcases e with e | e
    · rw [h.p1 g e]; simp
    · rw [e, h.p0]; simp
end Go.Proofs.YtppbmhpbbiigaaaDoor

namespace Go.Proofs.YtppbmhpbbiigaaaDoor
open Go.RowKit Go.Maps Pp

theorem wpList_appendP {ops : Array Oper} {rest : List Oper} {o : Oper} {a : Act} {Q : Exit → Act → World → Prop} (hgd : o.guard = none) (s x : Operand)
    (ho : o.op = .call { callee := .builtin .append, args := #[s, x], argTypes := #[28, 28] }) (w : World) (v : Value) (ptr : List Nat) (y : Nat) (hown : w.ownsRow 0 76 1 v ptr.length (ptr.map fun b => .pointer (some ⟨b, 0, none⟩))) (hs : a.eval s = v)
    (hx : a.eval x = .slice (some ⟨w.heap.size, 0, none⟩) 1 1) (hl : ptr.length ≤ 1000000)
    (h : ∀ ao' cap' w', w'.ownsRow 0 76 1 (.slice ao' (ptr.length + 1) cap') (ptr.length + 1) ((ptr.map fun b => .pointer (some ⟨b, 0, none⟩)) ++ [.pointer (some ⟨y, 0, none⟩)]) → (w.alloc (.cells #[.pointer (some ⟨y, 0, none⟩)] 76)).grownBy w' v.ownBlock →
      (∀ k, (Value.slice ao' (ptr.length + 1) cap').ownBlock = some k → v.ownBlock = some k ∨ w.heap.size ≤ k) →
      wpList Tryd.prog ops Q rest (a.put o.dst (.slice ao' (ptr.length + 1) cap')) w') : wpList Tryd.prog ops Q (o :: rest) a (w.alloc (.cells #[.pointer (some ⟨y, 0, none⟩)] 76)) := by
  obtain ⟨i0, hi, hz0, hz1, hz2⟩ := tinfoP info_pch
  refine wpList_append_own_at _ hgd s x 28 ho 0 76 i0 (.pointer none) 1 8 Tryd.underlying28 hi hz0 hz1 hz2 rfl (by decide) v ptr.length _ hs (World.ownsRow.alloc hown _) ⟨w.heap.size, 0, none⟩ 1 1 [.pointer (some ⟨y, 0, none⟩)] hx rfl
    (cell_one_new _ _ _) (fun u hu => by simp at hu; subst hu; rfl) (by unfold maxLen; omega) (by omega) (Nat.zero_le _) ?_
  intro v' w' h1 h2 _ h4
  have hform : ∃ ao cap, v' = .slice ao (ptr.length + 1) cap := by
    rcases h1.2 with ⟨rfl, h0⟩ | ⟨g, cap, cur, rfl, _⟩
    · omega
    · exact ⟨_, _, rfl⟩
  obtain ⟨ao', cap', rfl⟩ := hform
  refine h _ _ _ h1 h2 fun k hk => ?_
  rcases h4 with h4 | h4
  · exact Or.inl (h4 ▸ hk)
  · rw [h4] at hk
    cases hk
    exact Or.inr (by simp)

theorem grow_keeps {w w1 w4 : World} {ρ : Nat → Role} {pb : Nat} {vch : Value} {ptr : List Nat} {mb : Option Nat} {D : DataW Value} {N M : Nat} {s : St} (h : PipesAt w ρ pb vch ptr mb D N M s) (hb : Below w.heap.size w w1) {o1 o2 : Obj} (hg : ((w1.alloc o1).alloc o2).grownBy w4 vch.ownBlock) :
    w4.cell? ⟨pb, 0, none⟩ = some vch ∧ w4.frozen? ⟨pb, 0, none⟩ = false := by
  have hk : Keeps (fun b => vch.ownBlock = some b) w w4 := (((Keeps.of_new (S := fun b => vch.ownBlock = some b) hb).alloc _).alloc _).trans (Keeps.of_grownBy hg fun k _ e => e)
  have hn : ¬ vch.ownBlock = some pb := fun e => by
    have h5 := h.p1 pb e
    rw [h.p0] at h5; cases h5
  exact ⟨hk.cell_of h.c0 hn, by rw [hk.frozen (p := ⟨pb, 0, none⟩) h.lt hn]; exact h.z 0⟩

set_option maxRecDepth 100000 in
set_option maxHeartbeats 6400000 in
theorem make_any {w : World} {ρ : Nat → Role} {pb N : Nat} {s : St} (h : Pipes w ρ pb N s) (size : Int) :
    Calls Tryd.prog 6 #[.pointer (some ⟨pb, 0, none⟩), .int .i64 size] w fun e w' => e = .returned (.tuple #[.int .i64 (makeV s size).n, errV (makeV s size).err]) ∧
      (∃ ρ', Pipes w' ρ' pb N (makeV s size).st ∧ ∀ g, g < w.heap.size → ρ' g = ρ g) ∧ Keeps (fun b => ρ b ≠ .free) w w' := by
  have hsame : (∃ ρ', Pipes w ρ' pb N s ∧ ∀ g, g < w.heap.size → ρ' g = ρ g) ∧ Keeps (fun b => ρ b ≠ .free) w w := ⟨⟨ρ, h, fun _ _ => rfl⟩, Keeps.refl _ _⟩
  have HS := Lib.hid hsame
  obtain ⟨hok, vch, ptr, mb, D, hp⟩ := h
  have HP := Lib.hid hp
  have HOK := Lib.hid hok
  obtain ⟨ao, cap, rfl, hc1, hc2, _⟩ := ptr_row hp.row
  have c0 := hp.c0
  have z0 := hp.z 0
  have hlen := hp.len
  have HPB := Lib.hid hp.lt
  clear hp hok hsame
  by_cases h0 : size < 0
  · have hv : makeV s size = ⟨0, 2, s⟩ := by unfold makeV; rw [if_pos (Or.inl h0)]
    rw [hv]
    clear hv hlen
    go_enter Tryd.func6, Tryd.ntmps6
    go_wp2_with fail
    go_ret2
    exact ⟨rfl, HS.out⟩
  · by_cases h8 : 8 < size
    · have hv : makeV s size = ⟨0, 2, s⟩ := by unfold makeV; rw [if_pos (Or.inr h8)]
      rw [hv]
      have d8 : decide (8 < size) = true := by rw [decide_eq_true_eq]; exact h8
      clear hv hlen
      go_enter Tryd.func6, Tryd.ntmps6
      go_wp2_with fail
      go_ret2
      exact ⟨rfl, HS.out⟩
    · obtain ⟨n, rfl⟩ : ∃ n : Nat, size = n := ⟨size.toNat, by omega⟩
      have hn8 : n ≤ 8 := by omega
      have d8 : decide (8 < (n : Int)) = false := by rw [decide_eq_false_iff_not]; exact h8
      by_cases h32 : 32 ≤ s.chs.length
      · have hv : makeV s (n : Int) = ⟨0, 12, s⟩ := by unfold makeV; rw [if_neg (by omega), if_pos h32]
        rw [hv]
        have d32 : (32 : Int) ≤ (ptr.length : Int) := by omega
        clear hv hlen h32
        generalize ptr.length = m at *
        go_enter Tryd.func6, Tryd.ntmps6
        go_wp2_with fail
        go_ret2
        exact ⟨rfl, HS.out⟩
      · have hv : makeV s (n : Int) = ⟨(s.chs.length : Int) + 1, 0, ⟨s.chs ++ [newCh n], s.asks⟩⟩ := by unfold makeV; rw [if_neg (by omega), if_neg h32, Int.toNat_natCast]
        rw [hv]
        have HNEW := Lib.hid (newI_ok w n (by omega))
        have d32 : ¬ (32 : Int) ≤ (ptr.length : Int) := by omega
        have HLEN := Lib.hid hlen
        have H32 := Lib.hid h32
        have hml : ptr.length ≤ 1000000 := by omega
        have hrl : (s.chs.length : Int) + 1 = ((ptr.length + 1 : Nat) : Int) := by omega
        have HRL := Lib.hid hrl
        clear hv h32 hlen hrl
        go_enter Tryd.func6, Tryd.ntmps6
        go_wp2_with fail
        refine HNEW.out.mono ?_
        rintro e w1 ⟨rfl, hr1, hb1, hs1⟩
        have HR1 := Lib.hid hr1
        have HB1 := Lib.hid hb1
        have HS1 := Lib.hid hs1
        have c1 : w1.cell? ⟨pb, 0, none⟩ = some (.slice ao ptr.length cap) := (hb1.cell (p := ⟨pb, 0, none⟩) HPB.out).trans c0
        have HRW : Hid (w1.ownsRow 0 76 1 (.slice ao ptr.length cap) ptr.length (ptr.map fun b => .pointer (some ⟨b, 0, none⟩))) := Lib.hid ((Keeps.of_new hb1).row (S := fun _ => False) HP.out.row fun _ _ e => e)
        have HRW2 : Hid ((w1.alloc (.cells #[.pointer (some ⟨w.heap.size + 1, 0, none⟩), .bool false, .slice none 0 0, .slice none 0 0] 79)).ownsRow 0 76 1 (.slice ao ptr.length cap) ptr.length (ptr.map fun b => .pointer (some ⟨b, 0, none⟩))) := Lib.hid (World.ownsRow.alloc HRW.out _)
        have hal : (w1.alloc (.cells #[.pointer (some ⟨w.heap.size + 1, 0, none⟩), .bool false, .slice none 0 0, .slice none 0 0] 79)).heap.size = w1.heap.size + 1 := by simp
        have HAL := Lib.hid hal
        clear hr1 hb1 hs1 hal
        go_wp2_with (at_builtin; go_loud (refine wpList_appendP rfl _ _ rfl (w1.alloc (.cells #[.pointer (some ⟨w.heap.size + 1, 0, none⟩), .bool false, .slice none 0 0, .slice none 0 0] 79)) _ ptr w1.heap.size HRW2.out rfl (by rw [HAL.out]; rfl) (by omega) ?_; intro a6 c6 w4 ho4 hg4 hn4; have HO4 := Lib.hid ho4; have HG4 := Lib.hid hg4; have HN4 := Lib.hid hn4; have y0 : w4.cell? ⟨pb, 0, none⟩ = some (.slice ao ptr.length cap) := (grow_keeps HP.out HB1.out HG4.out).1; have y1 : w4.frozen? ⟨pb, 0, none⟩ = false := (grow_keeps HP.out HB1.out HG4.out).2; clear ho4 hg4 hn4))
        go_ret2
        have ho4 := HO4.out
        have hg4 := HG4.out
        rw [HS1.out] at ho4 hg4
        obtain ⟨h5, hk5⟩ := HP.out.grow (n := n) (by have := H32.out; omega) HB1.out HS1.out HR1.out hg4 ho4 fun g hg => by
          rcases HN4.out g hg with h1 | h1
          · exact Or.inl h1
          · have := HAL.out; have := HS1.out; exact Or.inr (by omega)
        have hl := HLEN.out
        refine ⟨?_, ⟨_, ⟨HOK.out.make hn8 (by have := H32.out; omega), _, _, mb, D, h5⟩, fun g hg => by unfold roleNew; rw [if_pos hg]⟩, hk5⟩
        rw [HRL.out]; rfl
end Go.Proofs.YtppbmhpbbiigaaaDoor

namespace Go.Proofs.YtppbmhpbbiigaaaDoor
open Go.RowKit

/-- A row of its own behind w's heap, filled so far. -/
structure FillI (w w' : World) (l : List Int) (k : Nat) : Prop where
  keep : Keeps (fun _ => False) w w'
  lt : w.heap.size < w'.heap.size
  cell : ∀ j, j < l.length → ∃ v, w'.cell? ⟨w.heap.size, j, none⟩ = some v ∧ (j < k → v = eI (l.getD j 0))
  free : ∀ j, j < l.length → w'.frozen? ⟨w.heap.size, j, none⟩ = false
section
variable {w w' : World} {l : List Int} {k : Nat}
theorem FillI.new (w : World) (l : List Int) (t : TypeId) : FillI w (w.alloc (.cells (madeCells #[eI 0] l.length) t)) l 0 := by
  refine ⟨(Keeps.refl _ _).alloc _, by simp, fun j hj => ⟨eI 0, ?_, fun h => by omega⟩, fun j _ => ?_⟩
  · rw [World.cell?_alloc_at _ _ _ _ rfl]
    exact made_get _ _ j hj
  · rw [World.frozen?_alloc_at _ _ _ _ rfl]
theorem FillI.set (h : FillI w w' l k) (hk : k < l.length) (m : Nat) : FillI w ((w'.drewN m).setCell ⟨w.heap.size, k, none⟩ (eI (l.getD k 0))) l (k + 1) := by
  obtain ⟨v0, hc0, -⟩ := h.cell k hk
  refine ⟨(keeps_drewN h.keep m).setCell (Or.inr (Nat.le_refl _)) _, ?_, fun j hj => ?_, fun j hj => ?_⟩
  · have := h.lt
    simpa using this
  · by_cases e : j = k
    · subst e
      exact ⟨_, cell_set_same (w := w'.drewN m) hc0, fun _ => rfl⟩
    · obtain ⟨v, hc, hv⟩ := h.cell j hj
      exact ⟨v, by rw [cell_set_other (off_ne (fun e' => e e'.symm) _)]; exact hc, fun hjk => hv (by omega)⟩
  · rw [World.frozen?_setCell]; exact h.free j hj
theorem FillI.drewN (h : FillI w w' l k) (m : Nat) : FillI w (w'.drewN m) l k := ⟨keeps_drewN h.keep m, h.lt, h.cell, h.free⟩
end

set_option maxRecDepth 100000 in
set_option maxHeartbeats 3200000 in
theorem listI_any {rb sb n : Nat} {l : List Int} (w : World) (h : RingL eI w rb sb n l) : Calls Tryd.prog 63 #[.pointer (some ⟨rb, 0, none⟩)] w fun e w' =>
    e = .returned (.slice (some ⟨w.heap.size, 0, none⟩) l.length l.length) ∧ FillI w w' l l.length := by
  obtain ⟨row, f, rfl, h⟩ := h
  have HH := Lib.hid h
  have c0 := h.c0
  have c2 := h.c2
  have ht := h.top
  have hcn := h.cnt
  have hmk := make_elI l.length (by omega)
  clear h
  go_enter Tryd.func63, Tryd.ntmps63
  go_wp2_with fail
  have HF : Hid (FillI w (w.alloc (.cells (madeCells #[eI 0] l.length) 3)) l 0) := Lib.hid (FillI.new w l _)
  go_loopw [12] (fun t wr => ∃ k : Nat, k ≤ l.length ∧ t = .int .i64 k ∧ FillI w wr l k) (fun t _ => l.length - (intOf t).toNat)
  case atStart => exact ⟨0, Nat.zero_le _, rfl, HF.out⟩
  case round =>
    obtain ⟨k, hk, rfl, hF⟩ := hrel
    clear HF
    by_cases hkl : k < l.length
    · have HR : Hid (RingAt eI wr rb sb row f l) := Lib.hid (HH.out.keeps hF.keep id id)
      have r0 := HR.out.c0
      have hf : f < row.length := by have := HH.out.fst; omega
      have hj : (f + k) % row.length < row.length := Nat.mod_lt _ (by omega)
      have hx : l[k]? = some (l.getD k 0) := by rw [List.getD_eq_getElem?_getD, List.getElem?_eq_getElem hkl]; rfl
      have hc := HR.out.cell _ _ (HR.out.holds k _ hx)
      have h64 : k ≤ 64 := by omega
      have hn0 : 0 < row.length := by omega
      have HS : Hid (∀ W : World, RingAt eI W rb sb row f l → Calls Tryd.prog 68 #[.pointer (some ⟨rb, 0, none⟩), .int .i64 k] W fun e w' => e = .returned (.int .i64 ((f + k) % row.length : Nat)) ∧ ∃ n, w' = W.drewN n) := Lib.hid fun W hW => slotI_any W hW k h64 hn0
      obtain ⟨v0, hc0, -⟩ := hF.cell k hkl
      have hz0 := hF.free k hkl
      have HF1 : Hid (∀ m, FillI w ((wr.drewN m).setCell ⟨w.heap.size, k, none⟩ (eI (l.getD k 0))) l (k + 1)) := Lib.hid fun m => hF.set hkl m
      generalize (f + k) % row.length = j at *
      generalize l.getD k 0 = x at *
      have hji : (0 : Int) ≤ (j : Int) ∧ (j : Int) < (row.length : Int) := by omega
      have hki : (0 : Int) ≤ (k : Int) ∧ (k : Int) < (l.length : Int) := by omega
      clear hF hx
      go_wp2_with fail
      go_region_with (go_at_call 68; refine (HS.out _ ?_).mono ?_; (first | exact HR.out.drewN _ | exact (HR.out.drewN _).drewN _); rintro e w' ⟨rfl, m, rfl⟩)
      all_goals
        go_wp2_with fail
        go_roundw
        case rel => exact ⟨k + 1, by omega, by go_num, HF1.out _⟩
        case measure => simp [intOf]; omega
    · obtain rfl : k = l.length := by omega
      have hki : ¬ (l.length : Int) < (l.length : Int) := by omega
      go_wp2_with fail
      go_ret
      exact ⟨rfl, hF⟩
end Go.Proofs.YtppbmhpbbiigaaaDoor

namespace Go.Proofs.YtppbmhpbbiigaaaDoor
open Go.RowKit Go.Shelf

attribute [local go_sem] Oper.semAt_some

/-- The first k places, each with what lies there. -/
def uptoP (zs : List Int) (k : Nat) : List (Nat × Int) := (List.range k).map fun j => (j, zs[j]?.getD 0)
theorem uptoP_succ (zs : List Int) (k : Nat) : uptoP zs (k + 1) = uptoP zs k ++ [(k, zs[k]?.getD 0)] := by simp [uptoP, List.range_succ]
theorem uptoP_length (zs : List Int) (k : Nat) : (uptoP zs k).length = k := by simp [uptoP]
/-- What a loop over All must leave as it is: what was copied, and where that is noted. -/
abbrev KpA (B Bs : Nat) : World → World → Prop := Keeps (fun k => k ≠ B ∧ k ≠ Bs)
theorem kpA_t {B Bs : Nat} {a b c : World} (h : KpA B Bs a b) (k : KpA B Bs b c) : KpA B Bs a c := h.trans k
theorem kpA_b {B Bs : Nat} {w : World} (hB : B < w.heap.size) (hBs : Bs < w.heap.size) (W : World) (l : Nat) (o o' : Obj) (hl : w.heap.size ≤ l) (_ : W.heap[l]? = some o) (_ : o.isCells = false) (_ : o.isWalk = false) : KpA B Bs W (W.putObj l o') :=
  Keeps.of_grownBy (grownBy_putObj' W l o') fun k _ e => by cases e; exact ⟨by omega, by omega⟩

set_option maxRecDepth 100000 in
set_option maxHeartbeats 2000000 in
theorem all1_in (F : Fence) (n : Nat) (h49 : F.fn 64) (hro : F.round = none) (_hn : 1 ≤ n) (l Bs B len : Nat) (zs : List Int) (hlen : len ≤ 64) (J Jx : List (Nat × Int) → World → Prop)
    (hY : ∀ pre (x : Nat × Int) W, J pre W → pre.length < len → YieldAt F (n - 1) Tryd.prog l #[.int .i64 (x.1 : Int), .int .i64 x.2] W fun e W' =>
      (e = .returned (.bool true) ∧ J (pre ++ [x]) W' ∧ KpA B Bs W W') ∨ (e = .returned (.bool false) ∧ Jx (pre ++ [x]) W'))
    (W : World) (hBs : W.cell? ⟨Bs, 0, none⟩ = some (.slice (some ⟨B, 0, none⟩) len len)) (hc : ∀ j, j < len → W.cell? ⟨B, j, none⟩ = some (.int .i64 (zs[j]?.getD 0))) (h0 : J [] W) :
    CallsIn F n Tryd.prog 64 #[.func (.yield l) #[] #[], .pointer (some ⟨Bs, 0, none⟩)] W fun e W' => (∃ v, e = .returned v) ∧
      ((∃ ys, ys = uptoP zs len ∧ J ys W') ∨ (∃ pre, (∃ k, k ≤ len ∧ pre = uptoP zs k) ∧ Jx pre W')) := by
  have HC : Hid (∀ j, j < len → W.cell? ⟨B, j, none⟩ = some (.int .i64 (zs[j]?.getD 0)) ∧ B < W.heap.size) := Lib.hid fun j hj => ⟨hc j hj, block_lt_of_cell (hc j hj)⟩
  clear hc
  refine callsIn_of_wp Tryd.func64 rfl h49 ?_ hro
  simp only [Tryd.ntmps64, List.size_toArray, List.length_cons, List.length_nil, Nat.reduceAdd, Nat.reduceSub, Array.replicate_succ, Array.replicate_zero, List.push_toArray, List.append_toArray, List.nil_append, List.cons_append]
  gi_wp2
  gi_loopw [7] (fun i wr => ∃ k : Nat, k ≤ len ∧ i = .int .i64 k ∧ J (uptoP zs k) wr ∧ KpA B Bs W wr)
    (fun i _ => len - (intOf i).toNat)
  case atStart => exact ⟨0, Nat.zero_le _, rfl, h0, Keeps.refl _ _⟩
  case round =>
    obtain ⟨k, hk, rfl, hJs, hnx⟩ := hrel
    by_cases hlt : k < len
    · obtain ⟨fn, tmps, assign, body, hy, hR⟩ := hY _ (k, zs[k]?.getD 0) wr hJs (by rw [uptoP_length]; exact hlt)
      have hcx : wr.cell? ⟨B, k, none⟩ = some (.int .i64 (zs[k]?.getD 0)) := hnx.cell_of (HC.out k hlt).1 (fun h => h.1 rfl)
      have hki : (0 : Int) ≤ (k : Int) ∧ (k : Int) < (len : Int) := by omega
      dsimp only at hy
      gi_wp2
      refine hR.mono ?_
      rintro e W3 (⟨rfl, hJ3, hk3⟩ | ⟨rfl, hJx3⟩)
      · gi_wp2
        go_roundw
        case rel => exact ⟨k + 1, by omega, by simp, by rw [uptoP_succ]; exact hJ3, hnx.trans hk3⟩
        case measure => simp [intOf]; omega
      · gi_wp2
        refine bodyPost_ret (results_none rfl _ _ _) rfl ?_
        exact ⟨⟨_, rfl⟩, .inr ⟨_, ⟨k + 1, by omega, (uptoP_succ _ _).symm⟩, hJx3⟩⟩
    · obtain rfl : k = len := by omega
      gi_wp2
      go_end0
      exact ⟨⟨_, rfl⟩, .inl ⟨_, rfl, hJs⟩⟩

/-- What All hands back: all that there is, in order; or the first few. -/
theorem all_stops (F : Fence) (n : Nat) (h49 : F.fn 64) (hro : F.round = none) (hn : 1 ≤ n) (Bs B : Nat) (zs : List Int) (hlen : zs.length ≤ 64) (w : World)
    (hc : w.cell? ⟨Bs, 0, none⟩ = some (.slice (some ⟨B, 0, none⟩) zs.length zs.length)) (hI : ∀ j, j < zs.length → w.cell? ⟨B, j, none⟩ = some (.int .i64 (zs[j]?.getD 0))) :
    SeqStopsK F n Tryd.prog 64 #[.pointer (some ⟨Bs, 0, none⟩)] (fun x : Nat × Int => #[Value.int .i64 (x.1 : Int), Value.int .i64 x.2]) (KpA B Bs) (fun ys => ys = uptoP zs zs.length)
      (fun pre => ∃ k, k ≤ zs.length ∧ pre = uptoP zs k) zs.length w := fun l J Jx W hW _ _ hY h0 =>
  all1_in F n h49 hro hn l Bs B zs.length zs hlen J Jx hY W ((hW.cell (p := ⟨Bs, 0, none⟩) (block_lt_of_cell hc)).trans hc) (fun j hj => (hW.cell (p := ⟨B, j, none⟩) (block_lt_of_cell (hI j hj))).trans (hI j hj)) h0

/-- What All has laid. -/
structure AllI (w w' : World) (l : List Int) (Bs : Nat) : Prop where
  keep : Keeps (fun _ => False) w w'
  lo : w.heap.size < Bs
  hi : Bs < w'.heap.size
  box : w'.cell? ⟨Bs, 0, none⟩ = some (.slice (some ⟨w.heap.size, 0, none⟩) l.length l.length)
  cell : ∀ j, j < l.length → w'.cell? ⟨w.heap.size, j, none⟩ = some (.int .i64 (l[j]?.getD 0))

set_option maxHeartbeats 1000000 in
theorem allI_any {rb sb n : Nat} {l : List Int} (w : World) (h : RingL eI w rb sb n l) : Calls Tryd.prog 53 #[.pointer (some ⟨rb, 0, none⟩)] w fun e w' =>
    ∃ Bs, e = .returned (.func (.func 64) #[] #[.pointer (some ⟨Bs, 0, none⟩)]) ∧ AllI w w' l Bs := by
  go_enter Tryd.func53, Tryd.ntmps53
  go_wp2_with fail
  refine (listI_any w h).mono ?_
  rintro e w1 ⟨rfl, hF⟩
  go_wp2_with fail
  go_ret
  have hlt := hF.lt
  refine ⟨w1.heap.size, rfl, hF.keep.alloc _, hlt, by simp, ?_, fun j hj => ?_⟩
  · rw [World.cell?_alloc_at _ _ _ _ rfl]; rfl
  · obtain ⟨v, hc, hv⟩ := hF.cell j hj
    rw [World.cell?_alloc_past _ _ _ (block_lt_of_cell hc), hc, hv hj, List.getD_eq_getElem?_getD]
end Go.Proofs.YtppbmhpbbiigaaaDoor

namespace Go.Proofs.YtppbmhpbbiigaaaDoor
open Go.RowKit

/-- A variable of its own block. -/
structure Box (W : World) (b : Nat) (x : Value) : Prop where
  cell : W.cell? ⟨b, 0, none⟩ = some x
  free : W.frozen? ⟨b, 0, none⟩ = false
theorem Box.lt {W : World} {b : Nat} {x : Value} (h : Box W b x) : b < W.heap.size := block_lt_of_cell h.cell
theorem Box.keeps {S : Nat → Prop} {W W' : World} {b : Nat} {x : Value} (h : Box W b x) (hk : Keeps S W W') (hS : ¬ S b) : Box W' b x :=
  ⟨hk.cell_of h.cell hS, by rw [hk.frozen (p := ⟨b, 0, none⟩) h.lt hS]; exact h.free⟩
theorem Box.new (W : World) (x : Value) (t : TypeId) : Box (W.alloc (.cells #[x] t)) W.heap.size x :=
  ⟨by rw [World.cell?_alloc_at _ _ _ _ rfl]; rfl, by rw [World.frozen?_alloc_at _ _ _ _ rfl]⟩
theorem Box.new' (W : World) (x : Value) (t : TypeId) {b : Nat} (hb : b = W.heap.size) : Box (W.alloc (.cells #[x] t)) b x := hb ▸ Box.new W x t
theorem Box.alloc {W : World} {b : Nat} {x : Value} (h : Box W b x) (o : Obj) : Box (W.alloc o) b x := h.keeps ((Keeps.refl (fun _ => False) W).alloc o) id
theorem keeps_set (w : World) (a : Nat) (v : Value) : Keeps (fun k => k = a) w (w.setCell ⟨a, 0, none⟩ v) := (Keeps.refl (fun k => k = a) w).setCell (p := ⟨a, 0, none⟩) (Or.inl rfl) v
theorem two_boxes (W : World) (x y : Value) (t u : TypeId) : Box ((W.alloc (.cells #[x] t)).alloc (.cells #[y] u)) W.heap.size x ∧ Box ((W.alloc (.cells #[x] t)).alloc (.cells #[y] u)) (W.heap.size + 1) y ∧
    Keeps (fun _ => False) W ((W.alloc (.cells #[x] t)).alloc (.cells #[y] u)) ∧ ((W.alloc (.cells #[x] t)).alloc (.cells #[y] u)).heap.size = W.heap.size + 2 :=
  ⟨(Box.new W x t).alloc _, Box.new' _ _ _ (by simp), ((Keeps.refl _ W).alloc _).alloc _, by simp⟩
theorem Box.set {W : World} {b : Nat} {x : Value} (h : Box W b x) (y : Value) : Box (W.setCell ⟨b, 0, none⟩ y) b y :=
  ⟨cell_set_same h.cell, by rw [World.frozen?_setCell]; exact h.free⟩
end Go.Proofs.YtppbmhpbbiigaaaDoor

namespace Go.Proofs.YtppbmhpbbiigaaaDoor
open Go.RowKit

theorem wpListIn_appendI {F : Fence} {nF : Nat} {ops : Array Oper} {rest : List Oper} {o : Oper} {a : Act} {Q : Exit → Act → World → Prop} (hgd : o.guard = none) (s x : Operand)
    (ho : o.op = .call { callee := .builtin .append, args := #[s, x], argTypes := #[70, 70] }) (w : World) (B : Nat) (v : Value) (xs : List Int) (y : Int) (hown : OwnI w B v xs) (hs : a.eval s = v)
    (hx : a.eval x = .slice (some ⟨w.heap.size, 0, none⟩) 1 1) (hl : xs.length ≤ 1000000) (hB : B ≤ w.heap.size)
    (h : ∀ ao' cap' w', OwnI w' B (.slice ao' (xs.length + 1) cap') (xs ++ [y]) → Keeps (fun b => v.ownBlock = some b) w w' → (∀ k, (Value.slice ao' (xs.length + 1) cap').ownBlock = some k → v.ownBlock = some k ∨ w.heap.size ≤ k) →
      wpListIn F nF Tryd.prog ops Q rest (a.put o.dst (.slice ao' (xs.length + 1) cap')) w') : wpListIn F nF Tryd.prog ops Q (o :: rest) a (w.alloc (.cells #[.int .i64 y] 3)) := by
  obtain ⟨i0, hi, hz0, hz1, hz2⟩ := info_parts info_int
  refine wpListIn_append_own_at _ hgd s x 70 ho B 3 i0 (.int .i64 0) 1 8 Tryd.underlying70 hi hz0 hz1 hz2 rfl (by decide) v xs.length (xs.map (Value.int .i64)) hs (World.ownsRow.alloc hown _) ⟨w.heap.size, 0, none⟩ 1 1 [.int .i64 y] hx rfl
    (cell_one_new _ _ _) (fun u hu => by simp at hu; subst hu; rfl) (by unfold maxLen; omega) (by omega) (by simp; omega) ?_
  intro v' w' h1 h2 _ h4
  have hO : OwnI w' B v' (xs ++ [y]) := OwnI.mk _ y rfl h1
  obtain ⟨ao', cap', e⟩ := hO.slice
  rw [List.length_append] at e
  have e' : v' = .slice ao' (xs.length + 1) cap' := e
  subst e'
  refine h _ _ _ hO (keeps_append h2 fun k e => e) fun k hk => ?_
  rcases h4 with h4 | h4
  · exact Or.inl (h4 ▸ hk)
  · rw [h4] at hk
    cases hk
    exact Or.inr (by simp)
end Go.Proofs.YtppbmhpbbiigaaaDoor

namespace Go.Proofs.YtppbmhpbbiigaaaDoor
open Go.RowKit Go.Shelf Go.Maps Pp
attribute [local go_sem] Oper.semAt_some

theorem kf_cells {S : Nat → Prop} {B : Nat} {W W' : World} (hk : Keeps S W W') (h : ∀ k, S k → k < B ∨ ∃ o : Obj, W.heap[k]? = some o ∧ o.isCells = true) : KeepsFrom B W W' :=
  ⟨hk.size, fun k o hB ho hc => by
    by_cases hS : S k
    · rcases h k hS with h1 | ⟨o', h1, h2⟩
      · omega
      · rw [ho] at h1; cases h1; rw [hc] at h2; cases h2
    · rw [hk.block k (Array.getElem?_eq_some_iff.1 ho).1 hS]; exact ho⟩
theorem rowCells {W : World} {B : Nat} {t : TypeId} {n : Nat} {v : Value} {m : Nat} {cs : List Value} (h : W.ownsRow B t n v m cs) : ∀ k, v.ownBlock = some k → ∃ o : Obj, W.heap[k]? = some o ∧ o.isCells = true := fun k hk => by
  rcases h.2 with ⟨rfl, h0⟩ | ⟨g, cap, cur, rfl, hb, hg, _⟩
  · cases hk
  · cases hk
    exact ⟨_, hg, rfl⟩
theorem uptoP_snd (l : List Int) : (uptoP l l.length).map (·.2) = l := by
  apply List.ext_getElem
  · simp [uptoP]
  · intro i h1 h2
    simp [uptoP, h2]
theorem bel_step {W V V' : World} (h : Below W.heap.size W V) (k : Below V.heap.size V V') : Below W.heap.size W V' := h.trans (k.mono h.size)
theorem bel_step' {W V V' : World} (h : Below W.heap.size W V) (k : Below V.drew.heap.size V.drew V') : Below W.heap.size W V' := bel_step h.drew k
theorem cloneS_any (w : World) {v : Value} {r : List (Int × Nat)} (hl : RowW w v r) (h6 : r.length ≤ 1000000000) :
    Calls Tryd.prog 55 #[v] w fun e w' => ∃ au cu, e = .returned (.slice au r.length cu) ∧ w'.ownsRow w.heap.size 90 2 (.slice au r.length cu) r.length (cellsW r) ∧ Below w.heap.size w w' := by
  refine (cloneW_any w hl h6).mono ?_
  rintro e w' ⟨u, rfl, h1, h2⟩
  have h3 := h1
  rcases h1.2 with ⟨rfl, h0⟩ | ⟨g, cap, cur, rfl, _⟩
  · exact ⟨none, 0, by rw [h0], by rw [h0] at h3 ⊢; exact h3, h2⟩
  · exact ⟨_, _, rfl, h3, h2⟩
theorem set5 {w V : World} {r : Nat} (h : Keeps (fun k => k = r) w V) (a b c d e : Value) : Keeps (fun k => k = r) w (((((V.setCell ⟨r, 0, none⟩ a).setCell ⟨r, 1, none⟩ b).setCell ⟨r, 2, none⟩ c).setCell ⟨r, 3, none⟩ d).setCell ⟨r, 4, none⟩ e) :=
  ((((h.setCell (Or.inl rfl) a).setCell (Or.inl rfl) b).setCell (Or.inl rfl) c).setCell (Or.inl rfl) d).setCell (Or.inl rfl) e
theorem get5 {V : World} {r : Nat} {x0 x1 x2 x3 x4 : Value} (h0 : V.cell? ⟨r, 0, none⟩ = some x0) (h1 : V.cell? ⟨r, 1, none⟩ = some x1) (h2 : V.cell? ⟨r, 2, none⟩ = some x2) (h3 : V.cell? ⟨r, 3, none⟩ = some x3) (h4 : V.cell? ⟨r, 4, none⟩ = some x4) (a b c d e : Value) :
    let Z := ((((V.setCell ⟨r, 0, none⟩ a).setCell ⟨r, 1, none⟩ b).setCell ⟨r, 2, none⟩ c).setCell ⟨r, 3, none⟩ d).setCell ⟨r, 4, none⟩ e
    Z.cell? ⟨r, 0, none⟩ = some a ∧ Z.cell? ⟨r, 1, none⟩ = some b ∧ Z.cell? ⟨r, 2, none⟩ = some c ∧ Z.cell? ⟨r, 3, none⟩ = some d ∧ Z.cell? ⟨r, 4, none⟩ = some e := by
  have o : ∀ {W : World} {i j : Nat} {v : Value}, j ≠ i → (W.setCell ⟨r, j, none⟩ v).cell? ⟨r, i, none⟩ = W.cell? ⟨r, i, none⟩ := fun h => cell_set_other (off_ne h r)
  refine ⟨?_, ?_, ?_, ?_, ?_⟩
  · rw [o (by decide), o (by decide), o (by decide), o (by decide)]; exact cell_set_same h0
  · rw [o (by decide), o (by decide), o (by decide)]; exact cell_set_same ((o (by decide)).trans h1)
  · rw [o (by decide), o (by decide)]; exact cell_set_same ((o (by decide)).trans ((o (by decide)).trans h2))
  · rw [o (by decide)]; exact cell_set_same ((o (by decide)).trans ((o (by decide)).trans ((o (by decide)).trans h3)))
  · exact cell_set_same ((o (by decide)).trans ((o (by decide)).trans ((o (by decide)).trans ((o (by decide)).trans h4))))
theorem own_lower {w : World} {B B' : Nat} {t : TypeId} {n : Nat} {v : Value} {m : Nat} {cs : List Value} (h : w.ownsRow B t n v m cs) (hB : B' ≤ B) : w.ownsRow B' t n v m cs :=
  ⟨h.1, h.2.imp id fun ⟨g, cap, cur, e, hb, r⟩ => ⟨g, cap, cur, e, Nat.le_trans hB hb, r⟩⟩
/-- So many were noted. -/
structure LookJ (w9 : World) (bn : Nat) (pre : List (Nat × Int)) (W : World) : Prop where
  keep : Keeps (fun k => k = bn) w9 W
  row : ∃ vk, Box W bn vk ∧ OwnI W w9.heap.size vk (pre.map (·.2))
theorem lookJ_own {w9 : World} {bn : Nat} (hb : bn < w9.heap.size) : OwnFrom w9.heap.size (LookJ w9 bn) := fun pre W W' row h hg hrow => by
  have key : ∀ k, k < w9.heap.size → ¬ row = some k := fun k hk e => by have := (hrow k e).1; omega
  have keyc : ∀ k, (∃ o : Obj, W.heap[k]? = some o ∧ o.isCells = true) → ¬ row = some k := fun k ⟨o, h1, h2⟩ e => by
    obtain ⟨_, o', h3, h4⟩ := hrow k e
    rw [h1] at h3; cases h3; rw [h2] at h4; cases h4
  have hk : Keeps (fun k => row = some k) W W' := Keeps.of_grownBy hg fun _ _ e => e
  obtain ⟨vk, h1, h2⟩ := h.row
  exact ⟨h.keep.trans' hk fun i hi e => absurd e (key i hi), vk, h1.keeps hk (key _ hb), h2.keeps hk fun k e => keyc k (rowCells h2 k e)⟩

/-- What is seen of a channel. -/
structure SeenC (w' : World) (B : Nat) (c : Ch) (vn u1 u2 : Value) : Prop where
  nums : OwnI w' B vn c.nums
  sends : w'.ownsRow B 90 2 u1 c.sends.length (cellsW c.sends)
  recvs : w'.ownsRow B 90 2 u2 c.recvs.length (cellsW c.recvs)

set_option maxRecDepth 100000 in
set_option maxHeartbeats 3200000 in
theorem lookC_any (w : World) {ρ : Nat → Role} {k cb rb sb : Nat} {v1 v2 : Value} {c : Ch} (h : ChC w ρ k cb rb sb v1 v2 c) (hn : c.nums.length ≤ 64) (h1 : c.sends.length ≤ 1000000000) (h2 : c.recvs.length ≤ 1000000000) :
    Calls Tryd.prog 44 #[.pointer (some ⟨cb, 0, none⟩)] w fun e w' => ∃ vn u1 u2, e = .returned (.agg #[.int .i64 c.size, vn, .bool c.shut, u1, u2]) ∧ SeenC w' w.heap.size c vn u1 u2 ∧ Below w.heap.size w w' := by
  obtain ⟨size, nums, shut, sends, recvs⟩ := c
  have HC := Lib.hid h
  have H1 := Lib.hid h1
  have H2 := Lib.hid h2
  have hcl := block_lt_of_cell h.c0
  have c0 := h.c0
  simp only at hn
  clear h h1 h2
  refine (callsIn_wide (n := 5)).1 (callsIn_of_wp_marks Tryd.func44 rfl trivial ?_ rfl)
  simp only [Tryd.ntmps44, List.size_toArray, List.length_cons, List.length_nil, Nat.reduceAdd, Nat.reduceSub, Array.replicate_succ, Array.replicate_zero, List.push_toArray, List.append_toArray, List.nil_append, List.cons_append]
  refine wpIn_wide.2 ?_
  go_wp2_with fail
  have q0 : Box ((w.alloc (.cells #[.int .i64 0, .slice none 0 0, .bool false, .slice none 0 0, .slice none 0 0] 101)).alloc (.cells #[.slice none 0 0] 70)) (w.heap.size + 1) (.slice none 0 0) := Box.new' _ _ _ (by simp)
  obtain ⟨wA, hwA⟩ : ∃ wA, wA = (w.alloc (.cells #[.int .i64 0, .slice none 0 0, .bool false, .slice none 0 0, .slice none 0 0] 101)).alloc (.cells #[.slice none 0 0] 70) := ⟨_, rfl⟩
  have hkA : Keeps (fun _ => False) w wA := hwA ▸ ((Keeps.refl _ w).alloc _).alloc _
  have hsA : wA.heap.size = w.heap.size + 2 := by rw [hwA]; simp
  have hrA : ∀ i, i < 5 → (wA.cell? ⟨w.heap.size, i, none⟩).isSome = true ∧ wA.frozen? ⟨w.heap.size, i, none⟩ = false := fun i hi => by
    rw [hwA, World.cell?_alloc_past _ _ _ (by simp), World.frozen?_alloc_past _ _ _ (by simp), World.cell?_alloc_at _ _ _ _ rfl, World.frozen?_alloc_at _ _ _ _ rfl]
    match i, hi with
    | 0, _ => exact ⟨rfl, rfl⟩
    | 1, _ => exact ⟨rfl, rfl⟩
    | 2, _ => exact ⟨rfl, rfl⟩
    | 3, _ => exact ⟨rfl, rfl⟩
    | 4, _ => exact ⟨rfl, rfl⟩
  rw [← hwA] at q0 ⊢
  have HRA := Lib.hid hrA
  clear hwA hrA
  refine (allI_any _ (HC.out.keeps hkA fun _ _ _ => id).ring).mono ?_
  rintro e w9 ⟨Bs, rfl, hA⟩
  have HA := Lib.hid hA
  obtain ⟨B1, hB1⟩ : ∃ B1, B1 = wA.heap.size := ⟨_, rfl⟩
  have hlo9 := hA.lo
  have hhi9 := hA.hi
  have hbox9 := hA.box
  have hcel9 := hA.cell
  rw [← hB1] at hlo9 hbox9 hcel9
  have q9 := q0.keeps hA.keep id
  have HK9 := Lib.hid (hkA.trans hA.keep)
  have HJ : Hid (LookJ w9 (w.heap.size + 1) [] w9) := Lib.hid ⟨Keeps.refl _ _, _, q9, ownI_nil _ _⟩
  have hb1 : w.heap.size + 2 = B1 := by omega
  clear hA q0 hkA hB1 q9
  generalize hbn : w.heap.size + 1 = bn at *
  go_wp2_with fail
  refine (wpIn_wide (n := 5)).1 (wpIn_rangeFunc_ownG rfl (by omega) (gf := 64) (lb := #[.pointer (some ⟨Bs, 0, none⟩)]) rfl trivial (enters_of Tryd.func64 (by kernel_rfl) rfl)
    (all_stops Fence.wide _ trivial rfl (by omega) Bs B1 nums hn w9 hbox9 hcel9) kpA_t (kpA_b (by omega) (by omega)) (Below.refl _ _) (fun _ => rfl)
    (LookJ w9 bn) (fun _ _ _ => False) (lookJ_own (by omega)) (fun _ _ _ _ _ hs _ _ => hs) HJ.out ?act ?assign ?body ?done ?stop)
  case assign =>
    intro l x W K hK
    gi_wp2
    exact hK
  case body =>
    rintro l' pre ⟨kx, x⟩ W hJ hlt
    obtain ⟨vk, hbk, hok⟩ := hJ.row
    obtain ⟨ak, ck, hvk⟩ := hok.slice
    subst hvk
    have HJJ := Lib.hid hJ
    have HOK := Lib.hid hok
    have HBK := Lib.hid hbk
    have hpl : (pre.map (·.2)).length ≤ 64 := by rw [List.length_map]; omega
    have c1 := hbk.cell
    have c2 := hbk.free
    have hgv : ∀ c, c < w9.heap.size → ¬ (Value.slice ak (pre.map (·.2)).length ck).ownBlock = some c := fun c hc e => by have := hok.le c e; omega
    have HGV := Lib.hid hgv
    have hbig : w9.heap.size ≤ W.heap.size := hJ.keep.size
    clear hJ hok hbk hgv
    generalize hAf : pre.map (·.2) = Af at *
    have HAF := Lib.hid hAf
    clear hAf
    gi_wp2_with (gi_at_builtin; go_loud (refine wpListIn_appendI rfl _ _ rfl _ w9.heap.size _ Af x HOK.out rfl rfl (by omega) hbig ?_; intro a4 c4 w4 hO4 hK4 hN4; have HO4 := Lib.hid hO4; have HK4 := Lib.hid hK4; have c4k := (HBK.out.keeps hK4 (HGV.out bn (by omega))).cell; have z4k := (HBK.out.keeps hK4 (HGV.out bn (by omega))).free; clear hO4 hK4 hN4))
    have hAf := HAF.out
    subst hAf
    have hKs := keeps_set w4 bn (.slice a4 ((pre.map (·.2)).length + 1) c4)
    refine ⟨(kf_cells HK4.out fun k e => Or.inr (rowCells HOK.out k e)).trans ((KeepsOthers.setCell _ _ _).from _), (HK4.out.mono fun k _ e => ⟨fun e' => HGV.out k (by omega) e, fun e' => HGV.out k (by omega) e⟩).trans (hKs.mono fun k _ e => ⟨by omega, by omega⟩), ?_, _, (HBK.out.keeps HK4.out (HGV.out bn (by omega))).set _, ?_⟩
    · exact (HJJ.out.keep.trans' HK4.out fun i hi e => absurd e (HGV.out i hi)).trans hKs
    · rw [List.map_append]
      exact HO4.out.keeps hKs (HO4.out.off fun k e => by omega)
  case done =>
    rintro D ys W hD rfl hJ hK
    obtain ⟨vk, hbk, hok⟩ := hJ.row
    rw [uptoP_snd] at hok
    obtain ⟨ak, ck, rfl⟩ := hok.slice
    have hkW : Keeps (fun _ => False) w W := HK9.out.trans' hJ.keep fun i hi e => by omega
    have hCW := HC.out.keeps hkW fun _ _ _ => id
    have hkA : Keeps (fun k => k = bn) wA W := (HA.out.keep.mono fun _ _ e => e.elim).trans hJ.keep
    have hr0 : ∀ i, i < 5 → ∃ x, W.cell? ⟨w.heap.size, i, none⟩ = some x ∧ W.frozen? ⟨w.heap.size, i, none⟩ = false := fun i hi => by
      obtain ⟨x, hx⟩ := Option.isSome_iff_exists.1 (HRA.out i hi).1
      exact ⟨x, hkA.cell_of hx (by show ¬ w.heap.size = bn; omega), by rw [hkA.frozen (p := ⟨w.heap.size, i, none⟩) (by show w.heap.size < wA.heap.size; omega) (by show ¬ w.heap.size = bn; omega)]; exact (HRA.out i hi).2⟩
    obtain ⟨x0, y0, z0⟩ := hr0 0 (by omega)
    obtain ⟨x1, y1, z1⟩ := hr0 1 (by omega)
    obtain ⟨x2, y2, z2⟩ := hr0 2 (by omega)
    obtain ⟨x3, y3, z3⟩ := hr0 3 (by omega)
    obtain ⟨x4, y4, z4⟩ := hr0 4 (by omega)
    have hsW : w.heap.size + 2 < W.heap.size := by have := hJ.keep.size; omega
    have hn1 : ∀ b, v1.ownBlock = some b → ¬ b = w.heap.size := fun b hb e => by have := HC.out.r1.lt b hb; omega
    have hn2 : ∀ b, v2.ownBlock = some b → ¬ b = w.heap.size := fun b hb e => by have := HC.out.r2.lt b hb; omega
    have HS1 : Hid (∀ V, Keeps (fun k => k = w.heap.size) W V → Calls Tryd.prog 55 #[v1] V fun e V' => ∃ au cu, e = .returned (.slice au sends.length cu) ∧ V'.ownsRow V.heap.size 90 2 (.slice au sends.length cu) sends.length (cellsW sends) ∧ Below V.heap.size V V') := Lib.hid fun V hV => cloneS_any V (hCW.r1.keeps hV hn1) H1.out
    have HS2 : Hid (∀ V, Keeps (fun k => k = w.heap.size) W V → Calls Tryd.prog 55 #[v2] V fun e V' => ∃ au cu, e = .returned (.slice au recvs.length cu) ∧ V'.ownsRow V.heap.size 90 2 (.slice au recvs.length cu) recvs.length (cellsW recvs) ∧ Below V.heap.size V V') := Lib.hid fun V hV => cloneS_any V (hCW.r2.keeps hV hn2) H2.out
    have hrl : rb < w.heap.size := HC.out.ring.lt
    have hslt : sb < w.heap.size := HC.out.lt
    have HSZ : Hid (∀ V, Keeps (fun k => k = w.heap.size) W V → Calls Tryd.prog 54 #[.pointer (some ⟨rb, 0, none⟩)] V fun e V' => e = .returned (.int .i64 size) ∧ V = V') := Lib.hid fun V hV => lsizeI (hCW.ring.keeps hV (by omega) (by omega))
    have c1 := hCW.c0
    have c2 := hCW.c1
    have c3 := hCW.c2
    have c4 := hCW.c3
    have c5 := hbk.cell
    simp only at c2
    have HF : Hid (∀ V, Keeps (fun k => k = w.heap.size) W V → V.cell? ⟨cb, 0, none⟩ = some (.pointer (some ⟨rb, 0, none⟩)) ∧ V.cell? ⟨cb, 1, none⟩ = some (.bool shut) ∧ V.cell? ⟨cb, 2, none⟩ = some v1 ∧ V.cell? ⟨cb, 3, none⟩ = some v2 ∧ V.cell? ⟨bn, 0, none⟩ = some (.slice ak nums.length ck)) := Lib.hid fun V hV => by
      have hc : ¬ cb = w.heap.size := by omega
      have hb : ¬ bn = w.heap.size := by omega
      exact ⟨hV.cell_of c1 hc, hV.cell_of c2 hc, hV.cell_of c3 hc, hV.cell_of c4 hc, hV.cell_of c5 hb⟩
    have HR : Hid (∀ V, Below W.heap.size W V → (V.cell? ⟨w.heap.size, 0, none⟩ = some x0 ∧ V.cell? ⟨w.heap.size, 1, none⟩ = some x1 ∧ V.cell? ⟨w.heap.size, 2, none⟩ = some x2 ∧ V.cell? ⟨w.heap.size, 3, none⟩ = some x3 ∧ V.cell? ⟨w.heap.size, 4, none⟩ = some x4) ∧
        V.frozen? ⟨w.heap.size, 0, none⟩ = false ∧ V.frozen? ⟨w.heap.size, 1, none⟩ = false ∧ V.frozen? ⟨w.heap.size, 2, none⟩ = false ∧ V.frozen? ⟨w.heap.size, 3, none⟩ = false ∧ V.frozen? ⟨w.heap.size, 4, none⟩ = false) := Lib.hid fun V hV => by
      have h0W : w.heap.size < W.heap.size := by omega
      exact ⟨⟨(hV.cell (p := ⟨w.heap.size, 0, none⟩) h0W).trans y0, (hV.cell (p := ⟨w.heap.size, 1, none⟩) h0W).trans y1, (hV.cell (p := ⟨w.heap.size, 2, none⟩) h0W).trans y2, (hV.cell (p := ⟨w.heap.size, 3, none⟩) h0W).trans y3, (hV.cell (p := ⟨w.heap.size, 4, none⟩) h0W).trans y4⟩,
        (hV.frozen (p := ⟨w.heap.size, 0, none⟩) h0W).trans z0, (hV.frozen (p := ⟨w.heap.size, 1, none⟩) h0W).trans z1, (hV.frozen (p := ⟨w.heap.size, 2, none⟩) h0W).trans z2, (hV.frozen (p := ⟨w.heap.size, 3, none⟩) h0W).trans z3, (hV.frozen (p := ⟨w.heap.size, 4, none⟩) h0W).trans z4⟩
    have HKW := Lib.hid hkW
    have HOK := Lib.hid hok
    clear hJ hCW hkA hr0 hn1 hn2 hkW hok hbk HC HA HJ HK9 HRA c0 hbox9 hcel9
    have hb0 : Below W.heap.size W W := Below.refl _ _
    go_wp2_with fail
    refine wp_region_noPanic ?_
    go_region_held3 (fun V : World => V.cell? ⟨cb, 0, none⟩ = some (.pointer (some ⟨rb, 0, none⟩)) ∧ V.cell? ⟨cb, 1, none⟩ = some (.bool shut) ∧ V.cell? ⟨cb, 2, none⟩ = some v1 ∧ V.cell? ⟨cb, 3, none⟩ = some v2 ∧ V.cell? ⟨bn, 0, none⟩ = some (.slice ak nums.length ck))
      (first | exact HF.out _ (Keeps.of_new (by assumption)) | exact HF.out _ (Keeps.of_new (Below.drew (by assumption))) | exact HF.out _ (set5 (Keeps.of_new (by assumption)) _ _ _ _ _) | exact HF.out _ (set5 (Keeps.of_new (Below.drew (by assumption))) _ _ _ _ _)) ((first
      | (go_at_call 54; refine (HSZ.out _ ?_).mono ?_; (first | exact Keeps.of_new (by assumption) | exact Keeps.of_new (Below.drew (by assumption))); rintro e V ⟨rfl, rfl⟩)
      | (go_at_call 55; refine (HS1.out _ ?_).mono ?_; (first | exact Keeps.of_new (by assumption) | exact Keeps.of_new (Below.drew (by assumption))); rintro e V1 ⟨a1, k1, rfl, hu1, hv1⟩; have hw1 : Below W.heap.size W V1 := (by first | exact bel_step (by assumption) hv1 | exact bel_step' (by assumption) hv1); obtain ⟨⟨p10, p11, p12, p13, p14⟩, f10, f11, f12, f13, f14⟩ := HR.out _ hw1)
      | (go_at_call 55; refine (HS2.out _ ?_).mono ?_; (first | exact Keeps.of_new (by assumption) | exact Keeps.of_new (Below.drew (by assumption))); rintro e V2 ⟨a2, k2, rfl, hu2, hv2⟩; have hw2 : Below W.heap.size W V2 := (by first | exact bel_step (by assumption) hv2 | exact bel_step' (by assumption) hv2); obtain ⟨⟨p20, p21, p22, p23, p24⟩, f20, f21, f22, f23, f24⟩ := HR.out _ hw2)))
    all_goals refine NoPanic.normal ?_
    all_goals (go_wp2_with fail)
    have HU1 := Lib.hid hu1
    have HV1 := Lib.hid hv1
    have HU2 := Lib.hid hu2
    have HV2 := Lib.hid hv2
    have HW2 := Lib.hid hw2
    have hkz := set5 (w := V2) (V := V2) (r := w.heap.size) (Keeps.refl _ _) (.int .i64 size) (.slice ak nums.length ck) (.bool shut) (.slice a1 sends.length k1) (.slice a2 recvs.length k2)
    obtain ⟨g0, g1, g2, g3, g4⟩ := get5 (V := V2) (r := w.heap.size) p20 p21 p22 p23 p24 (.int .i64 size) (.slice ak nums.length ck) (.bool shut) (.slice a1 sends.length k1) (.slice a2 recvs.length k2)
    generalize (((((V2.setCell ⟨w.heap.size, 0, none⟩ (.int .i64 size)).setCell ⟨w.heap.size, 1, none⟩ (.slice ak nums.length ck)).setCell ⟨w.heap.size, 2, none⟩ (.bool shut)).setCell ⟨w.heap.size, 3, none⟩ (.slice a1 sends.length k1)).setCell ⟨w.heap.size, 4, none⟩ (.slice a2 recvs.length k2)) = VZ at *
    have hDW : D < W.heap.size := (Array.getElem?_eq_some_iff.1 hK).1
    have hDr : ¬ D = w.heap.size := by omega
    have hK' : VZ.heap[D]? = some (.deferred (some [])) := by
      rw [hkz.block D (Nat.lt_of_lt_of_le hDW HW2.out.size) hDr, HW2.out.block D hDW]; exact hK
    have hkD : Keeps (fun k => k = D) VZ (VZ.putObj D (.deferred none)) := Keeps.of_grownBy (grownBy_putObj' VZ D _) fun k _ e => by injection e with e; exact e.symm
    have hno : ∀ {B : Nat} {t : TypeId} {n : Nat} {v : Value} {m : Nat} {cs : List Value}, VZ.ownsRow B t n v m cs → (VZ.putObj D (.deferred none)).ownsRow B t n v m cs := fun h => hkD.row h fun b hb e => by
      obtain ⟨o, h1, h2⟩ := rowCells h b hb
      rw [e, hK'] at h1; cases h1; cases h2
    have CK : ∀ {q : Addr} {x : Value}, VZ.cell? q = some x → (VZ.putObj D (.deferred none)).cell? q = some x := fun h => cell_kept h (grownBy_putObj' _ D (.deferred none)) (fun r e => by cases e; exact ⟨_, hK', rfl⟩)
    have e0 := CK g0
    have e1 := CK g1
    have e2 := CK g2
    have e3 := CK g3
    have e4 := CK g4
    have hbel : Below w.heap.size w (VZ.putObj D (.deferred none)) := ((HKW.out.trans' (Keeps.of_new HW2.out) fun i hi e => e).trans' hkz fun i hi e => by omega).trans' hkD (fun i hi e => by omega) |>.below (Nat.le_refl _) fun _ _ e => e.elim
    have hseen : SeenC (VZ.putObj D (.deferred none)) w.heap.size ⟨size, nums, shut, sends, recvs⟩ (.slice ak nums.length ck) (.slice a1 sends.length k1) (.slice a2 recvs.length k2) := by
      have hW2 : W.heap.size ≤ V2.heap.size := HW2.out.size
      have hV1s : W.heap.size ≤ V1.heap.size := HV1.out.size
      have r1 : V2.ownsRow W.heap.size 90 2 (.slice a1 sends.length k1) sends.length (cellsW sends) := (Keeps.of_new (S := fun _ => False) HV2.out).row HU1.out fun _ _ => id
      have r2 : V2.ownsRow W.heap.size 90 2 (.slice a2 recvs.length k2) recvs.length (cellsW recvs) := own_lower HU2.out hV1s
      have r0 : V2.ownsRow w9.heap.size 3 1 (.slice ak nums.length ck) nums.length (nums.map (Value.int .i64)) := (Keeps.of_new (S := fun _ => False) HW2.out).row HOK.out fun _ _ => id
      have off : ∀ {B : Nat} {t : TypeId} {n : Nat} {v : Value} {m : Nat} {cs : List Value}, w.heap.size < B → V2.ownsRow B t n v m cs → (VZ.putObj D (.deferred none)).ownsRow w.heap.size t n v m cs := fun hB h => hno (own_lower (hkz.row h fun b hb e => by have := (World.ownsRow.lt h b hb).1; omega) (by omega))
      exact ⟨off (by omega) r0, off (by omega) r1, off (by omega) r2⟩
    refine ⟨by simp, .inl ⟨_, _, rfl, run_takeDeferred hK', ?_⟩⟩
    exact ⟨.agg #[.int .i64 size, .slice ak nums.length ck, .bool shut, .slice a1 sends.length k1, .slice a2 recvs.length k2], by simp [results, Tryd.f44, go_sem, e0, e1, e2, e3, e4] <;> rfl, _, _, _, rfl, hseen, hbel⟩
  case stop =>
    rintro D c pre W _ _ h _
    exact h.elim
end Go.Proofs.YtppbmhpbbiigaaaDoor

namespace Go.Proofs.YtppbmhpbbiigaaaDoor
open Go.RowKit Go.Maps Pp

/-- What is seen of one channel, and where its rows lie. -/
structure Sn where
  c : Ch
  vn : Value
  u1 : Value
  u2 : Value
def cellsP (l : List Sn) : List Value := l.flatMap fun x => [.int .i64 (x.c.size : Int), x.vn, .bool x.c.shut, x.u1, x.u2]
theorem cellsP_append (a b : List Sn) : cellsP (a ++ b) = cellsP a ++ cellsP b := by simp [cellsP]
theorem cellsP_len (l : List Sn) : (cellsP l).length = l.length * 5 := by
  induction l with
  | nil => rfl
  | cons w r ih =>
    have : cellsP (w :: r) = .int .i64 (w.c.size : Int) :: w.vn :: .bool w.c.shut :: w.u1 :: w.u2 :: cellsP r := rfl
    rw [this]; simp only [List.length_cons, ih]; omega
/-- All that was looked at. -/
structure Looked (w : World) (B : Nat) (v : Value) (L : List Sn) : Prop where
  row : w.ownsRow B 101 5 v L.length (cellsP L)
  seen : ∀ x ∈ L, SeenC w B x.c x.vn x.u1 x.u2
theorem own_apart {w : World} {B B' : Nat} {t t' : TypeId} {n n' : Nat} {v v' : Value} {m m' : Nat} {cs cs' : List Value} (h : w.ownsRow B t n v m cs) (h' : w.ownsRow B' t' n' v' m' cs') (ht : t ≠ t') : ∀ b, v.ownBlock = some b → ¬ v'.ownBlock = some b := fun b hb hb' => by
  rcases h.2 with ⟨rfl, _⟩ | ⟨g, cap, cur, rfl, _, hg, _⟩
  · cases hb
  · rcases h'.2 with ⟨rfl, _⟩ | ⟨g', cap', cur', rfl, _, hg', _⟩
    · cases hb'
    · cases hb
      have e : g' = g := Option.some.inj hb'
      subst e
      rw [hg] at hg'
      injection hg' with hg'
      injection hg' with _ e2
      exact ht e2
theorem SeenC.keeps {S : Nat → Prop} {w w' : World} {B : Nat} {c : Ch} {vn u1 u2 : Value} (h : SeenC w B c vn u1 u2) (hk : Keeps S w w') (h0 : ∀ b, vn.ownBlock = some b → ¬ S b) (h1 : ∀ b, u1.ownBlock = some b → ¬ S b) (h2 : ∀ b, u2.ownBlock = some b → ¬ S b) : SeenC w' B c vn u1 u2 :=
  ⟨h.nums.keeps hk h0, hk.row h.sends h1, hk.row h.recvs h2⟩
theorem SeenC.mono {w : World} {B B' : Nat} {c : Ch} {vn u1 u2 : Value} (h : SeenC w B c vn u1 u2) (hB : B' ≤ B) : SeenC w B' c vn u1 u2 := ⟨own_lower h.nums hB, own_lower h.sends hB, own_lower h.recvs hB⟩
theorem own_slice {w : World} {B : Nat} {t : TypeId} {n : Nat} {v : Value} {m : Nat} {cs : List Value} (h : w.ownsRow B t n v m cs) : ∃ ao cap, v = .slice ao m cap := by
  rcases h.2 with ⟨rfl, h0⟩ | ⟨g, cap, cur, rfl, _⟩
  · exact ⟨none, 0, by rw [h0]⟩
  · exact ⟨_, _, rfl⟩
theorem Looked.new {w w' : World} {B : Nat} {v : Value} {L : List Sn} (h : Looked w B v L) (hb : Below w.heap.size w w') : Looked w' B v L :=
  ⟨(Keeps.of_new (S := fun _ => False) hb).row h.row fun _ _ => id, fun x hx => (h.seen x hx).keeps (Keeps.of_new (S := fun _ => False) hb) (fun _ _ => id) (fun _ _ => id) fun _ _ => id⟩
/-- An append of another row leaves it. -/
theorem SeenC.far {w w' : World} {B B' : Nat} {c : Ch} {vn u1 u2 v : Value} {m : Nat} {cs : List Value} (h : SeenC w B c vn u1 u2) (hr : w.ownsRow B' 101 5 v m cs) (hk : Keeps (fun b => v.ownBlock = some b) w w') : SeenC w' B c vn u1 u2 :=
  h.keeps hk (own_apart h.nums hr (by decide)) (own_apart h.sends hr (by decide)) (own_apart h.recvs hr (by decide))
theorem info_pipe : (Tryd.prog.info? 101).map (fun i => (i.zero, i.size, i.bytes)) = some (some (.agg #[.int .i64 0, .slice none 0 0, .bool false, .slice none 0 0, .slice none 0 0]), 5, 88) := by kernel_rfl
/-- 'l = append(l, x)'. -/
theorem wpList_appendSn {ops : Array Oper} {rest : List Oper} {o : Oper} {a : Act} {Q : Exit → Act → World → Prop} (hgd : o.guard = none) (s x : Operand)
    (ho : o.op = .call { callee := .builtin .append, args := #[s, x], argTypes := #[57, 57] }) (w : World) (B : Nat) (v : Value) (L : List Sn) (c : Ch) {a0 a1 a2 : Option Addr} {n0 n1 n2 k0 k1 k2 : Nat} (hown : Looked w B v L) (hs : a.eval s = v) {b : Nat} (hb : b = w.heap.size)
    (hseen : SeenC w B c (.slice a0 n0 k0) (.slice a1 n1 k1) (.slice a2 n2 k2))
    (hx : a.eval x = .slice (some ⟨b, 0, none⟩) 1 1) (hl : L.length ≤ 1000000) (hB : B ≤ w.heap.size)
    (h : ∀ ao' cap' w', Looked w' B (.slice ao' (L.length + 1) cap') (L ++ [Sn.mk c (.slice a0 n0 k0) (.slice a1 n1 k1) (.slice a2 n2 k2)]) → Keeps (fun b => v.ownBlock = some b) w w' →
      wpList Tryd.prog ops Q rest (a.put o.dst (.slice ao' (L.length + 1) cap')) w') : wpList Tryd.prog ops Q (o :: rest) a (w.alloc (.cells #[.int .i64 (c.size : Int), .slice a0 n0 k0, .bool c.shut, .slice a1 n1 k1, .slice a2 n2 k2] 101)) := by
  subst hb
  obtain ⟨i0, hi, hz0, hz1, hz2⟩ := tinfoP info_pipe
  have hnew : ∀ j u, [Value.int .i64 (c.size : Int), .slice a0 n0 k0, .bool c.shut, .slice a1 n1 k1, .slice a2 n2 k2][j]? = some u → (w.alloc (.cells #[.int .i64 (c.size : Int), .slice a0 n0 k0, .bool c.shut, .slice a1 n1 k1, .slice a2 n2 k2] 101)).cell? ((⟨w.heap.size, 0, none⟩ : Addr).add j) = some u := fun j u hu => by
    rw [addr_addP, World.cell?_alloc_at _ _ _ _ rfl]
    rcases j with _ | _ | _ | _ | _ | j
    · exact hu
    · exact hu
    · exact hu
    · exact hu
    · exact hu
    · simp at hu
  refine wpList_append_own_at _ hgd s x 57 ho B 101 i0 _ 5 88 Tryd.underlying57 hi hz0 hz1 hz2 rfl (by decide) v L.length (cellsP L) hs (World.ownsRow.alloc hown.row _) ⟨w.heap.size, 0, none⟩ 1 1 [.int .i64 (c.size : Int), .slice a0 n0 k0, .bool c.shut, .slice a1 n1 k1, .slice a2 n2 k2] hx rfl
    hnew (fun u hu => by simp at hu; rcases hu with rfl | rfl | rfl | rfl | rfl <;> rfl) (by unfold maxLen; omega) (by omega) (by simp; omega) ?_
  intro v' w' h1 h2 _ h4
  have hk := keeps_append h2 (S := fun b => v.ownBlock = some b) fun k e => e
  have hO : w'.ownsRow B 101 5 v' (L ++ [Sn.mk c (.slice a0 n0 k0) (.slice a1 n1 k1) (.slice a2 n2 k2)]).length (cellsP (L ++ [Sn.mk c (.slice a0 n0 k0) (.slice a1 n1 k1) (.slice a2 n2 k2)])) := by
    rw [cellsP_append, List.length_append]
    exact h1
  have hsl : ∃ ao' cap', v' = .slice ao' (L.length + 1) cap' := by
    rcases hO.2 with ⟨_, h0⟩ | ⟨g, cap, cur, rfl, _⟩
    · simp at h0
    · exact ⟨some ⟨g, 0, none⟩, cap, by rw [List.length_append]; rfl⟩
  obtain ⟨ao', cap', rfl⟩ := hsl
  refine h _ _ _ ⟨hO, fun y hy => ?_⟩ hk
  rcases List.mem_append.1 hy with hy | hy
  · exact (hown.seen y hy).far hown.row hk
  · rw [List.mem_singleton.1 hy]
    exact hseen.far hown.row hk

set_option maxRecDepth 100000 in
set_option maxHeartbeats 3200000 in
theorem look_any {w : World} {ρ : Nat → Role} {pb N : Nat} {s : St} (h : Pipes w ρ pb N s) (hN : N ≤ 1000000) : Calls Tryd.prog 18 #[.pointer (some ⟨pb, 0, none⟩)] w fun e w' =>
    ∃ ao cap, e = .returned (.slice ao s.chs.length cap) ∧ ∃ L, L.map Sn.c = s.chs ∧ Looked w' w.heap.size (.slice ao s.chs.length cap) L ∧ Below w.heap.size w w' := by
  obtain ⟨ok, vch, ptr, mb, D, h⟩ := h
  obtain ⟨av, capv, rfl, h1, h2, h3⟩ := ptr_row h.row
  have HH := Lib.hid h
  have HO := Lib.hid ok
  have H3 := Lib.hid h3
  have HL := Lib.hid h.len
  have hpl : ptr.length ≤ 32 := by have := h.len; have := h.many; omega
  have c0 := h.c0
  clear h ok h3
  go_enter Tryd.func18, Tryd.ntmps18
  go_wp2_with fail
  go_loopw [3, 11] (fun l i W => ∃ (k : Nat) (a : Option Addr) (cap : Nat) (L : List Sn), k ≤ ptr.length ∧ i = .int .i64 k ∧ l = .slice a k cap ∧ L.map Sn.c = s.chs.take k ∧ Looked W w.heap.size (.slice a k cap) L ∧ Below w.heap.size w W) (fun _ i _ => ptr.length - (intOf i).toNat)
  case atStart => exact ⟨0, none, 0, [], Nat.zero_le _, rfl, rfl, rfl, ⟨World.ownsRow_nil _ _ _ _, fun _ h => by cases h⟩, Below.refl _ _⟩
  case round =>
    obtain ⟨k, a, cap, L, hk, rfl, rfl, hm, hlk, hb⟩ := hrel
    have HM := Lib.hid hm
    have HLK := Lib.hid hlk
    have HB := Lib.hid hb
    have hLl : Hid (L.length = k) := Lib.hid (by
      have := congrArg List.length HM.out
      rw [List.length_map, List.length_take] at this
      have := HL.out
      omega)
    clear hm hlk hb
    by_cases hlt : k < ptr.length
    · obtain ⟨g, rfl, hg⟩ := H3.out (by omega)
      obtain ⟨cb, hcb⟩ : ∃ cb, ptr[k]? = some cb := ⟨_, List.getElem?_eq_getElem hlt⟩
      obtain ⟨c, hc⟩ : ∃ c, s.chs[k]? = some c := ⟨_, List.getElem?_eq_getElem (by have := HL.out; omega)⟩
      have hgw := hg k cb hcb
      have hgW : wr.cell? ⟨g, k, none⟩ = some (.pointer (some ⟨cb, 0, none⟩)) := (HB.out.cell (p := ⟨g, k, none⟩) (block_lt_of_cell hgw)).trans hgw
      obtain ⟨rb, sb, v1, v2, hx⟩ := HH.out.chs k cb c hcb hc
      have hxr := HH.out.rows k c hc
      have hcap := HO.out.caps k c hc
      have hcl := lookC_any wr (hx.keeps (Keeps.of_new (S := fun _ => False) HB.out) fun _ _ _ => id) (by omega) (by omega) (by omega)
      have HC := Lib.hid hc
      have hki : (0 : Int) ≤ (k : Int) ∧ (k : Int) < (ptr.length : Int) := by omega
      have hk32 : k ≤ 32 := by omega
      clear hgw hx hxr hcap hg hcb hc
      go_wp2_with fail
      refine hcl.mono ?_
      rintro e w2 ⟨vn, u1, u2, rfl, hs2, hb2⟩
      obtain ⟨a0, k0, rfl⟩ := OwnI.slice hs2.nums
      obtain ⟨a1, k1, rfl⟩ := own_slice hs2.sends
      obtain ⟨a2, k2, rfl⟩ := own_slice hs2.recvs
      have HS2 := Lib.hid (hs2.mono HB.out.size)
      have HB2 := Lib.hid (bel_step HB.out hb2)
      have HL2 := Lib.hid (HLK.out.new hb2)
      have hsz2 : w.heap.size ≤ w2.heap.size := HB2.out.size
      clear hs2 hb2 hcl
      have hLl32 : L.length ≤ 1000000 := by have := hLl.out; omega
      go_wp2_with (at_builtin; refine wpList_appendSn rfl _ _ rfl _ w.heap.size _ L c HL2.out rfl rfl HS2.out rfl hLl32 hsz2 ?_)
      intro a3 k3 w3 h3 hk3
      rw [hLl.out] at h3 ⊢
      have HL3 := Lib.hid h3
      have HB3 : Hid (Below w.heap.size w w3) := Lib.hid (HB2.out.trans (hk3.below hsz2 fun b _ hb => (World.ownsRow.lt HL2.out.row b hb).1))
      clear h3 hk3
      go_wp2_with fail
      go_roundw
      case rel => exact ⟨k + 1, _, _, _, by omega, by go_num, rfl, by rw [List.map_append, HM.out, List.take_add_one, HC.out]; rfl, HL3.out, HB3.out⟩
      case measure => simp [intOf]; omega
    · obtain rfl : k = ptr.length := by omega
      have hkk : ¬ (ptr.length : Int) < (ptr.length : Int) := by omega
      go_wp2_with fail
      go_ret
      have hm := HM.out
      have hl := HL.out
      rw [List.take_of_length_le (by omega)] at hm
      rw [← hl]
      exact ⟨a, cap, rfl, L, hm, HLK.out, HB.out⟩
end Go.Proofs.YtppbmhpbbiigaaaDoor
