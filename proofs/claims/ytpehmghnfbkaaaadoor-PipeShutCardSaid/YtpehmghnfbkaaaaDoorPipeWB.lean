/-
  The walk of package pipe's free: which talks can be done now.
-/
import Derived.Test.YtpehmghnfbkaaaaDoorPipeWA
import Derived.OwnWalk
namespace Go.Proofs.YtpehmghnfbkaaaaDoor
open Go.RowKit Go.Maps Pp

/-- What may stand where nothing is wrong. -/
def Fine (m : Nat) (l : List Tk) : Prop := ∀ x ∈ l, x.what = 40 ∨ x.good m
theorem other_fine {m : Nat} {l : List Tk} {k : Nat} {o : Int} (h : (Pp.other m l k o).2 = 0) : Fine m l := by
  induction l generalizing k o with
  | nil => intro x hx; cases hx
  | cons t l ih =>
    unfold Pp.other at h
    intro x hx
    by_cases e : t.what = 40
    · rw [if_pos e] at h
      split at h
      · exact absurd h (by decide)
      · rcases List.mem_cons.1 hx with rfl | hx
        · exact Or.inl e
        · exact ih h x hx
    · rw [if_neg e] at h
      split at h
      · exact absurd h (by decide)
      · next e2 =>
        split at h
        · exact absurd h (by decide)
        · next e3 =>
          rcases List.mem_cons.1 hx with rfl | hx
          · refine Or.inr ⟨?_, ?_⟩
            · unfold may at e3; simp at e3; exact e3
            · omega
          · exact ih h x hx
theorem frees_le (chs : List Ch) : ∀ (l : List Tk) (k : Nat), (frees chs l k).length ≤ l.length
  | [], _ => Nat.le_refl _
  | t :: l, k => by
    have := frees_le chs l (k + 1)
    unfold frees
    split <;> simp <;> omega
/-- The places so far. -/
structure FreeJ (w wr : World) (chs : List Ch) (l : List Tk) (v : Value) (ks : List Nat) (k : Nat) : Prop where
  own : OwnI wr w.heap.size v (ks.map fun (j : Nat) => (j : Int))
  keep : Keeps (fun _ => False) w wr
  rest : frees chs l 0 = ks ++ frees chs (l.drop k) k
  len : ks.length ≤ k

set_option maxRecDepth 100000 in
set_option maxHeartbeats 6400000 in
theorem free_any {w : World} {ρ : Nat → Role} {pb : Nat} {vch : Value} {ptr : List Nat} {mb : Option Nat} {D : DataW Value} {N M : Nat} {s : St} (h : PipesAt w ρ pb vch ptr mb D N M s) {v : Value} {l : List Tk} (hl : TalksAt w v l) (h6 : l.length ≤ 100000) (hf : Fine s.chs.length l) :
    Calls Tryd.prog 34 #[.pointer (some ⟨pb, 0, none⟩), v] w fun e w' => ∃ u, e = .returned u ∧ OwnI w' w.heap.size u ((frees s.chs l 0).map fun (j : Nat) => (j : Int)) ∧ Keeps (fun _ => False) w w' := by
  obtain ⟨ao, cap, rfl, hc1, hc2⟩ := hl.slice
  have HH := Lib.hid h
  have HT := Lib.hid hl
  have HF := Lib.hid hf
  have HJ0 : Hid (FreeJ w w s.chs l (.slice none 0 0) [] 0) := Lib.hid ⟨ownI_nil _ _, Keeps.refl _ _, rfl, Nat.le_refl _⟩
  clear h hl hf
  go_enter Tryd.func34, Tryd.ntmps34
  go_wp2_with fail
  go_loopw [5, 11] (fun fv kv wr => ∃ (k : Nat) (ks : List Nat), k ≤ l.length ∧ kv = .int .i64 k ∧ FreeJ w wr s.chs l fv ks k) (fun _ kv _ => l.length - (intOf kv).toNat)
  case atStart => exact ⟨0, [], Nat.zero_le _, rfl, HJ0.out⟩
  case round =>
    obtain ⟨k, ks, hk, rfl, hJ⟩ := hrel
    obtain ⟨a5, c5, hv5⟩ := hJ.own.slice
    rw [List.length_map] at hv5
    subst hv5
    have HJ := Lib.hid hJ
    clear hJ HJ0
    by_cases hkl : k < l.length
    · obtain ⟨x, hx⟩ : ∃ x, l[k]? = some x := ⟨_, List.getElem?_eq_getElem hkl⟩
      have hdrop : l.drop k = x :: l.drop (k + 1) := by rw [List.drop_eq_getElem_cons hkl, (List.getElem?_eq_some_iff.1 hx).2]
      have hgx := HF.out x (List.mem_of_getElem? hx)
      obtain ⟨tb, to, rfl, htb, c1, c2, c3⟩ := (HT.out.keeps HJ.out.keep fun _ _ e => e).at hx
      have hki : (0 : Int) ≤ (k : Int) ∧ (k : Int) < (l.length : Int) := by omega
      obtain ⟨xw, xc, xn⟩ := x
      simp only at c1 c2 c3
      have hr := HJ.out.rest
      rw [hdrop, frees] at hr
      have hka : Keeps (fun _ => False) wr (wr.alloc (.cells #[.int .i64 xw, .int .i64 xc, .int .i64 xn] 85)) := (Keeps.refl _ wr).alloc _
      have HKA := Lib.hid (HJ.out.keep.trans hka)
      have HP1 := Lib.hid (HH.out.keeps (HJ.out.keep.trans hka) fun _ _ e => e.elim)
      have HO1 := Lib.hid (HJ.out.own.keeps hka fun _ _ e => e)
      have hlen := HJ.out.len
      clear hx hdrop hka
      -- one that can't be done
      have HNO : Hid (isFree s.chs ⟨xw, xc, xn⟩ = false → ∀ n, FreeJ w ((wr.alloc (.cells #[.int .i64 xw, .int .i64 xc, .int .i64 xn] 85)).drewN n) s.chs l (.slice a5 ks.length c5) ks (k + 1)) := Lib.hid fun e n =>
        ⟨HO1.out.keeps (keeps_drewN (Keeps.refl (fun _ => False) _) n) fun _ _ e => e, keeps_drewN HKA.out n, by rw [hr, e]; rfl, by omega⟩
      have HYES : Hid (isFree s.chs ⟨xw, xc, xn⟩ = true → frees s.chs l 0 = (ks ++ [k]) ++ frees s.chs (l.drop (k + 1)) (k + 1)) := Lib.hid fun e => by rw [hr, e]; simp
      clear hr
      by_cases h40 : xw = 40
      · subst h40
        have HN := Lib.hid (HNO.out (by simp [isFree]) 0)
        clear HNO HYES
        go_wp2_with fail
        go_roundw
        case rel => exact ⟨k + 1, ks, by omega, by go_num, HN.out⟩
        case measure => simp [intOf]; omega
      · have e40 : (xw == 40) = false := by rw [beq_eq_false_iff_ne]; exact h40
        have hgood : Tk.good s.chs.length ⟨xw, xc, xn⟩ := hgx.resolve_left h40
        have hmay : may s.chs.length xc = true := by unfold may; simp [hgood.1.1, hgood.1.2]
        have HMAY := Lib.hid hmay
        rcases HP1.out.chan hmay with ⟨h0, hn0, hc0⟩ | ⟨kc, cb, rb, sb, v1, v2, c, hxc, hcg, hcp, hcp2, hchn, hch⟩
        · have HN0 := Lib.hid hn0
          have HN := Lib.hid (HNO.out (by unfold isFree; rw [hc0]; simp) 0)
          clear HNO HYES hn0 hc0 hmay hgx hgood h0
          go_wp2_with fail
          refine (channel_any HP1.out xc HMAY.out).mono ?_
          rintro e w6 ⟨rfl, rfl⟩
          rw [HN0.out]
          go_wp2_with fail
          go_roundw
          case rel => exact ⟨k + 1, ks, by omega, by go_num, HN.out⟩
          case measure => simp [intOf]; omega
        · have HCP := Lib.hid hcp2
          have HCF := Lib.hid (cfree_any hch xw)
          have hfr : isFree s.chs ⟨xw, xc, xn⟩ = c.free xw := by unfold isFree; rw [hchn]; simp [h40]
          rw [hfr] at HNO HYES
          clear hcp2 hmay hgx hgood hch hchn hfr hcg hcp hxc
          cases hfx : c.free xw with
          | false =>
            rw [hfx] at HCF
            have HN := Lib.hid (HNO.out hfx)
            clear hfx HNO HYES
            go_wp2_with fail
            refine (channel_any HP1.out xc HMAY.out).mono ?_
            rintro e w6 ⟨rfl, rfl⟩
            rw [HCP.out]
            go_wp2_with fail
            refine HCF.out.mono ?_
            rintro e w6 ⟨rfl, m, rfl⟩
            go_wp2_with fail
            go_roundw
            case rel => exact ⟨k + 1, ks, by omega, by go_num, HN.out m⟩
            case measure => simp [intOf]; omega
          | true =>
            rw [hfx] at HCF
            have HY := Lib.hid (HYES.out hfx)
            have HO2 : Hid (∀ m, OwnI ((wr.alloc (.cells #[.int .i64 xw, .int .i64 xc, .int .i64 xn] 85)).drewN m) w.heap.size (.slice a5 ks.length c5) (ks.map fun (j : Nat) => (j : Int))) := Lib.hid fun m => HO1.out.keeps (keeps_drewN (Keeps.refl (fun _ => False) _) m) fun _ _ e => e
            have HK2 : Hid (∀ m, Keeps (fun _ => False) w ((wr.alloc (.cells #[.int .i64 xw, .int .i64 xc, .int .i64 xn] 85)).drewN m)) := Lib.hid fun m => keeps_drewN HKA.out m
            clear hfx HNO HYES
            go_wp2_with fail
            refine (channel_any HP1.out xc HMAY.out).mono ?_
            rintro e w6 ⟨rfl, rfl⟩
            rw [HCP.out]
            go_wp2_with fail
            refine HCF.out.mono ?_
            rintro e w6 ⟨rfl, m, rfl⟩
            have HO3 := Lib.hid (HO2.out m)
            have HK3 := Lib.hid (HK2.out m)
            clear HO2 HK2
            have hz : w.heap.size ≤ ((wr.alloc (.cells #[.int .i64 xw, .int .i64 xc, .int .i64 xn] 85)).drewN m).heap.size := HK3.out.size
            generalize (wr.alloc (.cells #[.int .i64 xw, .int .i64 xc, .int .i64 xn] 85)).drewN m = w5 at *
            go_wp2_with (at_builtin; go_loud (refine wpList_appendI rfl _ _ rfl _ w.heap.size _ (ks.map fun (j : Nat) => (j : Int)) (k : Int) HO3.out rfl rfl (by simp; omega) hz ?_; intro a6 c6 w6 hO6 hK6 hN6; have HO6 := Lib.hid hO6; have HK6 := Lib.hid hK6; clear hO6 hK6 hN6))
            go_roundw
            case rel =>
              refine ⟨k + 1, ks ++ [k], by omega, by go_num, ?_, ?_, HY.out, by simp; omega⟩
              · have := HO6.out
                rw [List.length_map] at this
                rw [List.map_append]
                exact this
              · exact HK3.out.trans' HK6.out fun g hg e => by
                  have := HO3.out.le g e
                  omega
            case measure => simp [intOf]; omega
    · obtain rfl : k = l.length := by omega
      have hr := HJ.out.rest
      rw [List.drop_length, frees, List.append_nil] at hr
      have HR := Lib.hid hr
      clear hr
      go_wp2_with fail
      go_ret
      exact ⟨_, rfl, by rw [HR.out]; exact HJ.out.own, HJ.out.keep⟩
end Go.Proofs.YtpehmghnfbkaaaaDoor
