/-
  The walks of slices' stable sort, first part: the comparison, the exchange of two ranges.
-/
import Derived.Test.YtonpbbflloljgaaStabM
import Derived.Test.YtonpbbflloljgaaBox
import Derived.Deep.RegionWith
import Derived.Deep.QuietTactic
import Derived.BigQuiet
import Derived.BigRegion
import Derived.Lib.Hide
namespace Go.Proofs.Ytonpbbflloljgaa
open Go.RowKit

/-- The row that is sorted (block bl, N numbers), the keys by which (l, at lb from lo on, in the variable at bb). -/
structure Dat (bl N bb lb lo c n : Nat) (key : Nat → Int) (f : Nat → Nat) (wr : World) : Prop where
  row : ∀ k, k < N → wr.cell? ⟨bl, k, none⟩ = some (.int .i64 (f k : Int)) ∧ wr.frozen? ⟨bl, k, none⟩ = false
  box : wr.cell? ⟨bb, 0, none⟩ = some (.slice (some ⟨lb, lo, none⟩) n c)
  keys : ∀ i, i < n → wr.cell? ⟨lb, lo + i, none⟩ = some (.int .i64 (key i))
  ids : ∀ k, k < N → f k < n
  nb : bb ≠ bl
  nl : lb ≠ bl
abbrev Ro (bl : Nat) : Nat → Prop := fun k => k = bl
theorem Dat.drewN {bl N bb lb lo c n : Nat} {key : Nat → Int} {f : Nat → Nat} {wr : World} (h : Dat bl N bb lb lo c n key f wr) (m : Nat) : Dat bl N bb lb lo c n key f (wr.drewN m) := ⟨h.row, h.box, h.keys, h.ids, h.nb, h.nl⟩
theorem Dat.keeps {bl N bb lb lo c n : Nat} {key : Nat → Int} {f : Nat → Nat} {wr w' : World} (h : Dat bl N bb lb lo c n key f wr) (hk : Keeps (fun _ => False) wr w') : Dat bl N bb lb lo c n key f w' :=
  ⟨fun k hk' => ⟨hk.cell_of (h.row k hk').1 id, by rw [hk.frozen (p := ⟨bl, k, none⟩) (block_lt_of_cell (h.row k hk').1) id]; exact (h.row k hk').2⟩, hk.cell_of h.box id, fun i hi => hk.cell_of (h.keys i hi) id, h.ids, h.nb, h.nl⟩
theorem Dat.set {bl N bb lb lo c n : Nat} {key : Nat → Int} {f : Nat → Nat} {wr : World} (h : Dat bl N bb lb lo c n key f wr) (i v : Nat) (hi : i < N) (hv : v < n) :
    Dat bl N bb lb lo c n key (fun k => if k = i then v else f k) (wr.setCell ⟨bl, i, none⟩ (.int .i64 (v : Int))) := by
  refine ⟨fun k hk => ⟨?_, by rw [World.frozen?_setCell]; exact (h.row k hk).2⟩, ?_, fun k hk => ?_, fun k hk => ?_, h.nb, h.nl⟩
  · by_cases e : k = i
    · subst e; rw [if_pos rfl]; exact cell_set_same (h.row k hk).1
    · rw [if_neg e, World.cell?_setCell_other _ _ _ _ (by intro q; exact e (congrArg Addr.off q).symm)]; exact (h.row k hk).1
  · rw [World.cell?_setCell_other _ _ _ _ (by intro q; exact h.nb (congrArg Addr.block q).symm)]; exact h.box
  · rw [World.cell?_setCell_other _ _ _ _ (by intro q; exact h.nl (congrArg Addr.block q).symm)]; exact h.keys k hk
  · show (if k = i then v else f k) < n
    split
    · exact hv
    · exact h.ids k hk
theorem Dat.congr {bl N bb lb lo c n : Nat} {key : Nat → Int} {f g : Nat → Nat} {wr : World} (h : Dat bl N bb lb lo c n key f wr) (e : f = g) : Dat bl N bb lb lo c n key g wr := e ▸ h
/-- An exchange, stored in either order. -/
theorem Dat.swap {bl N bb lb lo c n : Nat} {key : Nat → Int} {f : Nat → Nat} {wr : World} (h : Dat bl N bb lb lo c n key f wr) (i j : Nat) (hi : i < N) (hj : j < N) :
    Dat bl N bb lb lo c n key (St.swp f i j) ((wr.setCell ⟨bl, j, none⟩ (.int .i64 (f i : Int))).setCell ⟨bl, i, none⟩ (.int .i64 (f j : Int))) :=
  ((h.set j (f i) hj (h.ids i hi)).set i (f j) hi (h.ids j hj)).congr rfl
theorem Dat.swap' {bl N bb lb lo c n : Nat} {key : Nat → Int} {f : Nat → Nat} {wr : World} (h : Dat bl N bb lb lo c n key f wr) (i j : Nat) (hi : i < N) (hj : j < N) (hne : i ≠ j) :
    Dat bl N bb lb lo c n key (St.swp f i j) ((wr.setCell ⟨bl, i, none⟩ (.int .i64 (f j : Int))).setCell ⟨bl, j, none⟩ (.int .i64 (f i : Int))) :=
  ((h.set i (f j) hi (h.ids j hj)).set j (f i) hj (h.ids i hi)).congr (by
    funext k; unfold St.swp
    by_cases e : k = j
    · rw [if_pos e, if_neg (by omega), if_pos e]
    · rw [if_neg e]; by_cases e' : k = i
      · rw [if_pos e', if_pos e']
      · rw [if_neg e', if_neg e', if_neg e])

/-- What the comparison tells. -/
def cmpV (a b : Int) : Int := if a < b then -1 else if b < a then 1 else 0
theorem cmpV_neg (a b : Int) : decide (cmpV a b < 0) = decide (a < b) := by
  unfold cmpV
  by_cases h : a < b
  · rw [if_pos h, decide_eq_true h]; rfl
  · rw [if_neg h, decide_eq_false h]; split <;> rfl

set_option maxHeartbeats 800000 in
theorem cmp_any (bb lb lo c n x y : Nat) (p q : Int) (w : World) (hx : x < n) (hy : y < n) (hbox : w.cell? ⟨bb, 0, none⟩ = some (.slice (some ⟨lb, lo, none⟩) n c)) (hp : w.cell? ⟨lb, lo + x, none⟩ = some (.int .i64 p)) (hq : w.cell? ⟨lb, lo + y, none⟩ = some (.int .i64 q)) :
    Calls Try.prog 9 #[.int .i64 (x : Int), .int .i64 (y : Int), .pointer (some ⟨bb, 0, none⟩)] w fun e w' => e = .returned (.int .i64 (cmpV p q)) ∧ ∃ m, w' = w.drewN m := by
  have h1 : (x : Int) < (n : Int) := by omega
  have h2 : (y : Int) < (n : Int) := by omega
  have h3 : 0 ≤ (x : Int) := by omega
  have h4 : 0 ≤ (y : Int) := by omega
  by_cases hlt : p < q
  · rw [show cmpV p q = -1 by unfold cmpV; rw [if_pos hlt]]
    go_enter Try.func9, Try.ntmps9
    go_wp2_with fail
    go_quiet (fail)
    go_wp2_with fail
    go_ret
    exact ⟨rfl, _, rfl⟩
  · by_cases hgt : q < p
    · rw [show cmpV p q = 1 by unfold cmpV; rw [if_neg hlt, if_pos hgt]]
      have t1 : decide (p < q) = false := decide_eq_false hlt
      clear hlt
      go_enter Try.func9, Try.ntmps9
      go_wp2_with fail
      go_quiet (fail)
      go_wp2_with fail
      go_quiet (fail)
      go_wp2_with fail
      go_ret
      exact ⟨rfl, _, by rw [World.drewN_drewN]⟩
    · rw [show cmpV p q = 0 by unfold cmpV; rw [if_neg hlt, if_neg hgt]]
      have t1 : decide (p < q) = false := decide_eq_false hlt
      have t2 : decide (q < p) = false := decide_eq_false hgt
      clear hlt hgt
      go_enter Try.func9, Try.ntmps9
      go_wp2_with fail
      go_quiet (fail)
      go_wp2_with fail
      go_quiet (fail)
      go_wp2_with fail
      go_ret
      exact ⟨rfl, _, by rw [World.drewN_drewN]⟩

/-- What a call makes of the row: another order of it, and nothing else is written. -/
def Made (bl N bb lb lo c n : Nat) (key : Nat → Int) (w : World) (g : Nat → Nat) (e : Ending) (w' : World) : Prop :=
  e = .returned (.tuple #[]) ∧ Dat bl N bb lb lo c n key g w' ∧ Keeps (Ro bl) w w'
theorem keeps_two (bl i j : Nat) (u v : Value) (w : World) : Keeps (Ro bl) w ((w.setCell ⟨bl, i, none⟩ u).setCell ⟨bl, j, none⟩ v) :=
  ((Keeps.refl (Ro bl) w).setCell (p := ⟨bl, i, none⟩) (Or.inl rfl) u).setCell (p := ⟨bl, j, none⟩) (Or.inl rfl) v

set_option maxHeartbeats 1600000 in
set_option maxRecDepth 100000 in
theorem swapRange_any (bl N cap bb lb lo c n : Nat) (key : Nat → Int) (f : Nat → Nat) (a b k : Nat) (vc : Value) (w : World) (hN : N ≤ 200) (hd : Dat bl N bb lb lo c n key f w) (hab : a + k ≤ b) (hb : b + k ≤ N) :
    Calls Try.prog 42 #[.slice (some ⟨bl, 0, none⟩) N cap, .int .i64 (a : Int), .int .i64 (b : Int), .int .i64 (k : Int), vc] w (Made bl N bb lb lo c n key w (St.swr f a b k)) := by
  have HD := Lib.hid hd
  clear hd
  go_enter Try.func42, Try.ntmps42
  go_wp2_with fail
  go_loopw [10] (fun i wr => ∃ t : Nat, t ≤ k ∧ i = .int .i64 (t : Int) ∧ Dat bl N bb lb lo c n key (St.swr f a b t) wr ∧ Keeps (Ro bl) w wr) (fun i _ => k - (intOf i).toNat)
  case atStart => exact ⟨0, Nat.zero_le _, rfl, by rw [St.swr_0]; exact HD.out, Keeps.refl _ _⟩
  case round =>
    obtain ⟨t, ht, rfl, hD, hK⟩ := hrel
    by_cases hlt : t < k
    · obtain ⟨c1, f1⟩ := hD.row (a + t) (by omega)
      obtain ⟨c2, f2⟩ := hD.row (b + t) (by omega)
      have hS := hD.swap (a + t) (b + t) (by omega) (by omega)
      have hS' := hD.swap' (a + t) (b + t) (by omega) (by omega) (by omega)
      rw [St.swr_swp f a b t (by omega)] at hS hS'
      generalize St.swr f a b t (a + t) = p at *
      generalize St.swr f a b t (b + t) = q at *
      have HS := Lib.hid hS
      have HS' := Lib.hid hS'
      have HK := Lib.hid hK
      have e1 : ((a + t : Nat) : Int) = (a : Int) + (t : Int) := by omega
      have e2 : ((b + t : Nat) : Int) = (b : Int) + (t : Int) := by omega
      have e3 : ((a : Int) + (t : Int)).toNat = a + t := by omega
      have e4 : ((b : Int) + (t : Int)).toNat = b + t := by omega
      have e5 : (a : Int) + (t : Int) < (N : Int) := by omega
      have e6 : (b : Int) + (t : Int) < (N : Int) := by omega
      have e7 : 0 ≤ (a : Int) + (t : Int) := by omega
      have e8 : 0 ≤ (b : Int) + (t : Int) := by omega
      clear hS hS' hD hK
      go_wp2_with fail
      go_region
      go_wp2_with fail
      go_roundw
      case rel => exact ⟨t + 1, by omega, by go_num, HS'.out.drewN 1, (HK.out.trans (keeps_two bl _ _ _ _ wr)).drew⟩
      case measure => simp [intOf]; omega
    · obtain rfl : t = k := by omega
      have HD2 := Lib.hid hD
      have HK := Lib.hid hK
      clear hD hK
      go_wp2_with fail
      go_end0
      exact ⟨rfl, HD2.out, HK.out⟩
end Go.Proofs.Ytonpbbflloljgaa
