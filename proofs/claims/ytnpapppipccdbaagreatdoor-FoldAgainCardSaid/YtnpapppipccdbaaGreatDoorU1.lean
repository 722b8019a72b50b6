/-
  Texts of one proof, in build order: ArithV ArithW Signs FoldM LexM2 Keeps LexW1 LexW2 LexW3 LexW4 LexW5 LexW6 LexW7 LexW8 LexW9 LexRow TreeAt TreeR1 TreeR2 TreeR3 TreeR4
-/
import Derived.Test.YtnpapppipccdbaaGreatDoorU0
import Derived.WalkKit
import Derived.Laws.BitsLemmas
import Derived.Test.YtnpapppipccdbaaGreatDoorRows
import Derived.WalkSpells
import Derived.WalkLawsBesides
import Derived.Lib.Hide
import Derived.Deep.QuietTactic
import Derived.BigQuiet
import Derived.Below
import Derived.Maps.Own
import Derived.Maps.OwnSet
import Derived.Maps.Range
import Derived.Test.YtnpapppipccdbaaGreatDoorUShelf
import Derived.IntWalk
import Derived.RegionTactic
import Derived.Laws.AppendOwn
import Derived.Deep.Draws
import Derived.Deep.RegionLaw
import Derived.Maps.AppendAt
import Derived.StillTailTactics
import Derived.Lib.ParseIntB
import Derived.Deep.MidRow
import Derived.Deep.DrawnRows
set_option maxRecDepth 100000
set_option maxHeartbeats 12800000
namespace Go.Proofs.YtnpapppipccdbaaGreatDoor
theorem zz {p : Prop} (h : p) : Go.RowKit.Hid p := h
end Go.Proofs.YtnpapppipccdbaaGreatDoor
namespace Go.Proofs.YtnpapppipccdbaaGreatDoor
open Go.RowKit
def lD (op b : Int) : Int :=
 if op = 4 \/ op = 5 then (if b = 0 then 3 else 0) else if op = 9 \/ op = 10 then (if b < 0 then 4 else 0) else 0
def rJ (c : Bool) : Int := if c then 1 else 0
def cT (op a b : Int) : Int :=
 if op = 1 then wrap64 (a + b) else
 if op = 2 then wrap64 (a - b) else
 if op = 3 then wrap64 (a * b) else
 if op = 4 then wrap64 (a.tdiv b) else
 if op = 5 then a.tmod b else
 if op = 6 then bits .and .i64 a b else
 if op = 7 then bits .or .i64 a b else
 if op = 8 then bits .xor .i64 a b else
 if op = 9 then wrap64 (a * 2 ^ min b.toNat 64) else
 if op = 10 then a / 2 ^ min b.toNat 64 else
 if op = 11 then rJ (decide (a < b)) else
 if op = 12 then rJ (decide (a <= b)) else
 if op = 13 then rJ (decide (b < a)) else
 if op = 14 then rJ (decide (b <= a)) else
 if op = 15 then rJ (a == b) else
 if op = 16 then rJ (a != b) else 0
def pF (op a b : Int) : Int := if lD op b = 0 then cT op a b else 0
def unV (op a : Int) : Int :=
 if op = 17 then wrap64 (-a) else
 if op = 18 then bits .xor .i64 (-1) a else
 if op = 19 then rJ (a == 0) else 0
theorem gQ (c : Bool) (w : World) :
  Calls Tryz.prog 133 #[.bool c] w fun e w' => e = .returned (.int .i64 (rJ c)) /\ w = w' := by
 cases c
 ·go_enter Tryz.func133, Tryz.ntmps133
  go_wp2_with fail
  go_ret
  exact ⟨rfl, rfl⟩
 ·go_enter Tryz.func133, Tryz.ntmps133
  go_wp2_with fail
  go_ret
  exact ⟨rfl, rfl⟩
theorem AQ (yk : IntKind) (x y : Int) (h : 64 <= y) : Op.shift .shl .i64 x yk y = pure (.int .i64 (wrap64 (x * 2 ^ 64))) := by
 have hm : min y.toNat IntKind.i64.bits = 64 := by simp [IntKind.bits]; omega
 unfold Op.shift wrap64
 rw [if_neg (by omega), hm]
 simp only [IntKind.wrap_i64]
theorem AR (yk : IntKind) (x y : Int) (h : 64 <= y) : Op.shift .shr .i64 x yk y = pure (.int .i64 (x / 2 ^ 64)) := by
 have hm : min y.toNat IntKind.i64.bits = 64 := by simp [IntKind.bits]; omega
 unfold Op.shift
 rw [if_neg (by omega), hm]
 simp only [Int.fdiv_eq_ediv_of_nonneg x (Int.pow_nonneg (by decide : (0:Int) <= 2) : (0:Int) <= 2 ^ 64)]
theorem sF (op b : Int) (w : World) :
  Calls Tryz.prog 82 #[.int .i64 op, .int .i64 b] w fun e w' => e = .returned (.int .i64 (lD op b)) /\ w = w' := by
 go_enter Tryz.func82, Tryz.ntmps82
 go_wp2_with fail
 all_goals
  go_ret
  refine ⟨nB ?_, rfl⟩
  simp only [beq_iff_eq, beq_eq_false_iff_ne, ne_eq] at *
  unfold lD
  (repeat' split) <;> omega
theorem x9 (op a b : Int) (h : op < 1 \/ 16 < op) : cT op a b = 0 := by
 unfold cT
 repeat rw [if_neg (by omega)]
theorem CC (op a b : Int) (w : World) (h : op < 1 \/ 16 < op) :
  Calls Tryz.prog 83 #[.int .i64 op, .int .i64 a, .int .i64 b] w fun e w' => e = .returned (.int .i64 (cT op a b)) /\ w = w' := by
 have hn : ∀ k : Int, 1 <= k -> k <= 16 -> (op == k) = false := fun k h1 h2 => by
  rw [beq_eq_false_iff_ne]; omega
 rw [x9 op a b h]
 have t1 := hn 1 (by decide) (by decide)
 have t2 := hn 2 (by decide) (by decide)
 have t3 := hn 3 (by decide) (by decide)
 have t4 := hn 4 (by decide) (by decide)
 have t5 := hn 5 (by decide) (by decide)
 have t6 := hn 6 (by decide) (by decide)
 have t7 := hn 7 (by decide) (by decide)
 have t8 := hn 8 (by decide) (by decide)
 have t9 := hn 9 (by decide) (by decide)
 have t10 := hn 10 (by decide) (by decide)
 have t11 := hn 11 (by decide) (by decide)
 have t12 := hn 12 (by decide) (by decide)
 have t13 := hn 13 (by decide) (by decide)
 have t14 := hn 14 (by decide) (by decide)
 have t15 := hn 15 (by decide) (by decide)
 have t16 := hn 16 (by decide) (by decide)
 clear hn
 go_enter Tryz.func83, Tryz.ntmps83
 go_wp2_with fail
 go_ret
 exact ⟨rfl, rfl⟩
theorem J9 (a b : Int) (w : World) :
  Calls Tryz.prog 83 #[.int .i64 1, .int .i64 a, .int .i64 b] w fun e w' => e = .returned (.int .i64 (cT 1 a b)) /\ w = w' := by
 go_enter Tryz.func83, Tryz.ntmps83
 go_wp2_with fail
 go_ret
 exact ⟨rfl, rfl⟩
theorem KA (a b : Int) (w : World) :
  Calls Tryz.prog 83 #[.int .i64 2, .int .i64 a, .int .i64 b] w fun e w' => e = .returned (.int .i64 (cT 2 a b)) /\ w = w' := by
 go_enter Tryz.func83, Tryz.ntmps83
 go_wp2_with fail
 go_ret
 exact ⟨rfl, rfl⟩
theorem KB (a b : Int) (w : World) :
  Calls Tryz.prog 83 #[.int .i64 3, .int .i64 a, .int .i64 b] w fun e w' => e = .returned (.int .i64 (cT 3 a b)) /\ w = w' := by
 go_enter Tryz.func83, Tryz.ntmps83
 go_wp2_with fail
 go_ret
 exact ⟨rfl, rfl⟩
theorem KC (a b : Int) (w : World) (hb : b ≠ 0) :
  Calls Tryz.prog 83 #[.int .i64 4, .int .i64 a, .int .i64 b] w fun e w' => e = .returned (.int .i64 (cT 4 a b)) /\ w = w' := by
 go_enter Tryz.func83, Tryz.ntmps83
 go_wp2_with fail
 go_ret
 exact ⟨rfl, rfl⟩
theorem KD (a b : Int) (w : World) (hb : b ≠ 0) :
  Calls Tryz.prog 83 #[.int .i64 5, .int .i64 a, .int .i64 b] w fun e w' => e = .returned (.int .i64 (cT 5 a b)) /\ w = w' := by
 go_enter Tryz.func83, Tryz.ntmps83
 go_wp2_with fail
 go_ret
 exact ⟨rfl, rfl⟩
theorem KE (a b : Int) (w : World) :
  Calls Tryz.prog 83 #[.int .i64 6, .int .i64 a, .int .i64 b] w fun e w' => e = .returned (.int .i64 (cT 6 a b)) /\ w = w' := by
 go_enter Tryz.func83, Tryz.ntmps83
 go_wp2_with fail
 go_ret
 exact ⟨rfl, rfl⟩
theorem KF (a b : Int) (w : World) :
  Calls Tryz.prog 83 #[.int .i64 7, .int .i64 a, .int .i64 b] w fun e w' => e = .returned (.int .i64 (cT 7 a b)) /\ w = w' := by
 go_enter Tryz.func83, Tryz.ntmps83
 go_wp2_with fail
 go_ret
 exact ⟨rfl, rfl⟩
theorem KG (a b : Int) (w : World) :
  Calls Tryz.prog 83 #[.int .i64 8, .int .i64 a, .int .i64 b] w fun e w' => e = .returned (.int .i64 (cT 8 a b)) /\ w = w' := by
 go_enter Tryz.func83, Tryz.ntmps83
 go_wp2_with fail
 go_ret
 exact ⟨rfl, rfl⟩
theorem IE (a b : Int) (w : World) :
  Calls Tryz.prog 83 #[.int .i64 11, .int .i64 a, .int .i64 b] w fun e w' => e = .returned (.int .i64 (cT 11 a b)) /\ w = w' := by
 go_enter Tryz.func83, Tryz.ntmps83
 go_wp2_with (go_at_call 133; refine (gQ _ _).mono ?_; rintro e w1 ⟨rfl, rfl⟩)
 go_ret
 exact ⟨rfl, rfl⟩
theorem IF (a b : Int) (w : World) :
  Calls Tryz.prog 83 #[.int .i64 12, .int .i64 a, .int .i64 b] w fun e w' => e = .returned (.int .i64 (cT 12 a b)) /\ w = w' := by
 go_enter Tryz.func83, Tryz.ntmps83
 go_wp2_with (go_at_call 133; refine (gQ _ _).mono ?_; rintro e w1 ⟨rfl, rfl⟩)
 go_ret
 exact ⟨rfl, rfl⟩
theorem IG (a b : Int) (w : World) :
  Calls Tryz.prog 83 #[.int .i64 13, .int .i64 a, .int .i64 b] w fun e w' => e = .returned (.int .i64 (cT 13 a b)) /\ w = w' := by
 go_enter Tryz.func83, Tryz.ntmps83
 go_wp2_with (go_at_call 133; refine (gQ _ _).mono ?_; rintro e w1 ⟨rfl, rfl⟩)
 go_ret
 exact ⟨rfl, rfl⟩
theorem IH (a b : Int) (w : World) :
  Calls Tryz.prog 83 #[.int .i64 14, .int .i64 a, .int .i64 b] w fun e w' => e = .returned (.int .i64 (cT 14 a b)) /\ w = w' := by
 go_enter Tryz.func83, Tryz.ntmps83
 go_wp2_with (go_at_call 133; refine (gQ _ _).mono ?_; rintro e w1 ⟨rfl, rfl⟩)
 go_ret
 exact ⟨rfl, rfl⟩
theorem II (a b : Int) (w : World) :
  Calls Tryz.prog 83 #[.int .i64 15, .int .i64 a, .int .i64 b] w fun e w' => e = .returned (.int .i64 (cT 15 a b)) /\ w = w' := by
 go_enter Tryz.func83, Tryz.ntmps83
 go_wp2_with (go_at_call 133; refine (gQ _ _).mono ?_; rintro e w1 ⟨rfl, rfl⟩)
 go_ret
 exact ⟨rfl, rfl⟩
theorem IJ (a b : Int) (w : World) :
  Calls Tryz.prog 83 #[.int .i64 16, .int .i64 a, .int .i64 b] w fun e w' => e = .returned (.int .i64 (cT 16 a b)) /\ w = w' := by
 go_enter Tryz.func83, Tryz.ntmps83
 go_wp2_with (go_at_call 133; refine (gQ _ _).mono ?_; rintro e w1 ⟨rfl, rfl⟩)
 go_ret
 exact ⟨rfl, rfl⟩
attribute [local go_sem] AQ AR in
theorem KH (a b : Int) (w : World) (h0 : 0 <= b) :
  Calls Tryz.prog 83 #[.int .i64 9, .int .i64 a, .int .i64 b] w fun e w' => e = .returned (.int .i64 (cT 9 a b)) /\ w = w' := by
 by_cases h1 : b <= 64
 ·have hm : cT 9 a b = wrap64 (a * 2 ^ b.toNat) := by rw [show b.toNat = min b.toNat 64 by omega]; rfl
  rw [hm]
  clear hm
  go_enter Tryz.func83, Tryz.ntmps83
  go_wp2_with fail
  go_ret
  exact ⟨rfl, rfl⟩
 ·have hm : cT 9 a b = wrap64 (a * 2 ^ 64) := by unfold cT; rw [show min b.toNat 64 = 64 by omega]; rfl
  rw [hm]
  clear hm
  have h2 : 64 <= b := by omega
  clear h1
  go_enter Tryz.func83, Tryz.ntmps83
  go_wp2_with fail
  go_ret
  exact ⟨rfl, rfl⟩
attribute [local go_sem] AQ AR in
theorem IL (a b : Int) (w : World) (h0 : 0 <= b) :
  Calls Tryz.prog 83 #[.int .i64 10, .int .i64 a, .int .i64 b] w fun e w' => e = .returned (.int .i64 (cT 10 a b)) /\ w = w' := by
 by_cases h1 : b <= 64
 ·have hm : cT 10 a b = a / 2 ^ b.toNat := by rw [show b.toNat = min b.toNat 64 by omega]; rfl
  rw [hm]
  clear hm
  go_enter Tryz.func83, Tryz.ntmps83
  go_wp2_with fail
  go_ret
  exact ⟨rfl, rfl⟩
 ·have hm : cT 10 a b = a / 2 ^ 64 := by unfold cT; rw [show min b.toNat 64 = 64 by omega]; rfl
  rw [hm]
  clear hm
  have h2 : 64 <= b := by omega
  clear h1
  go_enter Tryz.func83, Tryz.ntmps83
  go_wp2_with fail
  go_ret
  exact ⟨rfl, rfl⟩
theorem ES (op a b : Int) (w : World) (h : lD op b = 0) :
  Calls Tryz.prog 83 #[.int .i64 op, .int .i64 a, .int .i64 b] w fun e w' => e = .returned (.int .i64 (cT op a b)) /\ w = w' := by
 by_cases ho : op < 1 \/ 16 < op
 ·exact CC op a b w ho
 have hz : op = 4 \/ op = 5 -> b ≠ 0 := fun e hb => by
  unfold lD at h; rw [if_pos e, if_pos hb] at h; cases h
 have hs : op = 9 \/ op = 10 -> 0 <= b := fun e => by
  unfold lD at h; rw [if_neg (by omega), if_pos e] at h
  by_cases hb : b < 0
  ·rw [if_pos hb] at h; cases h
  ·omega
 obtain ⟨n, rfl⟩ := Int.eq_ofNat_of_zero_le (show 0 <= op by omega)
 have h1 : 1 <= n := by omega
 have h2 : n <= 16 := by omega
 clear ho h
 match n, h1, h2 with
 | 1, _, _ => exact J9 a b w
 | 2, _, _ => exact KA a b w
 | 3, _, _ => exact KB a b w
 | 4, _, _ => exact KC a b w (hz (by decide))
 | 5, _, _ => exact KD a b w (hz (by decide))
 | 6, _, _ => exact KE a b w
 | 7, _, _ => exact KF a b w
 | 8, _, _ => exact KG a b w
 | 9, _, _ => exact KH a b w (hs (by decide))
 | 10, _, _ => exact IL a b w (hs (by decide))
 | 11, _, _ => exact IE a b w
 | 12, _, _ => exact IF a b w
 | 13, _, _ => exact IG a b w
 | 14, _, _ => exact IH a b w
 | 15, _, _ => exact II a b w
 | 16, _, _ => exact IJ a b w
 | n + 17, _, h => exact absurd h (by omega)
theorem IM (op a b : Int) (h : lD op b ≠ 0) : pF op a b = 0 := by unfold pF; rw [if_neg h]
theorem ET (op a b : Int) (h : lD op b = 0) : pF op a b = cT op a b := by unfold pF; rw [if_pos h]
theorem iO9 (op a b : Int) (w : World) :
  Calls Tryz.prog 38 #[.int .i64 op, .int .i64 a, .int .i64 b] w fun e w' => e = .returned (.tuple #[.int .i64 (pF op a b), .int .i64 (lD op b)]) /\ w = w' := by
 by_cases h : lD op b = 0
 ·rw [ET op a b h]
  have t : (lD op b != 0) = false := by rw [h]; rfl
  have H := zz h
  clear h
  go_enter Tryz.func38, Tryz.ntmps38
  go_wp2_with (first | (go_at_call 82; refine (sF _ _ _).mono ?_; rintro e w1 ⟨rfl, rfl⟩) | (go_at_call 83; refine (ES _ _ _ _ H.out).mono ?_; rintro e w1 ⟨rfl, rfl⟩))
  go_ret2
  exact ⟨by rw [H.out]; rfl, rfl⟩
 ·rw [IM op a b h]
  have t : (lD op b != 0) = true := by simpa using h
  clear h
  go_enter Tryz.func38, Tryz.ntmps38
  go_wp2_with (go_at_call 82; refine (sF _ _ _).mono ?_; rintro e w1 ⟨rfl, rfl⟩)
  go_ret2
  exact ⟨rfl, rfl⟩
theorem KI (op a : Int) (w : World) :
  Calls Tryz.prog 220 #[.int .i64 op, .int .i64 a] w fun e w' => e = .returned (.int .i64 (unV op a)) /\ w = w' := by
 go_enter Tryz.func220, Tryz.ntmps220
 go_wp2_with (go_at_call 133; refine (gQ _ _).mono ?_; rintro e w1 ⟨rfl, rfl⟩)
 all_goals
  go_ret
  refine ⟨nB ?_, rfl⟩
  simp only [beq_iff_eq, beq_eq_false_iff_ne, ne_eq] at *
  unfold unV
  (repeat' split) <;> first | rfl | omega
def uF (op : Int) : Int := if 1 <= op /\ op <= 18 then 1 else if op = 19 then 2 else 0
def lE (op : Int) : Int := if 1 <= op /\ op <= 10 \/ op = 17 \/ op = 18 then 1 else if 11 <= op /\ op <= 16 \/ op = 19 then 2 else 0
theorem CD (op : Int) (w : World) :
  Calls Tryz.prog 300 #[.int .i64 op] w fun e w' => e = .returned (.tuple #[.int .i64 (uF op), .int .i64 (lE op)]) /\ w = w' := by
 go_enter Tryz.func300, Tryz.ntmps300
 go_wp2_with fail
 all_goals
  go_ret2
  refine ⟨congrArg Ending.returned (congrArg Value.tuple ?_), rfl⟩
  simp only [beq_iff_eq, beq_eq_false_iff_ne, ne_eq] at *
  have e1 : ∀ {x y : Int}, uF op = x -> lE op = y -> #[Value.int .i64 x, Value.int .i64 y] = #[Value.int .i64 (uF op), Value.int .i64 (lE op)] := fun h1 h2 => by rw [h1, h2]
  refine e1 ?_ ?_
  ·unfold uF; (repeat' split) <;> omega
  ·unfold lE; (repeat' split) <;> omega
end Go.Proofs.YtnpapppipccdbaaGreatDoor
namespace Go.Proofs.YtnpapppipccdbaaGreatDoor
open Go.RowKit Lx
namespace Tr
def Ex.code : Ex -> Nat
 | .nil => 0
 | .mk c _ _ _ _ _ _ _ => c
def Ex.at_ : Ex -> Nat
 | .nil => 0
 | .mk _ a _ _ _ _ _ _ => a
def Ex.n : Ex -> Nat
 | .nil => 0
 | .mk _ _ n _ _ _ _ _ => n
def Ex.op : Ex -> Nat
 | .nil => 0
 | .mk _ _ _ op _ _ _ _ => op
def Ex.l : Ex -> Ex
 | .nil => .nil
 | .mk _ _ _ _ _ l _ _ => l
def Ex.r : Ex -> Ex
 | .nil => .nil
 | .mk _ _ _ _ _ _ r _ => r
def bH (x : Ex) : Option Int := if x.code = 1 then some (x.n : Int) else if x.code = 6 /\ x.op = 17 /\ x.l.code = 1 /\ 0 < x.l.n then some (-(x.l.n : Int)) else none
theorem gR (c a n op : Nat) (nm : B) (l r : Ex) (zs : Exs) : bH (.mk c a n op nm l r zs) = if c = 1 then some (n : Int) else if c = 6 /\ op = 17 /\ l.code = 1 /\ 0 < l.n then some (-(l.n : Int)) else none := rfl
def cD (x : Ex) : Option Bool := if x.code = 2 then some (x.n != 0) else none
def k9 (so : Bool) (a : Nat) : Ex := .mk 2 a (if so then 1 else 0) 0 [] .nil .nil .nil
def lF (n : Int) (a : Nat) : Ex := if n < 0 then .mk 6 a 0 17 [] (.mk 1 a (-n).toNat 0 [] .nil .nil .nil) .nil .nil else .mk 1 a n.toNat 0 [] .nil .nil .nil
def eT (x : Ex) (n : Int) : Ex := if n = -9223372036854775808 then x else lF n x.at_
def dM (x : Ex) (through : Bool) : Ex := match cD x.l with
 | some b => if b = through then x.r else x.l
 | none => match cD x.r with
  | some b => if b = through then x.l else x
  | none => x
def AU (op n : Int) : Bool := if op = 1 \/ op = 2 \/ op = 7 \/ op = 8 \/ op = 9 \/ op = 10 then n == 0 else if op = 3 \/ op = 4 then n == 1 else false
def AV (op n : Int) : Bool := if op = 1 \/ op = 7 \/ op = 8 then n == 0 else if op = 3 then n == 1 else false
def kX (x : Ex) (n : Int) : Ex := if lE (x.op : Int) = 2 then k9 (n != 0) x.at_ else eT x n
def lG (x : Ex) : Ex := match bH x.l, bH x.r with
 | some a, some b => if lD (x.op : Int) b = 0 then kX x (pF (x.op : Int) a b) else x
 | none, some b => if AU (x.op : Int) b then x.l else x
 | some a, none => if AV (x.op : Int) a then x.r else x
 | none, none => x
def p6 (x : Ex) : Ex := if x.op = 30 then dM x true else if x.op = 31 then dM x false else if 1 <= x.op /\ x.op <= 16 then lG x else x
def oB (x : Ex) : Ex := if (bH x).isSome then x else match cD x.l with
 | some b => k9 (!b) x.at_
 | none => match bH x.l with
  | some n => eT x (unV (x.op : Int) n)
  | none => x
def jQ (x : Ex) : Ex := if x.code = 5 then p6 x else if x.code = 6 then oB x else x
mutual
def aK : Ex -> Ex
 | .nil => .nil
 | .mk c a n op nm l r zs => jQ (.mk c a n op nm (aK l) (aK r) (aU zs))
def aU : Exs -> Exs
 | .nil => .nil
 | .cons x xs => .cons (aK x) (aU xs)
end
def St.code : St -> Nat
 | .mk c _ _ _ _ _ _ _ => c
def p7 : St -> Option St
 | .mk c a nm x v t e cs => match cD v with
  | none => some (.mk c a nm x v t e cs)
  | some so =>
   if c = 13 then (if so then some (.mk c a nm x v t e cs) else none)
   else if c = 12 /\ so then (if 0 < t.len then some (.mk c a nm x v t .nil cs) else none)
   else if c = 12 then (if 0 < e.len then some (.mk c a nm x v .nil e cs) else none)
   else some (.mk c a nm x v t e cs)
mutual
def cO : St -> Option St
 | .mk c a nm x v t e cs => p7 (.mk c a nm (aK x) (aK v) (aE t) (aE e) (aT cs))
def aE : Sts -> Sts
 | .nil => .nil
 | .cons s ss => match cO s with
  | some y => .cons y (aE ss)
  | none => aE ss
def eU : Ca -> Ca
 | .mk c a nm x v b => .mk c a nm (aK x) (aK v) (aE b)
def aT : Cas -> Cas
 | .nil => .nil
 | .cons c cs => .cons (eU c) (aT cs)
end
def eG (f : Fu) : Fu := ⟨f.name, f.at_, f.params, f.kind, aE f.body⟩
def cL (s : Src) : Src := ⟨s.globals, s.funcs.map eG⟩
theorem CE (x : Ex) : jQ x = x \/ jQ x = x.l \/ jQ x = x.r \/ (∃ b, jQ x = k9 b x.at_) \/ ∃ n, jQ x = lF n x.at_ := by
 have hN : ∀ n, eT x n = x \/ ∃ m, eT x n = lF m x.at_ := fun n => by
  unfold eT
  split
  ·exact Or.inl rfl
  ·exact Or.inr ⟨n, rfl⟩
 unfold jQ
 split
 ·unfold p6 dM lG kX
  split
  ·split
   ·split
    ·exact Or.inr (Or.inr (Or.inl rfl))
    ·exact Or.inr (Or.inl rfl)
   ·split
    ·split
     ·exact Or.inr (Or.inl rfl)
     ·exact Or.inl rfl
    ·exact Or.inl rfl
  ·split
   ·split
    ·split
     ·exact Or.inr (Or.inr (Or.inl rfl))
     ·exact Or.inr (Or.inl rfl)
    ·split
     ·split
      ·exact Or.inr (Or.inl rfl)
      ·exact Or.inl rfl
     ·exact Or.inl rfl
   ·split
    ·split
     ·split
      ·split
       ·exact Or.inr (Or.inr (Or.inr (Or.inl ⟨_, rfl⟩)))
       ·rcases hN _ with e | ⟨m, e⟩
        ·exact Or.inl e
        ·exact Or.inr (Or.inr (Or.inr (Or.inr ⟨m, e⟩)))
      ·exact Or.inl rfl
     ·split
      ·exact Or.inr (Or.inl rfl)
      ·exact Or.inl rfl
     ·split
      ·exact Or.inr (Or.inr (Or.inl rfl))
      ·exact Or.inl rfl
     ·exact Or.inl rfl
    ·exact Or.inl rfl
 ·split
  ·unfold oB
   split
   ·exact Or.inl rfl
   ·split
    ·exact Or.inr (Or.inr (Or.inr (Or.inl ⟨_, rfl⟩)))
    ·split
     ·rcases hN _ with e | ⟨m, e⟩
      ·exact Or.inl e
      ·exact Or.inr (Or.inr (Or.inr (Or.inr ⟨m, e⟩)))
     ·exact Or.inl rfl
  ·exact Or.inl rfl
theorem yA (b : Bool) (a : Nat) : aK (k9 b a) = k9 b a := by unfold k9; rw [aK]; rfl
theorem yB (n : Int) (a : Nat) : aK (lF n a) = lF n a := by
 unfold lF
 split
 ·rename_i h
  have h1 : (-n).toNat ≠ 0 := by omega
  have hk : bH (.mk 6 a 0 17 [] (.mk 1 a (-n).toNat 0 [] .nil .nil .nil) .nil .nil) = some (-((-n).toNat : Int)) := by
   unfold bH
   show (if (6 : Nat) = 1 then _ else if (6 : Nat) = 6 /\ (17 : Nat) = 17 /\ (1 : Nat) = 1 /\ 0 < (-n).toNat then some (-((-n).toNat : Int)) else none) = _
   rw [if_neg (by decide), if_pos ⟨rfl, rfl, rfl, by omega⟩]
  have ho : oB (.mk 6 a 0 17 [] (.mk 1 a (-n).toNat 0 [] .nil .nil .nil) .nil .nil) = .mk 6 a 0 17 [] (.mk 1 a (-n).toNat 0 [] .nil .nil .nil) .nil .nil := by
   unfold oB
   rw [hk, Option.isSome_some, if_pos rfl]
  rw [aK, aK, aK, aU]
  exact ho
 ·rw [aK, aK, aU]; rfl
mutual
theorem fO : ∀ x : Ex, aK (aK x) = aK x
 | .nil => rfl
 | .mk c a n op nm l r zs => by
  have hl := fO l
  have hr := fO r
  have hz := oW zs
  rw [aK]
  rcases CE (.mk c a n op nm (aK l) (aK r) (aU zs)) with e | e | e | ⟨b, e⟩ | ⟨m, e⟩
  ·rw [e, aK, hl, hr, hz, e]
  ·rw [e]; exact hl
  ·rw [e]; exact hr
  ·rw [e]; exact yA _ _
  ·rw [e]; exact yB _ _
theorem oW : ∀ xs : Exs, aU (aU xs) = aU xs
 | .nil => rfl
 | .cons x xs => by rw [aU, aU, fO x, oW xs]
end
theorem fK (c a : Nat) (nm : B) (x v : Ex) (t e : Sts) (cs : Cas) : p7 (.mk c a nm x v t e cs) = match cD v with
  | none => some (.mk c a nm x v t e cs)
  | some so =>
   if c = 13 then (if so then some (.mk c a nm x v t e cs) else none)
   else if c = 12 /\ so then (if 0 < t.len then some (.mk c a nm x v t .nil cs) else none)
   else if c = 12 then (if 0 < e.len then some (.mk c a nm x v .nil e cs) else none)
   else some (.mk c a nm x v t e cs) := rfl
theorem CG {c a : Nat} {nm : B} {x v : Ex} {t e : Sts} {cs : Cas} (hx : aK x = x) (hv : aK v = v) (ht : aE t = t) (he : aE e = e) (hc : aT cs = cs) : ∀ y, p7 (.mk c a nm x v t e cs) = some y -> cO y = some y := by
 intro y hy
 have h0 : aE .nil = .nil := by rw [aE]
 rw [fK] at hy
 split at hy
 ·rename_i h
  obtain rfl := Option.some.inj hy
  rw [cO, hx, hv, ht, he, hc]; rw [fK, h]
 ·rename_i so h
  split at hy
  ·rename_i h1
   split at hy
   ·rename_i h2
    obtain rfl := Option.some.inj hy
    rw [cO, hx, hv, ht, he, hc]; rw [fK, h]; simp only; rw [if_pos h1, if_pos h2]
   ·cases hy
  ·rename_i h1
   split at hy
   ·rename_i h2
    split at hy
    ·rename_i h3
     obtain rfl := Option.some.inj hy
     rw [cO, hx, hv, ht, h0, hc]; rw [fK, h]; simp only; rw [if_neg h1, if_pos h2, if_pos h3]
    ·cases hy
   ·rename_i h2
    split at hy
    ·rename_i h3
     split at hy
     ·rename_i h4
      obtain rfl := Option.some.inj hy
      rw [cO, hx, hv, h0, he, hc]; rw [fK, h]; simp only; rw [if_neg h1, if_neg h2, if_pos h3, if_pos h4]
     ·cases hy
    ·rename_i h3
     obtain rfl := Option.some.inj hy
     rw [cO, hx, hv, ht, he, hc]; rw [fK, h]; simp only; rw [if_neg h1, if_neg h2, if_neg h3]
mutual
theorem yC : ∀ s y : St, cO s = some y -> cO y = some y
 | .mk c a nm x v t e cs, y, h => by
  rw [cO] at h
  exact CG (fO x) (fO v) (iB t) (iB e) (oX cs) y h
theorem iB : ∀ ss : Sts, aE (aE ss) = aE ss
 | .nil => by rw [aE, aE]
 | .cons s ss => by
  have hs := yC s
  have hss := iB ss
  rw [aE]
  split
  ·rename_i y hy
   rw [aE, hs y hy, hss]
  ·exact hss
theorem yD : ∀ c : Ca, eU (eU c) = eU c
 | .mk c a nm x v b => by rw [eU, eU, fO x, fO v, iB b]
theorem oX : ∀ cs : Cas, aT (aT cs) = aT cs
 | .nil => by rw [aT, aT]
 | .cons c cs => by rw [aT, aT, yD c, oX cs]
end
theorem yE (f : Fu) : eG (eG f) = eG f := by unfold eG; rw [iB]
theorem uG (s : Src) : cL (cL s) = cL s := by
 unfold cL
 simp only [List.map_map]
 congr 1
 exact List.map_congr_left fun f _ => yE f
theorem kC {x : Ex} (h : bH x ≠ none) : x.code ≠ 0 := by
 unfold bH at h
 intro e
 rw [if_neg (by omega), if_neg (by omega)] at h
 exact h rfl
end Tr
end Go.Proofs.YtnpapppipccdbaaGreatDoor
namespace Go.Proofs.YtnpapppipccdbaaGreatDoor
namespace Lx
theorem EU : ∀ z ∈ f9, 0 < z.length := by decide
theorem AW {l z : B} (h : f9.find? (·.isPrefixOf l) = some z) : z ∈ f9 /\ z <+: l := ⟨List.mem_of_find?_eq_some h, List.isPrefixOf_iff_prefix.1 (by simpa using List.find?_some h)⟩
theorem sG (b : UInt8) (r : B) : pV (b :: r) = if b = 59 then .tok 5 1 else if cI b then gO (b :: r) else if 0 < bS (b :: r) then gA (b :: r) else gP (b :: r) := rfl
theorem eH (b : UInt8) (r : B) (may : Bool) : eF (b :: r) may = if tX b then .skip 1 else if [47, 47].isPrefixOf (b :: r) then .skip (aC (b :: r)) else if b = 10 then (if may then .cut (.tok 5 1) else .skip 1) else .cut (pV (b :: r)) := rfl
theorem CH {l : B} (h : [47, 47].isPrefixOf l = true) : 2 <= aC l := by
 obtain ⟨r, rfl⟩ := List.isPrefixOf_iff_prefix.1 h
 show 2 <= (List.takeWhile (fun b => b != 10) (47 :: 47 :: r)).length
 rw [List.takeWhile_cons_of_pos (by decide), List.takeWhile_cons_of_pos (by decide)]
 simp only [List.length_cons]; omega
theorem EV {l : B} {k n : Nat} (h : pV l = .tok k n) : 1 <= n /\ n <= l.length /\ (k = 1 \/ k = 2 \/ k = 3 \/ k = 4 \/ k = 5) := by
 cases l with
 | nil => cases h
 | cons b r =>
  rw [sG] at h
  split at h
  ·cases h; exact ⟨Nat.le_refl _, by simp, by simp⟩
  ·split at h
   ·rename_i hd
    unfold gO at h
    have h1 := AO (b :: r)
    have h2 := n8 (r := r) hd
    split at h
    ·cases h
    ·split at h
     ·cases h
     ·cases h; exact ⟨by omega, h1, by simp⟩
   ·split at h
    ·rename_i hl
     have h1 := pU _ (b :: r) (Nat.le_refl _)
     have h2 : 0 < bD (b :: r) := B7 (by unfold bV; rw [if_neg (by omega)]; exact hl)
     unfold gA at h
     split at h
     ·cases h; exact ⟨h2, h1, by simp⟩
     ·split at h
      ·cases h
      ·cases h; exact ⟨h2, h1, by simp⟩
    ·unfold gP at h
     split at h
     ·rename_i x hx
      cases h
      obtain ⟨g1, g2⟩ := AW hx
      exact ⟨EU x g1, g2.length_le, by simp⟩
     ·cases h
theorem step_skip {l : B} {may : Bool} {n : Nat} (hl : l ≠ []) (h : eF l may = .skip n) : 1 <= n /\ n <= l.length := by
 cases l with
 | nil => exact absurd rfl hl
 | cons b r =>
  rw [eH] at h
  split at h
  ·cases h; simp
  ·split at h
   ·rename_i hp
    cases h
    exact ⟨by have := CH hp; omega, vD _⟩
   ·split at h
    ·split at h
     ·cases h
     ·cases h; simp
    ·cases h
theorem lH {l : B} {may : Bool} {k n : Nat} (hl : l ≠ []) (h : eF l may = .cut (.tok k n)) : 1 <= n /\ n <= l.length /\ (k = 1 \/ k = 2 \/ k = 3 \/ k = 4 \/ k = 5) := by
 cases l with
 | nil => exact absurd rfl hl
 | cons b r =>
  rw [eH] at h
  split at h
  ·cases h
  ·split at h
   ·cases h
   ·split at h
    ·split at h
     ·cases h; exact ⟨Nat.le_refl _, by simp, by simp⟩
     ·cases h
    ·have h' : pV (b :: r) = .tok k n := by injection h
     exact EV h'
theorem vL : ∀ (f g : Nat) (l : B) (a : Nat) (may : Bool), l.length <= f -> l.length <= g -> lxF f l a may = lxF g l a may := by
 intro f
 induction f with
 | zero =>
  intro g l a may hf _
  have : l = [] := List.eq_nil_of_length_eq_zero (by omega)
  subst this
  cases g with
  | zero => rfl
  | succ g => rfl
 | succ f ih =>
  intro g l a may hf hg
  cases g with
  | zero =>
   have : l = [] := List.eq_nil_of_length_eq_zero (by omega)
   subst this
   rfl
  | succ g =>
   unfold lxF
   by_cases hl : l = []
   ·rw [if_pos hl, if_pos hl]
   ·rw [if_neg hl, if_neg hl]
    cases hs : eF l may with
    | skip n =>
     obtain ⟨h1, h2⟩ := step_skip hl hs
     have := ih g (l.drop n) (a + n) may (by rw [List.length_drop]; omega) (by rw [List.length_drop]; omega)
     exact this
    | cut c =>
     cases c with
     | err e => rfl
     | tok k n =>
      obtain ⟨h1, h2, _⟩ := lH hl hs
      have := ih g (l.drop n) (a + n) (jV k (l.take n)) (by rw [List.length_drop]; omega) (by rw [List.length_drop]; omega)
      simp only [this]
theorem yF (a : Nat) (may : Bool) : lx [] a may = (tY a may, none) := rfl
theorem yG {l : B} (hl : l ≠ []) (a : Nat) (may : Bool) : lx l a may = match eF l may with
  | .skip n => lx (l.drop n) (a + n) may
  | .cut (.tok k n) => (⟨k, l.take n, a⟩ :: (lx (l.drop n) (a + n) (jV k (l.take n))).1, (lx (l.drop n) (a + n) (jV k (l.take n))).2)
  | .cut (.err e) => ([], some (e, a)) := by
 have hp : 0 < l.length := List.length_pos_iff.2 hl
 obtain ⟨m, hm⟩ : ∃ m, l.length = m + 1 := ⟨l.length - 1, by omega⟩
 have e : lx l a may = lxF (m + 1) l a may := by unfold lx; rw [hm]
 rw [e]
 conv => lhs; unfold lxF
 rw [if_neg hl]
 cases hs : eF l may with
 | skip n =>
  obtain ⟨h1, h2⟩ := step_skip hl hs
  exact vL _ _ _ _ _ (by rw [List.length_drop]; omega) (Nat.le_refl _)
 | cut c =>
  cases c with
  | err e => rfl
  | tok k n =>
   obtain ⟨h1, h2, _⟩ := lH hl hs
   have := vL m _ (l.drop n) (a + n) (jV k (l.take n)) (by rw [List.length_drop]; omega) (Nat.le_refl _)
   simp only [this, lx]
theorem uH {l : B} {may : Bool} {n : Nat} (hl : l ≠ []) (h : eF l may = .skip n) (a : Nat) : lx l a may = lx (l.drop n) (a + n) may := by
 rw [yG hl, h]
theorem EW {l : B} {may : Bool} {k n : Nat} (hl : l ≠ []) (h : eF l may = .cut (.tok k n)) (a : Nat) :
  lx l a may = (⟨k, l.take n, a⟩ :: (lx (l.drop n) (a + n) (jV k (l.take n))).1, (lx (l.drop n) (a + n) (jV k (l.take n))).2) := by
 rw [yG hl, h]
theorem EX {l : B} {may : Bool} {e : Nat} (hl : l ≠ []) (h : eF l may = .cut (.err e)) (a : Nat) : lx l a may = ([], some (e, a)) := by
 rw [yG hl, h]
theorem lV (C : B -> Nat -> Bool -> List Tok -> Prop)
  (hnil : ∀ a may, C [] a may (tY a may))
  (hskip : ∀ l a may n ts, l ≠ [] -> eF l may = .skip n -> 1 <= n -> n <= l.length -> lx (l.drop n) (a + n) may = (ts, none) -> C (l.drop n) (a + n) may ts -> C l a may ts)
  (htok : ∀ l a may k n ts, l ≠ [] -> eF l may = .cut (.tok k n) -> 1 <= n -> n <= l.length -> lx (l.drop n) (a + n) (jV k (l.take n)) = (ts, none) -> C (l.drop n) (a + n) (jV k (l.take n)) ts -> C l a may (⟨k, l.take n, a⟩ :: ts)) :
  ∀ l a may ts, lx l a may = (ts, none) -> C l a may ts := by
 have key : ∀ m, ∀ l : B, l.length <= m -> ∀ a may ts, lx l a may = (ts, none) -> C l a may ts := by
  intro m
  induction m with
  | zero =>
   intro l hm a may ts h
   have : l = [] := List.eq_nil_of_length_eq_zero (by omega)
   subst this
   rw [yF] at h
   cases h
   exact hnil a may
  | succ m ih =>
   intro l hm a may ts h
   by_cases hl : l = []
   ·subst hl
    rw [yF] at h
    cases h
    exact hnil a may
   ·cases hs : eF l may with
    | skip n =>
     obtain ⟨h1, h2⟩ := step_skip hl hs
     rw [uH hl hs] at h
     exact hskip l a may n ts hl hs h1 h2 h (ih _ (by rw [List.length_drop]; omega) _ _ _ h)
    | cut c =>
     cases c with
     | err e => rw [EX hl hs] at h; cases h
     | tok k n =>
      obtain ⟨h1, h2, _⟩ := lH hl hs
      rw [EW hl hs] at h
      obtain ⟨rfl, h4⟩ := Prod.mk.inj h
      have h5 : lx (l.drop n) (a + n) (jV k (l.take n)) = ((lx (l.drop n) (a + n) (jV k (l.take n))).1, none) := by
       rw [<- h4]
      exact htok l a may k n _ hl hs h1 h2 h5 (ih _ (by rw [List.length_drop]; omega) _ _ _ h5)
 exact fun l => key l.length l (Nat.le_refl _)
theorem AX : jA 32 = true := by decide
end Lx
end Go.Proofs.YtnpapppipccdbaaGreatDoor
namespace Go.Proofs.YtnpapppipccdbaaGreatDoor
open Go.RowKit
structure Keeps (S : Nat -> Prop) (w w' : World) : Prop where
 os : w'.os = w.os
 tape : w'.tape = w.tape
 output : w'.output = w.output
 size : w.heap.size <= w'.heap.size
 block : ∀ k, k < w.heap.size -> ¬ S k -> w'.heap[k]? = w.heap[k]?
namespace Keeps
variable {S : Nat -> Prop} {a w w' : World}
theorem refl (S : Nat -> Prop) (w : World) : Keeps S w w := ⟨rfl, rfl, rfl, Nat.le_refl _, fun _ _ _ => rfl⟩
theorem trans (h : Keeps S a w) (k : Keeps S w w') : Keeps S a w' :=
 ⟨k.os.trans h.os, k.tape.trans h.tape, k.output.trans h.output, Nat.le_trans h.size k.size, fun i hi hs => (k.block i (Nat.lt_of_lt_of_le hi h.size) hs).trans (h.block i hi hs)⟩
theorem trans' {S' : Nat -> Prop} (h : Keeps S a w) (k : Keeps S' w w') (hs : ∀ i, i < a.heap.size -> S' i -> S i) : Keeps S a w' :=
 ⟨k.os.trans h.os, k.tape.trans h.tape, k.output.trans h.output, Nat.le_trans h.size k.size, fun i hi hn => (k.block i (Nat.lt_of_lt_of_le hi h.size) (fun e => hn (hs i hi e))).trans (h.block i hi hn)⟩
theorem mono {S' : Nat -> Prop} (h : Keeps S w w') (hs : ∀ i, i < w.heap.size -> S i -> S' i) : Keeps S' w w' :=
 ⟨h.os, h.tape, h.output, h.size, fun i hi hn => h.block i hi (fun e => hn (hs i hi e))⟩
theorem alloc (h : Keeps S a w) (o : Obj) : Keeps S a (w.alloc o) :=
 h.trans ⟨rfl, rfl, rfl, by simp, fun k hk _ => Below.heap_alloc _ _ _ hk⟩
theorem drew (h : Keeps S a w) : Keeps S a w.drew := ⟨h.os, h.tape, h.output, h.size, h.block⟩
theorem setCell (h : Keeps S a w) {p : Addr} (hp : S p.block \/ a.heap.size <= p.block) (u : Value) : Keeps S a (w.setCell p u) :=
 ⟨h.os, h.tape, h.output, by simpa [World.setCell] using h.size, fun k hk hn => (Below.heap_setCell _ _ _ _ (by rintro rfl; rcases hp with hp | hp; exact hn hp; omega)).trans (h.block k hk hn)⟩
theorem of_below {B : Nat} (h : Below B w w') (hs : ∀ k, k < w.heap.size -> B <= k -> S k) : Keeps S w w' :=
 ⟨h.os, h.tape, h.output, h.size, fun k hk hn => h.block k (Nat.lt_of_not_le fun e => hn (hs k hk e))⟩
theorem of_new (h : Below w.heap.size w w') : Keeps S w w' := of_below h fun k hk e => by omega
theorem of_grownBy {row : Option Nat} (h : w.grownBy w' row) (hs : ∀ k, k < w.heap.size -> row = some k -> S k) : Keeps S w w' :=
 ⟨h.os, h.tape, h.output, h.size, fun k hk hn => h.block k hk (fun e => hn (hs k hk e.symm))⟩
theorem below {B : Nat} (h : Keeps S w w') (hB : B <= w.heap.size) (hs : ∀ k, k < w.heap.size -> S k -> B <= k) : Below B w w' :=
 ⟨h.os, h.tape, h.output, h.size, fun k hk => h.block k (Nat.lt_of_lt_of_le hk hB) (fun e => by have := hs k (by omega) e; omega)⟩
theorem cell (h : Keeps S w w') {p : Addr} (hp : p.block < w.heap.size) (hn : ¬ S p.block) : w'.cell? p = w.cell? p := World.cell?_of_block (w := w) (h.block p.block hp hn)
theorem cell_of (h : Keeps S w w') {p : Addr} {v : Value} (hv : w.cell? p = some v) (hn : ¬ S p.block) : w'.cell? p = some v := by
 rw [h.cell (block_lt_of_cell hv) hn]; exact hv
theorem frozen (h : Keeps S w w') {p : Addr} (hp : p.block < w.heap.size) (hn : ¬ S p.block) : w'.frozen? p = w.frozen? p := World.frozen?_of_block (w := w) (h.block p.block hp hn)
theorem row (h : Keeps S w w') {base : Nat} {e : TypeId} {size : Nat} {v : Value} {n : Nat} {xs : List Value} (ho : w.ownsRow base e size v n xs) (hn : ∀ k, v.ownBlock = some k -> ¬ S k) : w'.ownsRow base e size v n xs := by
 obtain ⟨h1, h2⟩ := ho
 refine ⟨h1, ?_⟩
 rcases h2 with ⟨rfl, h3⟩ | ⟨g, cap, cur, rfl, h3, h4, h5⟩
 ·exact Or.inl ⟨rfl, h3⟩
 ·exact Or.inr ⟨g, cap, cur, rfl, h3, by
   rw [h.block g (Array.getElem?_eq_some_iff.1 h4).1 (hn g rfl)]; exact h4, h5⟩
end Keeps
end Go.Proofs.YtnpapppipccdbaaGreatDoor
namespace Go.Proofs.YtnpapppipccdbaaGreatDoor
open Go.RowKit Lx
def rs (s : ByteArray) (a : Nat) : B := s.data.toList.drop a
theorem eP (s : ByteArray) (a : Nat) : (rs s a).length = s.size - a := by simp [rs]
theorem nD (s : ByteArray) (a n : Nat) : (rs s a).drop n = rs s (a + n) := by simp [rs, List.drop_drop]
theorem p8 (s : ByteArray) (a : Nat) (h : s.size <= a) : rs s a = [] := List.drop_eq_nil_of_le (by simpa using h)
theorem gD (s : ByteArray) (a : Nat) (h : a < s.size) : rs s a = s[a] :: rs s (a + 1) := by
 have hd : a < s.data.toList.length := by simpa using h
 unfold rs
 rw [List.drop_eq_getElem_cons hd]
 rfl
theorem kD (s : ByteArray) (a b : Nat) : (s.extract a b).data.toList = (rs s a).take (b - a) := by
 unfold rs
 rw [ByteArray.data_extract, Array.toList_extract, List.extract_eq_take_drop]
theorem gE (s : ByteArray) (a : Nat) : (s.extract a s.size).data.toList = rs s a := by
 rw [kD, <- eP, List.take_length]
theorem uI (s : ByteArray) (a : Nat) (h : a <= s.size) : (s.extract a s.size).size = s.size - a := by
 rw [ByteArray.size_extract]; omega
theorem pK {a b : Int} (h : a = b) : Ending.returned (.int .i64 a) = .returned (.int .i64 b) := by rw [h]
theorem jK (b : UInt8) (w : World) : Calls Tryz.prog 147 #[.int .u8 (b.toNat : Int)] w fun e w' => e = .returned (.bool (cI b)) /\ w = w' := by
 unfold cI
 generalize b.toNat = x
 by_cases h1 : 48 <= x <;> by_cases h2 : x <= 57
 all_goals
  have g1 : (48 : Int) <= (x : Int) ↔ 48 <= x := by omega
  have g2 : (x : Int) <= 57 ↔ x <= 57 := by omega
  go_enter Tryz.func147, Tryz.ntmps147
  go_wp2_with fail
  go_ret
  exact ⟨by simp [*], rfl⟩
abbrev Tabs (w : World) : Prop := Lib.Utf8Tabs 5 6 w
theorem IP (s : ByteArray) (k : Nat) (h : k < s.size) : s.get! k = (rs s k).getD 0 0 := by
 rw [gD s k h]
 cases s with | mk d => exact getElem!_pos d k h
theorem IQ (s : ByteArray) (k : Nat) (h : s.size <= k) : s.get! k = 0 := by
 cases s with
 | mk d =>
  show d[k]! = 0
  rw [getElem!_neg d k (by intro g; have : k < d.size := g; have : d.size <= k := h; omega)]
  rfl
theorem vM (s : ByteArray) (h : 0 < s.size) : Lib.decodeGo s = dec s.data.toList := by
 have hl : s.data.toList.length = s.size := by simp
 have e : ∀ k, s.get! k = s.data.toList.getD k 0 := fun k => by
  by_cases hk : k < s.size
  ·rw [IP s k hk]
   unfold rs
   rw [List.getD_eq_getElem?_getD, List.getD_eq_getElem?_getD, List.getElem?_drop, Nat.add_zero]
  ·rw [IQ s k (by omega), List.getD_eq_getElem?_getD, List.getElem?_eq_none (by omega)]; rfl
 unfold Lib.decodeGo dec
 rw [if_neg (by omega), Lib.decode_at, e, e, e, e, hl, Nat.sub_zero, Nat.zero_add, Nat.zero_add, Nat.zero_add]
theorem mL (s : ByteArray) (a : Nat) (w : World) (_hs : s.size <= 4000000) (hT : Tabs w) :
  Calls Tryz.prog 149 #[.string s, .int .i64 a] w fun e w' => e = .returned (.int .i64 (bS (rs s a))) /\ Below w.heap.size w w' := by
 by_cases h : a < s.size
 ·have hc := gD s a h
  have hx : s[a].toNat < 256 := s[a].toNat_lt
  have hlt : ¬ ((s.size : Int) <= (a : Int)) := by omega
  have hi : (0 : Int) <= (a : Int) /\ (a : Int) < (s.size : Int) := by omega
  have hi2 : (a : Int) <= (s.size : Int) := by omega
  by_cases hb : s[a].toNat < 128
  ·have hbi : (s[a].toNat : Int) < 128 := by omega
   obtain ⟨r, hr⟩ : ∃ r, r = bS (rs s a) := ⟨_, rfl⟩
   have e : r = if rI s[a] then 1 else 0 := by rw [hr, hc]; simp only [bS, if_pos hb]
   rw [<- hr]
   unfold rI at e
   have E := zz e
   clear hr hc e
   go_enter Tryz.func149, Tryz.ntmps149
   go_wp2_with fail
   all_goals
    go_ret
    refine ⟨pK ?_, Below.refl _ _⟩
    rw [E.out]
    simp only [Bool.or_eq_true, Bool.and_eq_true, decide_eq_true_eq, beq_iff_eq] at *
    split <;> omega
  ·have hbi : ¬ ((s[a].toNat : Int) < 128) := by omega
   obtain ⟨r, hr⟩ : ∃ r, r = bS (rs s a) := ⟨_, rfl⟩
   have e : r = if (dec (rs s a)).2 = 1 then 0 else (dec (rs s a)).2 := by
    rw [hr, hc]; simp only [bS, if_neg hb]
   have hd : Lib.decodeGo (s.extract a s.size) = dec (rs s a) := by
    rw [vM _ (by rw [uI _ _ (by omega)]; omega), gE]
   have HC := Tryz.utf8_DecodeRuneInString (s.extract a s.size) w hT
   rw [hd] at HC
   rw [<- hr]
   clear hr hc hd
   generalize dec (rs s a) = d at *
   obtain ⟨d1, d2⟩ := d
   have hC := zz HC
   clear HC hT
   by_cases h1 : d2 = 1
   ·subst h1
    simp only [if_pos] at e
    subst e
    go_enter Tryz.func149, Tryz.ntmps149
    go_wp2_with (go_at_call 137; refine hC.out.mono ?_; rintro e w1 ⟨rfl, hb1⟩)
    go_ret
    exact ⟨rfl, hb1⟩
   ·have h1i : ¬ ((d2 : Int) = 1) := by omega
    simp only [if_neg h1] at e
    subst e
    go_enter Tryz.func149, Tryz.ntmps149
    go_wp2_with (go_at_call 137; refine hC.out.mono ?_; rintro e w1 ⟨rfl, hb1⟩)
    go_ret
    exact ⟨rfl, hb1⟩
 ·rw [p8 s a (by omega)]
  have hlt : (s.size : Int) <= (a : Int) := by omega
  go_enter Tryz.func149, Tryz.ntmps149
  go_wp2_with fail
  go_ret
  exact ⟨rfl, Below.refl _ _⟩
theorem Tabs.lt {w : World} (h : Tabs w) : 5 < w.heap.size /\ 6 < w.heap.size :=
 ⟨block_lt_of_cell (h.1 0 (by decide)), block_lt_of_cell (h.2 0 (by decide)).1⟩
theorem Tabs.below {w w' : World} {n : Nat} (h : Tabs w) (hb : Below n w w') (h1 : 5 < n) (h2 : 6 < n) : Tabs w' :=
  ⟨fun c hc => by rw [hb.cell (p := ⟨5, c, none⟩) h1]; exact h.1 c hc,
   fun i hi => ⟨by rw [hb.cell (p := ⟨6, 2 * i, none⟩) h2]; exact (h.2 i hi).1, by rw [hb.cell (p := ⟨6, 2 * i + 1, none⟩) h2]; exact (h.2 i hi).2⟩⟩
theorem Tabs.next {w w' : World} (h : Tabs w) (hb : Below w.heap.size w w') : Tabs w' := h.below hb h.lt.1 h.lt.2
theorem vN (s : ByteArray) (a : Nat) (w : World) (hs : s.size <= 4000000) (ha : a <= s.size) (hT : Tabs w) :
  Calls Tryz.prog 201 #[.string s, .int .i64 a] w fun e w' => e = .returned (.int .i64 (a + bD (rs s a) : Nat)) /\ Below w.heap.size w w' := by
 obtain ⟨R, hR⟩ : ∃ R, R = a + bD (rs s a) := ⟨_, rfl⟩
 rw [<- hR]
 have HR := zz hR
 have HT := zz hT
 clear hR hT
 go_enter Tryz.func201, Tryz.ntmps201
 go_wp2_with fail
 go_loopw [1] (fun i wr => ∃ k : Nat, k <= s.size /\ i = .int .i64 k /\ R = k + bD (rs s k) /\ Below w.heap.size w wr) (fun i _ => s.size - (intOf i).toNat)
 case atStart => exact ⟨a, ha, rfl, HR.out, Below.refl _ _⟩
 case round =>
  obtain ⟨k, hk, rfl, hr, hb⟩ := hrel
  have HTr := zz (HT.out.next hb)
  have H := zz hr
  clear hr
  by_cases hlt : k < s.size
  ·have hc := gD s k hlt
   have hle := AM (rs s k)
   rw [eP] at hle
   have hli : (k : Int) < (s.size : Int) := by omega
   have hii : (0 : Int) <= (k : Int) /\ (k : Int) < (s.size : Int) := by omega
   have LC : Hid (Calls Tryz.prog 149 #[.string s, .int .i64 k] wr fun e w' => e = .returned (.int .i64 (bS (rs s k))) /\ Below wr.heap.size wr w') := zz (mL s k wr hs HTr.out)
   have HW : Hid (bD (rs s k) = if bV (rs s k) = 0 then 0 else bV (rs s k) + bD (rs s (k + bV (rs s k)))) := zz (by rw [dU, nD])
   by_cases h0 : bS (rs s k) = 0
   ·have HA : Hid (bV (rs s k) = if cI s[k] then 1 else 0) := zz (by unfold bV; rw [if_pos h0, hc])
    rw [h0] at LC
    clear hc h0 hle
    have HD := fun w => jK s[k] w
    by_cases hd : cI s[k] = true
    ·rw [hd] at HA HD
     go_wp2_with (first | (go_at_call 149; refine LC.out.mono ?_; rintro e w1 ⟨rfl, hb1⟩) | (go_at_call 147; refine (HD _).mono ?_; rintro e w2 ⟨rfl, rfl⟩))
     go_roundw
     case rel =>
      refine ⟨k + 1, by omega, by go_num, ?_, hb.trans (hb1.mono hb.size)⟩
      have h1 := H.out
      have h2 := HW.out
      rw [HA.out] at h2
      simp only [if_true] at h2
      rw [if_neg (by decide)] at h2
      omega
     case measure => simp [intOf]; omega
    ·have hd' : cI s[k] = false := by simpa using hd
     rw [hd'] at HA HD
     go_wp2_with (first | (go_at_call 149; refine LC.out.mono ?_; rintro e w1 ⟨rfl, hb1⟩) | (go_at_call 147; refine (HD _).mono ?_; rintro e w2 ⟨rfl, rfl⟩))
     go_ret
     refine ⟨pK ?_, hb.trans (hb1.mono hb.size)⟩
     have h1 := H.out
     have h2 := HW.out
     rw [HA.out] at h2
     simp at h2
     omega
   ·have HA : Hid (bV (rs s k) = bS (rs s k)) := zz (by unfold bV; rw [if_neg h0])
    clear hc
    generalize bS (rs s k) = m at *
    have h0i : ¬ ((m : Int) = 0) := by omega
    go_wp2_with (go_at_call 149; refine LC.out.mono ?_; rintro e w1 ⟨rfl, hb1⟩)
    go_roundw
    case rel =>
     refine ⟨k + m, by omega, by go_num, ?_, hb.trans (hb1.mono hb.size)⟩
     have h1 := H.out
     have h2 := HW.out
     rw [HA.out, if_neg h0] at h2
     omega
    case measure => simp [intOf]; omega
  ·have hli : ¬ (k : Int) < (s.size : Int) := by omega
   go_wp2_with fail
   go_ret
   refine ⟨pK ?_, hb⟩
   have h1 := H.out
   rw [p8 s k (by omega)] at h1
   have : bD [] = 0 := rfl
   omega
theorem CI (s : ByteArray) (w : World) : Calls Tryz.prog 64 #[.string s] w fun e w' => e = .returned (.bool (j9 s.data.toList)) /\ w = w' := by
 rw [<- Lib.toList_data]
 unfold j9 JX
 go_enter Tryz.func64, Tryz.ntmps64
 go_wp2_with fail
 all_goals
  go_ret
  refine ⟨?_, rfl⟩
  first
   | (exfalso; simp_all; done)
   | (refine congrArg Ending.returned (congrArg Value.bool ?_); simp only [beq_iff_eq, beq_eq_false_iff_ne, ne_eq] at *; simp [*]; done)
theorem yH (k : Nat) (s : ByteArray) (a : Nat) (w : World) : Calls Tryz.prog 152 #[.agg #[.int .i64 k, .string s, .int .i64 a]] w fun e w' => e = .returned (.bool (jV k s.data.toList)) /\ Below w.heap.size w w' := by
 rw [<- Lib.toList_data]
 obtain ⟨r, hr⟩ : ∃ r, r = jV k s.toList := ⟨_, rfl⟩
 rw [<- hr]
 unfold jV JY at hr
 have E := zz hr
 clear hr
 have i1 : ((k : Int) = 1) ↔ k = 1 := by omega
 have i2 : ((k : Int) = 2) ↔ k = 2 := by omega
 have i3 : ((k : Int) = 3) ↔ k = 3 := by omega
 have i4 : ((k : Int) = 4) ↔ k = 4 := by omega
 go_enter Tryz.func152, Tryz.ntmps152
 go_wp2_with fail
 all_goals
  go_ret
  refine ⟨?_, (Below.refl _ _).alloc (Nat.le_refl _) _⟩
  first
   | (exfalso; simp_all; done)
   | (refine congrArg Ending.returned (congrArg Value.bool ?_); rw [E.out]; simp [*]; done)
   | (refine congrArg Ending.returned (congrArg Value.bool ?_); rw [E.out]; simp_all; done)
def mkT (l : B) : ByteArray := ⟨l.toArray⟩
theorem EY (s : ByteArray) : mkT s.data.toList = s := by cases s; rfl
theorem eI (l : B) : (mkT l).size = l.length := by simp [mkT, ByteArray.size]
def dN (ts : List Tok) : List Value := ts.flatMap fun t => [.int .i64 t.kind, .string (mkT t.text), .int .i64 t.at_]
theorem vO (ts : List Tok) (k a : Nat) (l : B) : dN ts ++ [.int .i64 k, .string (mkT l), .int .i64 a] = dN (ts ++ [⟨k, l, a⟩]) := by simp [dN]
theorem rK (ts : List Tok) : (dN ts).length = ts.length * 3 := by
 induction ts with
 | nil => rfl
 | cons p ps ih => simp only [dN, List.flatMap_cons, List.length_append, List.length_cons, List.length_nil] at ih ⊢; omega
structure CutAt (w : World) (cb : Nat) (s : ByteArray) (a : Nat) (v : Value) (ts : List Tok) : Prop where
 c0 : w.cell? ⟨cb, 0, none⟩ = some (.string s)
 c1 : w.cell? ⟨cb, 1, none⟩ = some (.int .i64 a)
 c2 : w.cell? ⟨cb, 2, none⟩ = some v
 z1 : w.frozen? ⟨cb, 1, none⟩ = false
 z2 : w.frozen? ⟨cb, 2, none⟩ = false
 own : w.ownsRow (cb + 1) 110 3 v ts.length (dN ts)
variable {w w' : World} {cb a : Nat} {s : ByteArray} {v : Value} {ts : List Tok}
theorem CutAt.drewN (h : CutAt w cb s a v ts) (n : Nat) : CutAt (w.drewN n) cb s a v ts := ⟨h.c0, h.c1, h.c2, h.z1, h.z2, h.own⟩
theorem CutAt.lt (h : CutAt w cb s a v ts) : cb < w.heap.size := block_lt_of_cell h.c0
theorem CutAt.keeps {S : Nat -> Prop} (h : CutAt w cb s a v ts) (k : Keeps S w w') (hr : ¬ S cb) (hs : ∀ b, v.ownBlock = some b -> ¬ S b) : CutAt w' cb s a v ts :=
 ⟨k.cell_of h.c0 hr, k.cell_of h.c1 hr, k.cell_of h.c2 hr, by rw [k.frozen h.lt hr]; exact h.z1, by rw [k.frozen h.lt hr]; exact h.z2, k.row h.own hs⟩
theorem CutAt.fresh (h : CutAt w cb s a v ts) (hb : Below w.heap.size w w') : CutAt w' cb s a v ts :=
 h.keeps (S := fun _ => False) (Keeps.of_new hb) (fun h => h) (fun _ _ h => h)
theorem aQ {x y : Nat} (h : x ≠ y) (a : Nat) : (⟨a, x, none⟩ : Addr) ≠ ⟨a, y, none⟩ := fun e => h (by injection e)
theorem CutAt.ownNe (h : CutAt w cb s a v ts) : v.ownBlock ≠ some cb := by
 rcases h.own.2 with ⟨rfl, _⟩ | ⟨g, cap, cur, rfl, hb, _⟩
 ·intro e; cases e
 ·intro e
  simp only [Value.ownBlock, Option.some.injEq] at e
  omega
theorem CutAt.set1 (h : CutAt w cb s a v ts) (b : Nat) : CutAt (w.setCell ⟨cb, 1, none⟩ (.int .i64 b)) cb s b v ts := by
 have hs : Keeps (fun b => b = cb) w (w.setCell ⟨cb, 1, none⟩ (.int .i64 b)) := (Keeps.refl (fun b : Nat => b = cb) w).setCell (S := fun b : Nat => b = cb) (p := ⟨cb, 1, none⟩) (Or.inl rfl) _
 refine ⟨?_, World.cell?_setCell_same _ _ _ h.c1, ?_, ?_, ?_, hs.row h.own (fun k e e2 => h.ownNe (by rw [e, e2]))⟩
 ·rw [World.cell?_setCell_other _ _ _ _ (aQ (by decide) cb)]; exact h.c0
 ·rw [World.cell?_setCell_other _ _ _ _ (aQ (by decide) cb)]; exact h.c2
 ·rw [World.frozen?_setCell]; exact h.z1
 ·rw [World.frozen?_setCell]; exact h.z2
theorem iV {S : Nat -> Prop} {a w : World} (h : Keeps S a w) (n : Nat) : Keeps S a (w.drewN n) := ⟨h.os, h.tape, h.output, h.size, h.block⟩
theorem yI (l : B) : Lib.indexByte l 10 = if aC l = l.length then -1 else (aC l : Int) := by
 induction l with
 | nil => rfl
 | cons b r ih =>
  by_cases hb : b = 10
  ·subst hb; rfl
  ·have e : aC (b :: r) = aC r + 1 := by unfold aC; rw [List.takeWhile_cons_of_pos (by simpa using hb)]; rfl
   by_cases h : aC r = r.length
   ·rw [if_pos h] at ih
    rw [if_pos (by rw [e, h]; rfl)]
    simp [Lib.indexByte, hb, ih]
   ·rw [if_neg h] at ih
    have h2 : ¬ ((aC r : Int) = -1) := by omega
    rw [if_neg (by rw [e, List.length_cons]; omega)]
    simp [Lib.indexByte, hb, ih, e, h2]
theorem vP (w : World) (h : CutAt w cb s a v ts) (ha : a <= s.size) (hs : s.size <= 4000) :
  Calls Tryz.prog 145 #[.pointer (some ⟨cb, 0, none⟩)] w fun e w' => e = .returned (.int .i64 (a + aC (rs s a) : Nat)) /\ ∃ n, w' = w.drewN n := by
 have c0 := h.c0
 have c1 := h.c1
 have hle := vD (rs s a)
 have hlen := eP s a
 have hx := yI (rs s a)
 have IB : Hid (∀ W : World, Calls Tryz.prog 197 #[.string (s.extract a s.size), .int .u8 10] W fun e w' => e = .returned (.int .i64 (if aC (rs s a) = (rs s a).length then -1 else (aC (rs s a) : Int))) /\ ∃ n, w' = W.drewN n) := zz fun W => by
  refine (Tryz.strings_IndexByte (s.extract a s.size) 10 W).mono ?_
  rintro e w' ⟨rfl, rfl⟩
  rw [gE]
  exact ⟨by rw [<- hx]; rfl, 0, rfl⟩
 have hai : (a : Int) <= (s.size : Int) := by omega
 clear h hx
 rw [hlen] at hle IB
 generalize aC (rs s a) = m at *
 by_cases hm : m = s.size - a
 ·rw [if_pos hm] at IB
  have e1 : ((a + m : Nat) : Int) = (s.size : Int) := by omega
  rw [e1]
  clear e1 hm hle hlen
  go_enter Tryz.func145, Tryz.ntmps145
  go_wp2_with fail
  go_quiet ((go_at_call 197; exact Calls.quiet_of (IB.out _)))
  go_wp2_with fail
  go_ret
  exact ⟨rfl, _, rfl⟩
 ·rw [if_neg hm] at IB
  go_enter Tryz.func145, Tryz.ntmps145
  go_wp2_with fail
  go_quiet ((go_at_call 197; exact Calls.quiet_of (IB.out _)))
  go_wp2_with fail
  go_ret
  exact ⟨pK (by omega), _, rfl⟩
def Skips (s : ByteArray) (a a' : Nat) : Prop := a <= a' /\ a' <= s.size /\ ∀ may, lx (rs s a) a may = lx (rs s a') a' may
def oC (l : B) : Prop := ∀ b r, l = b :: r -> tX b = false /\ [47, 47].isPrefixOf l = false
theorem Skips.step {k n : Nat} (h : Skips s a k) (hk : k < s.size) (hs : ∀ may, eF (rs s k) may = .skip n) : Skips s a (k + n) := by
 have hne : rs s k ≠ [] := by rw [gD s k hk]; simp
 have hb := (Lx.step_skip hne (hs true)).2
 rw [eP] at hb
 refine ⟨by have := h.1; omega, by omega, fun may => ?_⟩
 rw [h.2.2 may, uH hne (hs may), nD]
def atOf (w : World) (cb : Nat) : Nat := (intOf ((w.cell? ⟨cb, 1, none⟩).getD (.int .i64 0))).toNat
theorem CutAt.atOf (h : CutAt w cb s a v ts) : atOf w cb = a := by simp [Proofs.YtnpapppipccdbaaGreatDoor.atOf, h.c1, intOf]
theorem vQ (w : World) (h : CutAt w cb s a v ts) (ha : a <= s.size) (hs : s.size <= 4000) :
    Calls Tryz.prog 106 #[.pointer (some ⟨cb, 0, none⟩)] w fun e w' => e = .returned (.tuple #[]) /\ ∃ a', Skips s a a' /\ oC (rs s a') /\ CutAt w' cb s a' v ts /\ Keeps (fun b => b = cb) w w' := by
  have H0 := zz h
  clear h
  go_enter Tryz.func106, Tryz.ntmps106
  go_wp2_with fail
  go_loopw [] (fun wr => ∃ k : Nat, Skips s a k /\ CutAt wr cb s k v ts /\ Keeps (fun b => b = cb) w wr) (fun wr => s.size - atOf wr cb)
  case atStart => exact ⟨a, ⟨Nat.le_refl _, ha, fun _ => rfl⟩, H0.out, Keeps.refl _ _⟩
  case round =>
    obtain ⟨k, hk, hc, hkp⟩ := hrel
    have hks := hk.2.1
    have HK := zz hk
    have HC := zz hc
    have HP := zz hkp
    have c0 := hc.c0
    have c1 := hc.c1
    have z1 := hc.z1
    clear hk hc hkp
    have END : Hid (∀ (q n : Nat), k < s.size -> (∀ may, eF (rs s k) may = .skip n) -> (∃ k1, Skips s a k1 /\ CutAt ((wr.drewN q).setCell ⟨cb, 1, none⟩ (.int .i64 ((k + n : Nat) : Int))) cb s k1 v ts /\ Keeps (fun b => b = cb) w ((wr.drewN q).setCell ⟨cb, 1, none⟩ (.int .i64 ((k + n : Nat) : Int)))) ∧
        s.size - atOf ((wr.drewN q).setCell ⟨cb, 1, none⟩ (.int .i64 ((k + n : Nat) : Int))) cb < s.size - atOf wr cb) := zz fun q n hlt hst => by
      have h2 := (HC.out.drewN q).set1 (k + n)
      have hne : rs s k ≠ [] := by rw [gD s k hlt]; simp
      have h1 := (Lx.step_skip hne (hst true)).1
      refine ⟨⟨k + n, HK.out.step hlt hst, h2, (iV HP.out q).setCell (Or.inl rfl) _⟩, ?_⟩
      rw [h2.atOf, HC.out.atOf]
      omega
    by_cases hlt : k < s.size
    · have hcons := gD s k hlt
      have hli : (k : Int) < (s.size : Int) := by omega
      have hii : (0 : Int) <= (k : Int) /\ (k : Int) < (s.size : Int) := by omega
      have hle : (k : Int) <= (s.size : Int) := by omega
      have hpre := gE s k
      by_cases hbl : tX s[k] = true
      · have hst : ∀ may, eF (rs s k) may = .skip 1 := fun may => by rw [hcons, eH, if_pos hbl]
        have E1 := zz (fun q => END.out q 1 hlt hst)
        have hb3 : s[k].toNat = 32 \/ s[k].toNat = 9 \/ s[k].toNat = 13 := by simp [tX] at hbl; omega
        clear hbl hcons hpre hst
        go_wp2_with fail
        go_quiet (fail)
        go_wp2_with fail
        go_quiet (fail)
        rcases hb3 with h3 | h3 | h3
        · have hi3 : (s[k].toNat : Int) = 32 := by omega
          go_wp2_with fail
          exact E1.out _
        · have hi3 : (s[k].toNat : Int) = 9 := by omega
          go_wp2_with fail
          exact E1.out _
        · have hi3 : (s[k].toNat : Int) = 13 := by omega
          go_wp2_with fail
          exact E1.out _
      · have hbl' : tX s[k] = false := by simpa using hbl
        have h32 : ¬ ((s[k].toNat : Int) = 32) := by simp [tX] at hbl'; omega
        have h9 : ¬ ((s[k].toNat : Int) = 9) := by simp [tX] at hbl'; omega
        have h13 : ¬ ((s[k].toNat : Int) = 13) := by simp [tX] at hbl'; omega
        have HX : ∀ r, [47, 47].isPrefixOf (rs s k) = r -> Hid (∀ q z, Calls Tryz.prog 85 #[.string (s.extract k s.size), .string ⟨#[47, 47]⟩] (wr.drewN (q + z)) fun e w' => e = .returned (.bool r) /\ ∃ n, w' = wr.drewN (q + n)) := fun r hr => zz fun q z => by
          refine (Tryz.strings_HasPrefix (s.extract k s.size) ⟨#[47, 47]⟩ _).mono ?_
          rintro e w' ⟨rfl, rfl⟩
          rw [hpre]
          exact ⟨by rw [<- hr]; rfl, z, rfl⟩
        by_cases hp : [47, 47].isPrefixOf (rs s k) = true
        · have hst : ∀ may, eF (rs s k) may = .skip (aC (rs s k)) := fun may => by rw [hcons] at hp ⊢; rw [eH, if_neg hbl, if_pos hp]
          have hx := HX _ hp
          have E1 := zz (fun q => END.out q (aC (rs s k)) hlt hst)
          have HLE : Hid (∀ q, Calls Tryz.prog 145 #[.pointer (some ⟨cb, 0, none⟩)] (wr.drewN q) fun e w' => e = .returned (.int .i64 (k + aC (rs s k) : Nat)) /\ ∃ n, w' = (wr.drewN q).drewN n) := zz fun q => vP _ (HC.out.drewN q) hks hs
          clear hbl hbl' hcons hpre hst HX hp
          generalize aC (rs s k) = m at *
          go_wp2_with fail
          go_quiet (fail)
          go_wp2_with fail
          go_quiet (fail)
          go_wp2_with fail
          go_quiet ((go_at_call 85; exact hx.out _ _))
          go_wp2_with fail
          refine (HLE.out _).mono ?_
          rintro e w' ⟨rfl, q, rfl⟩
          go_wp2_with fail
          exact E1.out _
        · have hp' : [47, 47].isPrefixOf (rs s k) = false := Bool.eq_false_iff.2 hp
          have hx := HX _ hp'
          have hst : oC (rs s k) := fun b r e => by
            rw [hcons] at e
            cases e
            exact ⟨hbl', hp'⟩
          have HS := zz hst
          clear hbl hbl' hcons hpre hst HX hp hp'
          go_wp2_with fail
          go_quiet (fail)
          go_wp2_with fail
          go_quiet (fail)
          go_wp2_with fail
          go_quiet ((go_at_call 85; exact hx.out _ _))
          go_wp2_with fail
          try simp only [Exit.inBlock, Exit.then]
          refine bodyPost_ret (results_none rfl _ _ _) rfl ?_
          exact ⟨rfl, k, HK.out, HS.out, (HC.out.drewN _).drewN _, iV (iV HP.out _) _⟩
    · have hli : ¬ (k : Int) < (s.size : Int) := by omega
      have HS : Hid (oC (rs s k)) := zz (by rw [p8 s k (by omega)]; intro b r e; cases e)
      go_wp2_with fail
      go_quiet (fail)
      go_wp2_with fail
      go_end0
      exact ⟨rfl, k, HK.out, HS.out, HC.out.drewN _, iV HP.out _⟩
end Go.Proofs.YtnpapppipccdbaaGreatDoor
namespace Go.Proofs.YtnpapppipccdbaaGreatDoor
open Go.RowKit Lx Go.Maps
theorem mC {i : Option TypeInfo} {z : Value} {n m : Nat} (h : i.map (fun i => (i.zero, i.size, i.bytes)) = some (some z, n, m)) : ∃ i0, i = some i0 /\ i0.zero = some z /\ i0.size = n /\ i0.bytes = m := by
 cases i with
 | none => cases h
 | some i0 =>
  simp only [Option.map_some, Option.some.injEq, Prod.mk.injEq] at h
  exact ⟨i0, rfl, h.1, h.2.1, h.2.2⟩
theorem yJ : (Tryz.prog.info? 110).map (fun i => (i.zero, i.size, i.bytes)) = some (some (.agg #[.int .i64 0, .string ByteArray.empty, .int .i64 0]), 3, 32) := by kernel_rfl
theorem p9 (w : World) (x y z : Value) (t : TypeId) : ∀ j u, [x, y, z][j]? = some u -> (w.alloc (.cells #[x, y, z] t)).cell? ((⟨w.heap.size, 0, none⟩ : Addr).add j) = some u := by
 intro j u hj
 match j, hj with
 | 0, hj => simp at hj; subst hj; simp [Addr.add]
 | 1, hj => simp at hj; subst hj; simp [Addr.add]
 | 2, hj => simp at hj; subst hj; simp [Addr.add]
theorem uJ {ops : Array Oper} {o : Oper} {a : Act} {w : World} {K : Act -> World -> Prop} {Q : Exit -> Act -> World -> Prop} {E : Prop}
  (hg : o.guard = none) (s x : Operand) (hop : o.op = Op.call { callee := Callee.builtin Builtin.append, args := #[s, x], argTypes := #[73, 73] })
  (i : TypeInfo) (h2 : Tryz.prog.info? 110 = some i) (h3 : i.zero = some (.agg #[.int .i64 0, .string ByteArray.empty, .int .i64 0])) (h4 : i.size = 3) (h5 : i.bytes = 32)
  (base : Nat) (v : Value) (n : Nat) (xs : List Value) (hown : w.ownsRow base 110 3 v n xs) (hn : n <= 10000) (hbase : base <= w.heap.size)
  (ad : Addr) (x1 x3 : Int) (x2 : ByteArray) (hc : ∀ j u, [Value.int .i64 x1, Value.string x2, Value.int .i64 x3][j]? = some u -> w.cell? (ad.add j) = some u)
  (hs : a.eval s = v) (hx : a.eval x = .slice (some ad) 1 1)
  (hK : ∀ ao' cap' w', w'.ownsRow base 110 3 (.slice ao' (n + 1) cap') (n + 1) (xs ++ [Value.int .i64 x1, Value.string x2, Value.int .i64 x3]) -> w.grownBy w' v.ownBlock -> K (a.put o.dst (.slice ao' (n + 1) cap')) w') :
  if Region.wanted o (yielded ops a.tmps) = true then Oper.wp Tryz.prog o a w K Q else E := by
 have hw : Region.wanted o (yielded ops a.tmps) = true := by simp [Region.wanted, hg]
 rw [if_pos hw]
 obtain ⟨v', w', hrun, r1, r2, _, r4⟩ := run_append_own_at (P := Tryz.prog) w base 73 o.type 110 i (.agg #[.int .i64 0, .string ByteArray.empty, .int .i64 0]) 3 32 Tryz.underlying73 h2 h3 h4 h5 rfl (by decide) v n xs hown ad 1 1 [.int .i64 x1, .string x2, .int .i64 x3] rfl hc
  (fun u hu => by simp at hu; rcases hu with rfl | rfl | rfl <;> rfl) (by unfold maxLen; omega) (by omega) hbase
 have hv' : ∃ ao' cap', v' = .slice ao' (n + 1) cap' := by
  rcases r1.2 with ⟨_, h0⟩ | ⟨g, cap', cur, rfl, _⟩
  ·omega
  ·exact ⟨_, _, rfl⟩
 obtain ⟨ao', cap', rfl⟩ := hv'
 unfold Oper.wp
 simp [execOp, hop, resolve, invoke, builtin, hs, hx, hrun, Result.andThen]
 exact hK _ _ _ r1 r2
variable {w w' : World} {cb a : Nat} {s : ByteArray} {v : Value} {ts : List Tok}
theorem EZ {w w' : World} {r : Option Nat} (h : w.drew.grownBy w' r) : w.grownBy w' r := ⟨h.os, h.tape, h.output, h.size, h.block⟩
theorem CutAt.pushed {w0 : World} {k at_ : Nat} {l : B} {v' : Value} (h : CutAt w0 cb s a v ts) (hk : Keeps (fun b => v.ownBlock = some b) w0 w')
  (ho : w'.ownsRow (cb + 1) 110 3 v' (ts.length + 1) (dN ts ++ [.int .i64 k, .string (mkT l), .int .i64 at_])) : CutAt (w'.setCell ⟨cb, 2, none⟩ v') cb s a v' (ts ++ [⟨k, l, at_⟩]) := by
 have hne := h.ownNe
 have hs : Keeps (fun b => b = cb) w' (w'.setCell ⟨cb, 2, none⟩ v') := (Keeps.refl (fun b : Nat => b = cb) w').setCell (S := fun b : Nat => b = cb) (p := ⟨cb, 2, none⟩) (Or.inl rfl) _
 have hv' : v'.ownBlock ≠ some cb := by
  rcases ho.2 with ⟨rfl, _⟩ | ⟨g, cap, cur, rfl, hb, _⟩
  ·intro e; cases e
  ·intro e
   simp only [Value.ownBlock, Option.some.injEq] at e
   omega
 refine ⟨?_, ?_, World.cell?_setCell_same _ _ _ (hk.cell_of h.c2 hne), ?_, ?_, ?_⟩
 ·rw [World.cell?_setCell_other _ _ _ _ (aQ (by decide) cb)]; exact hk.cell_of h.c0 hne
 ·rw [World.cell?_setCell_other _ _ _ _ (aQ (by decide) cb)]; exact hk.cell_of h.c1 hne
 ·rw [World.frozen?_setCell, hk.frozen h.lt hne]; exact h.z1
 ·rw [World.frozen?_setCell, hk.frozen h.lt hne]; exact h.z2
 ·rw [List.length_append, <- vO]
  exact hs.row ho (fun k e e2 => hv' (by rw [e, e2]))
theorem CJ (t : ByteArray) (W : World) (hs : t.size <= 4000) : Calls Tryz.prog 198 #[.string t] W fun e w' => e = .returned (.string t) /\ Below W.heap.size W w' := by
 go_enter Tryz.func198, Tryz.ntmps198
 go_wp2_with (go_at_call 256; refine (Tryz.stringslite_Clone t _ (by omega)).mono ?_; rintro e w1 ⟨rfl, hb1⟩)
 go_ret
 exact ⟨rfl, hb1⟩
theorem lI (k n : Nat) (w : World) (h : CutAt w cb s a v ts) (ha : a + n <= s.size) (hs : s.size <= 4000) (hl : ts.length <= 5000) :
  Calls Tryz.prog 146 #[.pointer (some ⟨cb, 0, none⟩), .int .i64 k, .int .i64 n] w fun e w' => e = .returned (.tuple #[]) /\ ∃ v', CutAt w' cb s (a + n) v' (ts ++ [⟨k, (rs s a).take n, a⟩]) /\ Below cb w w' := by
 have H0 := zz h
 have c0 := h.c0
 have c1 := h.c1
 obtain ⟨i0, hi, hz0, hz1, hz2⟩ := mC yJ
 have he : (s.extract a (a + n)).size <= 4000 := by rw [ByteArray.size_extract]; omega
 have hxl : s.extract a (a + n) = mkT ((rs s a).take n) := by
  rw [<- EY (s.extract a (a + n)), kD]; congr 2; omega
 have hai : (a : Int) <= (a : Int) + (n : Int) := by omega
 have hbi : (0 : Int) <= (a : Int) + (n : Int) /\ (a : Int) + (n : Int) <= (s.size : Int) := by omega
 have hti : ((a : Int) + (n : Int)).toNat = a + n := by omega
 have CL : Hid (∀ W, Calls Tryz.prog 198 #[.string (s.extract a (a + n))] W fun e w' => e = .returned (.string (mkT ((rs s a).take n))) /\ Below W.heap.size W w') := zz fun W => by
  have := CJ (s.extract a (a + n)) W he
  rw [hxl] at this ⊢
  exact this
 clear h hxl he
 have e1 : IntKind.i64.wrap ((a : Int) + (n : Int)) = (a : Int) + (n : Int) := by rw [IntKind.wrap_i64]; omega
 go_enter Tryz.func146, Tryz.ntmps146
 go_wp2_with fail
 go_still_tail 15, (by kernel_rfl)
 change wpList _ _ _ _ _ w.drew
 go_wp2_with (go_at_call 198; refine (CL.out _).mono ?_; rintro e w1 ⟨rfl, hb1⟩)
 have H1 := zz (H0.out.fresh (w' := w1) ⟨hb1.os, hb1.tape, hb1.output, hb1.size, hb1.block⟩)
 have HB1 : Hid (Below cb w w1) := zz ⟨hb1.os, hb1.tape, hb1.output, hb1.size, fun k hk => hb1.block k (Nat.lt_trans hk H0.out.lt)⟩
 clear hb1 c0 c1
 generalize hT : mkT ((rs s a).take n) = T at *
 have HTE := zz hT
 clear hT
 have hlt1 := H1.out.lt
 have c1 : (w1.alloc (.cells #[.int .i64 k, .string T, .int .i64 a] 110)).cell? ⟨cb, 1, none⟩ = some (.int .i64 a) := by rw [World.cell?_alloc_lt _ _ _ hlt1]; exact H1.out.c1
 have c2 : (w1.alloc (.cells #[.int .i64 k, .string T, .int .i64 a] 110)).cell? ⟨cb, 2, none⟩ = some v := by rw [World.cell?_alloc_lt _ _ _ hlt1]; exact H1.out.c2
 have d1 := H1.out.c1
 have d2 := H1.out.c2
 have hcb : cb ≠ w1.heap.size := Nat.ne_of_lt hlt1
 have HOWN : Hid ((w1.alloc (.cells #[.int .i64 k, .string T, .int .i64 a] 110)).drew.ownsRow (cb + 1) 110 3 v ts.length (dN ts)) := zz (World.ownsRow.alloc H1.out.own _)
 have HC : Hid (∀ j u, [Value.int .i64 k, Value.string T, Value.int .i64 a][j]? = some u -> (w1.alloc (.cells #[.int .i64 k, .string T, .int .i64 a] 110)).drew.cell? ((⟨w1.heap.size, 0, none⟩ : Addr).add j) = some u) := zz (p9 w1 _ _ _ _)
 have HSZ2 : Hid (cb + 1 <= (w1.alloc (.cells #[.int .i64 k, .string T, .int .i64 a] 110)).drew.heap.size) := zz (by simp; omega)
 have HKP : Hid (∀ w3 : World, (w1.alloc (.cells #[.int .i64 k, .string T, .int .i64 a] 110)).drew.grownBy w3 v.ownBlock -> Keeps (fun b => v.ownBlock = some b) w1 w3) := zz fun w3 hg =>
  ((Keeps.refl (fun b => v.ownBlock = some b) w1).alloc _).trans' (Keeps.of_grownBy (EZ hg) fun k _ e => e) fun _ _ e => e
 have HFZ : Hid (∀ w3 : World, Keeps (fun b => v.ownBlock = some b) w1 w3 -> w3.cell? ⟨cb, 2, none⟩ = some v /\ w3.frozen? ⟨cb, 2, none⟩ = false /\ w3.cell? ⟨cb, 1, none⟩ = some (.int .i64 a)) := zz fun w3 hk =>
  ⟨hk.cell_of H1.out.c2 H1.out.ownNe, by rw [hk.frozen (p := ⟨cb, 2, none⟩) H1.out.lt H1.out.ownNe]; exact H1.out.z2, hk.cell_of H1.out.c1 H1.out.ownNe⟩
 have hl2 : ts.length <= 10000 := by omega
 go_region_law (refine uJ rfl (.tmp 27) (.tmp 35) rfl i0 hi hz0 hz1 hz2 (cb + 1) v ts.length (dN ts) HOWN.out hl2 HSZ2.out ⟨w1.heap.size, 0, none⟩ k a T HC.out (by simp [Act.eval]) (by simp [Act.eval]) ?_; intro ao' cap' w3 hown3 hgrow3; have hk3 := HKP.out _ hgrow3; obtain ⟨c23, z23, c13⟩ := HFZ.out _ hk3; have HK3 := zz hk3; have HO3 := zz hown3; clear hk3 hown3 hgrow3)
 all_goals
  have hp := H1.out.pushed (w' := w3) (l := (rs s a).take n) HK3.out (by rw [HTE.out]; exact HO3.out)
  have HP := zz hp
  have c1 := hp.c1
  have z1 := hp.z1
  clear hp
  go_wp2_with fail
  go_end0
  refine ⟨rfl, _, HP.out.set1 (a + n), ?_⟩
  have hB : Below cb w1 (w3.setCell ⟨cb, 2, none⟩ (.slice ao' (ts.length + 1) cap')) := by
   refine (Keeps.below (S := fun b => v.ownBlock = some b) HK3.out (Nat.le_of_lt H1.out.lt) ?_).setCell (Nat.le_refl _) _
   intro k _ hk
   rcases H1.out.own.2 with ⟨rfl, _⟩ | ⟨g, cap, cur, rfl, hb, _⟩
   ·cases hk
   ·simp only [Value.ownBlock, Option.some.injEq] at hk; omega
  exact (HB1.out.trans hB).setCell (Nat.le_refl _) _
end Go.Proofs.YtnpapppipccdbaaGreatDoor
namespace Go.Proofs.YtnpapppipccdbaaGreatDoor
open Go.RowKit Lx
def IR (w : World) : Prop := ∃ tp p, w.cell? ⟨11, 0, none⟩ = some (.iface tp p)
def Sgs (w : World) : Prop := ∀ n : Nat, n < 28 -> w.cell? ⟨3, n, none⟩ = some (.string (mkT (f9.getD n [])))
structure LexEnv (n : Nat) (w : World) : Prop where
 tabs : Tabs w
 errR : IR w
 sgs : Sgs w
 b1 : 5 < n
 b2 : 6 < n
 b3 : 11 < n
 b4 : 3 < n
theorem LexEnv.below {n m : Nat} {w w' : World} (h : LexEnv n w) (hb : Below m w w') (hm : n <= m) : LexEnv n w' := by
 have h1 := h.b1; have h2 := h.b2; have h3 := h.b3; have h4 := h.b4
 refine ⟨h.tabs.below hb (by omega) (by omega), ?_, fun k hk => ?_, h1, h2, h3, h4⟩
 ·obtain ⟨tp, p, hc⟩ := h.errR
  exact ⟨tp, p, by rw [hb.cell (p := ⟨11, 0, none⟩) (show 11 < m by omega)]; exact hc⟩
 ·rw [hb.cell (p := ⟨3, k, none⟩) (show 3 < m by omega)]; exact h.sgs k hk
theorem LexEnv.drewN {n : Nat} {w : World} (h : LexEnv n w) (q : Nat) : LexEnv n (w.drewN q) := ⟨h.tabs, h.errR, h.sgs, h.b1, h.b2, h.b3, h.b4⟩
def lJ (w : World) (cb : Nat) (x : Value) (r a : Nat) : Prop :=
 ∃ b, x = .iface 145 (.pointer (some ⟨b, 0, none⟩)) /\ cb < b /\ w.cell? ⟨b, 0, none⟩ = some (.int .i64 r) /\ w.cell? ⟨b, 1, none⟩ = some (.int .i64 a)
variable {w w' : World} {cb a : Nat} {s : ByteArray} {v : Value} {ts : List Tok}
theorem oD (r : Nat) (w : World) (h : CutAt w cb s a v ts) :
  Calls Tryz.prog 199 #[.pointer (some ⟨cb, 0, none⟩), .int .i64 r] w fun e w' => ∃ x, e = .returned x /\ lJ w' cb x r a /\ Below w.heap.size w w' := by
 have c1 := h.c1
 have hlt := h.lt
 clear h
 go_enter Tryz.func199, Tryz.ntmps199
 go_wp2_with fail
 go_ret
 exact ⟨_, rfl, ⟨_, rfl, hlt, by simp, by simp⟩, (Below.refl _ _).alloc (Nat.le_refl _) _⟩
def nE (w' : World) (cb : Nat) (s : ByteArray) (a : Nat) (ts : List Tok) (e : Ending) : Cut -> Prop
 | .tok k n => e = .returned .nilIface /\ ∃ v', CutAt w' cb s (a + n) v' (ts ++ [⟨k, (rs s a).take n, a⟩])
 | .err r => ∃ x, e = .returned x /\ lJ w' cb x r a
theorem E0 (l : B) : ∀ b ∈ l.takeWhile cI, cI b = true := fun b hb => by
 induction l with
 | nil => cases hb
 | cons c r ih =>
  by_cases h : cI c
  ·rw [List.takeWhile_cons_of_pos h] at hb
   rcases List.mem_cons.1 hb with rfl | hb
   ·exact h
   ·exact ih hb
  ·rw [List.takeWhile_cons_of_neg h] at hb; cases hb
def CK (acc : Nat) (d : B) : Nat := d.foldl (fun n b => n * 10 + (b.toNat - 48)) acc
theorem IU (d : B) : ∀ acc, acc <= CK acc d := by
 induction d with
 | nil => intro acc; exact Nat.le_refl _
 | cons b r ih => intro acc; exact Nat.le_trans (by omega) (ih (acc * 10 + (b.toNat - 48)))
theorem mD (d : B) (h : ∀ b ∈ d, cI b = true) : ∀ acc, acc <= 18446744073709551615 -> Lib.parseUintM 18446744073709551615 acc d = if CK acc d <= 18446744073709551615 then .ok (CK acc d) else .range := by
 induction d with
 | nil => intro acc hacc; unfold Lib.parseUintM CK; rw [List.foldl_nil, if_pos hacc]
 | cons b r ih =>
  intro acc hacc
  have hb := h b (List.mem_cons_self ..)
  have hd : 48 <= b.toNat /\ b.toNat <= 57 := by simp [cI] at hb; exact hb
  have e : CK acc (b :: r) = CK (acc * 10 + (b.toNat - 48)) r := rfl
  have hg := IU r (acc * 10 + (b.toNat - 48))
  unfold Lib.parseUintM
  rw [if_pos hd, e]
  by_cases h1 : 1844674407370955162 <= acc
  ·rw [if_pos h1, if_neg (by omega)]
  ·rw [if_neg h1]
   by_cases h2 : 18446744073709551615 < acc * 10 + (b.toNat - 48)
   ·rw [if_pos h2, if_neg (by omega)]
   ·rw [if_neg h2]
    exact ih (fun c hc => h c (List.mem_cons_of_mem _ hc)) _ (by omega)
theorem uK (d : B) (h : ∀ b ∈ d, cI b = true) (hne : d ≠ []) : Lib.parseIntB 64 d = if nA d then .range else .ok ((dY d : Nat) : Int) := by
 cases d with
 | nil => exact absurd rfl hne
 | cons c r =>
  have hc := h c (List.mem_cons_self ..)
  have hd : 48 <= c.toNat /\ c.toNat <= 57 := by simp [cI] at hc; exact hc
  have e : Lib.parseUintB 64 (c :: r) = if dY (c :: r) <= 18446744073709551615 then .ok (dY (c :: r)) else .range := by
   have := mD (c :: r) h 0 (by omega)
   unfold Lib.parseUintB
   rw [if_neg (by simp)]
   exact this
  have h45 : ¬ c.toNat = 45 := by omega
  have h43 : ¬ (c.toNat = 43 \/ c.toNat = 45) := by omega
  unfold Lib.parseIntB nA
  simp only [if_neg h43]
  rw [e]
  by_cases h1 : dY (c :: r) <= 18446744073709551615
  ·rw [if_pos h1]
   simp only [h45, not_false_eq_true, true_and, false_and, if_false]
   by_cases h2 : 9223372036854775807 < dY (c :: r)
   ·rw [if_pos (by omega), if_pos (by simpa using h2)]
   ·rw [if_neg (by omega), if_neg (by simpa using h2)]
  ·rw [if_neg h1, if_pos (by simp; omega)]
theorem CM (d : ByteArray) (hd : ∀ b ∈ d.data.toList, cI b = true) (h1 : 0 < d.size) (h2 : d.size <= 4000) (W : World) (hE : IR W) :
  Calls Tryz.prog 200 #[.string d, .int .i64 10, .int .i64 64] W fun e w' => (∃ n x, e = .returned (.tuple #[.int .i64 n, x]) /\ if nA d.data.toList = true then ∃ p, x = .iface 305 p else x = .nilIface) /\ Below W.heap.size W w' := by
 have hp := uK d.data.toList hd (by intro e; have : d.data.toList.length = d.size := (by simp); rw [e] at this; simp at this; omega)
 by_cases hb : nA d.data.toList = true
 ·rw [if_pos hb] at hp
  obtain ⟨tp, p, hc⟩ := hE
  refine (Tryz.strconv_ParseInt_10_at64_range d (by omega) hp _ W hc (Or.inr ⟨tp, p, rfl⟩)).mono ?_
  rintro e w' ⟨N, rfl, -, -, hbl⟩
  exact ⟨⟨_, _, rfl, by rw [if_pos hb]; exact ⟨_, rfl⟩⟩, hbl⟩
 ·rw [if_neg hb] at hp
  refine (Tryz.strconv_ParseInt_10_at64_ok d (by omega) _ hp W).mono ?_
  rintro e w' ⟨rfl, hw⟩
  refine ⟨⟨_, _, rfl, by rw [if_neg hb]⟩, ?_⟩
  rcases hw with rfl | ⟨t, rfl⟩
  ·exact Below.refl _ _
  ·exact Lib.bytesWorld_below _ _ _
end Go.Proofs.YtnpapppipccdbaaGreatDoor
namespace Go.Proofs.YtnpapppipccdbaaGreatDoor
open Go.RowKit Lx
variable {w w' : World} {cb a : Nat} {s : ByteArray} {v : Value} {ts : List Tok}
theorem oE (s : ByteArray) (k : Nat) (h : k < s.size) : jU (rs s k) = if cI s[k] = true then jU (rs s (k + 1)) + 1 else 0 := by
 rw [gD s k h]
 by_cases hd : cI s[k] = true
 ·rw [if_pos hd, n8 hd]
 ·rw [if_neg hd, IA (by simpa using hd)]
theorem rL (w : World) (h : CutAt w cb s a v ts) (ha : a < s.size) (hs : s.size <= 4000) (hl : ts.length <= 5000) (hE : LexEnv cb w) (hd : cI s[a] = true) :
    Calls Tryz.prog 148 #[.pointer (some ⟨cb, 0, none⟩)] w fun e w' => nE w' cb s a ts e (gO (rs s a)) /\ Below cb w w' := by
  have H0 := zz h
  have HE := zz hE
  have c0 := h.c0
  have c1 := h.c1
  have hcb := h.lt
  have hn0 := oE s a ha
  rw [if_pos hd] at hn0
  have hnl := AO (rs s a)
  rw [eP] at hnl
  obtain ⟨n, hn⟩ : ∃ n, n = jU (rs s a) := ⟨_, rfl⟩
  obtain ⟨z, hz⟩ : ∃ z, z = a + n := ⟨_, rfl⟩
  have HD : Hid (∀ b ∈ (rs s a).take n, cI b = true) := zz (by rw [hn, r9]; exact E0 _)
  have HNC : Hid (gO (rs s a) = if (1 < n /\ s[a] = 48) \/ 0 < bS (rs s z) then .err 3 else if nA ((rs s a).take n) then .err 2 else .tok 3 n) := zz (by
    unfold gO
    rw [<- hn, nD, <- hz, gD s a ha]
    simp only [List.head?_cons, Option.some.injEq])
  rw [<- hn] at hn0 hnl
  have HN := zz hn
  have HZ := zz hz
  have hn1 : 1 <= n := by omega
  have hza : a <= z := by omega
  have hzs : z <= s.size := by omega
  have HDL : Hid ((s.extract a z).data.toList = (rs s a).take n) := zz (by rw [kD]; congr 1; omega)
  have hsz : (s.extract a z).size = n := by rw [ByteArray.size_extract]; omega
  have hpos : 0 < (s.extract a z).size := by rw [hsz]; exact hn1
  have h0 : (s.extract a z)[0]'hpos = s[a] := by
    have h1 := gD (s.extract a z) 0 hpos
    have h2 : rs (s.extract a z) 0 = (rs s a).take n := by
      show (s.extract a z).data.toList.drop 0 = _
      rw [List.drop_zero]; exact HDL.out
    rw [h2, gD s a ha] at h1
    obtain ⟨m, rfl⟩ : ∃ m, n = m + 1 := ⟨n - 1, by omega⟩
    rw [List.take_succ_cons] at h1
    exact (List.cons.inj h1).1.symm
  have HSZ := zz hsz
  clear h hE hn0 hn hz hsz
  have WR : Hid (∀ (r : Nat) (W : World), CutAt W cb s a v ts -> Calls Tryz.prog 199 #[.pointer (some ⟨cb, 0, none⟩), .int .i64 r] W fun e w' => ∃ x, e = .returned x /\ lJ w' cb x r a /\ Below W.heap.size W w') := zz fun r W hW => oD r W hW
  have LT : Hid (∀ q, Calls Tryz.prog 149 #[.string s, .int .i64 z] (w.drewN q) fun e w' => e = .returned (.int .i64 (bS (rs s z))) /\ Below (w.drewN q).heap.size (w.drewN q) w') := zz fun q => mL s z _ (by omega) (HE.out.drewN q).tabs
  go_enter Tryz.func148, Tryz.ntmps148
  go_wp2_with fail
  go_loop [3] (fun i => ∃ k : Nat, a <= k /\ k <= s.size /\ i = .int .i64 k /\ z = k + jU (rs s k)) (fun i => s.size - (intOf i).toNat)
  case atStart => exact ⟨a, Nat.le_refl _, by omega, rfl, by rw [HZ.out, HN.out]⟩
  case round =>
    obtain ⟨k, hk1, hk2, rfl, hk⟩ := hrel
    have HKK := zz hk
    have hor : (∃ h : k < s.size, cI s[k] = true) \/ (k = z /\ (∀ h : k < s.size, cI s[k] = false)) := by
      by_cases hlt : k < s.size
      · have hst := oE s k hlt
        by_cases hdk : cI s[k] = true
        · exact Or.inl ⟨hlt, hdk⟩
        · rw [if_neg hdk] at hst
          exact Or.inr ⟨by omega, fun _ => by simpa using hdk⟩
      · have : jU (rs s k) = 0 := by rw [p8 s k (by omega)]; rfl
        exact Or.inr ⟨by omega, fun h => absurd h hlt⟩
    clear hk
    rcases hor with ⟨hlt, hdk⟩ | ⟨rfl, hnd⟩
    · have hst := oE s k hlt
      have hli : (k : Int) < (s.size : Int) := by omega
      have hii : (0 : Int) <= (k : Int) /\ (k : Int) < (s.size : Int) := by omega
      have HDG := fun w => jK s[k] w
      rw [hdk] at HDG
      rw [if_pos hdk] at hst
      have HST := zz hst
      clear hst hdk
      go_wp2_with (go_at_call 147; refine (HDG _).mono ?_; rintro e w2 ⟨rfl, rfl⟩)
      go_round
      case rel =>
        refine ⟨k + 1, by omega, by omega, by go_num, ?_⟩
        have h1 := HKK.out
        have h2 := HST.out
        omega
      case measure => simp [intOf]; omega
    · have HND := zz hnd
      clear hnd
      have hzi : (0 : Int) <= (k : Int) /\ (k : Int) <= (s.size : Int) := by omega
      have hai : (a : Int) <= (k : Int) := by omega
      rcases Nat.lt_or_ge k s.size with hlt | hlt
      all_goals
        first
          | (have hli : (k : Int) < (s.size : Int) := by omega
             have hii : (0 : Int) <= (k : Int) /\ (k : Int) < (s.size : Int) := by omega
             have HDG := fun w => jK (s[k]'hlt) w
             rw [HND.out hlt] at HDG
             go_wp2_with (go_at_call 147; refine (HDG _).mono ?_; rintro e w2 ⟨rfl, rfl⟩)
             clear HDG)
          | (have hli : ¬ (k : Int) < (s.size : Int) := by omega
             go_wp2_with fail)
      all_goals
        go_quiet (fail)
        generalize s.extract a k = D at *
        have hsz := HSZ.out
        subst hsz
        have BL : Hid (∀ (q : Nat) (w1 : World), Below (w.drewN q).heap.size (w.drewN q) w1 -> Below cb w w1) := zz fun q w1 hb => ⟨hb.os, hb.tape, hb.output, hb.size, fun k hk => hb.block k (Nat.lt_trans hk hcb)⟩
        have CF : Hid (∀ (q : Nat) (w1 : World), Below (w.drewN q).heap.size (w.drewN q) w1 -> CutAt w1 cb s a v ts /\ LexEnv cb w1) := zz fun q w1 hb => ⟨(H0.out.drewN q).fresh hb, (HE.out.drewN q).below hb (Nat.le_of_lt hcb)⟩
        have PA : Hid (∀ W : World, IR W -> Calls Tryz.prog 200 #[.string D, .int .i64 10, .int .i64 64] W fun e w' => (∃ n x, e = .returned (.tuple #[.int .i64 n, x]) /\ if nA D.data.toList = true then ∃ p, x = .iface 305 p else x = .nilIface) /\ Below W.heap.size W w') :=
          zz fun W hW => CM D (by rw [HDL.out]; exact HD.out) hpos (by omega) W hW
        have TK : Hid (∀ W : World, CutAt W cb s a v ts -> Calls Tryz.prog 146 #[.pointer (some ⟨cb, 0, none⟩), .int .i64 3, .int .i64 D.size] W fun e w' => e = .returned (.tuple #[]) /\ ∃ v', CutAt w' cb s (a + D.size) v' (ts ++ [⟨3, (rs s a).take D.size, a⟩]) /\ Below cb W w') :=
          zz fun W hW => lI 3 D.size W hW (by have := HZ.out; omega) hs hl
        have hor2 : (1 < D.size /\ s[a] = 48) \/ (1 < D.size /\ s[a] ≠ 48) \/ ¬ 1 < D.size := by
          by_cases h1 : 1 < D.size
          · by_cases h2 : s[a] = 48
            · exact Or.inl ⟨h1, h2⟩
            · exact Or.inr (Or.inl ⟨h1, h2⟩)
          · exact Or.inr (Or.inr h1)
        have HDT : Hid (nA ((rs s a).take D.size) = nA D.data.toList) := zz (by rw [HDL.out])
        clear HD HN HSZ HDL hnl hn1 HKK HND
        rcases hor2 with ⟨h1, h2⟩ | hor2
        · have hi1 : (1 : Int) < (D.size : Int) := by omega
          have hi2 : (s[a].toNat : Int) = 48 := by rw [h2]; rfl
          have HR : Hid (gO (rs s a) = .err 3) := zz (by rw [HNC.out, if_pos (Or.inl ⟨h1, h2⟩)])
          go_wp2_with (go_at_call 199; refine (WR.out 3 _ (H0.out.drewN _)).mono ?_; rintro e w1 ⟨x, rfl, hat, hb1⟩)
          go_ret
          rw [HR.out]
          exact ⟨⟨x, rfl, hat⟩, BL.out _ _ hb1⟩
        · have hno : ¬ (1 < D.size /\ s[a] = 48) := by
            rintro ⟨g1, g2⟩
            rcases hor2 with ⟨_, h⟩ | h
            · exact h g2
            · exact h g1
          have HR : Hid (gO (rs s a) = if 0 < bS (rs s k) then .err 3 else if nA D.data.toList then .err 2 else .tok 3 D.size) := zz (by
            rw [HNC.out, HDT.out]
            by_cases hL : 0 < bS (rs s k)
            · rw [if_pos (Or.inr hL), if_pos hL]
            · rw [if_neg (fun h => by rcases h with h | h; exact hno h; exact hL h), if_neg hL])
          clear hno HNC
          have hor3 : (((1 : Int) < (D.size : Int)) /\ ¬ ((s[a].toNat : Int) = 48)) \/ ¬ ((1 : Int) < (D.size : Int)) := by
            rcases hor2 with ⟨g1, g2⟩ | g1
            · refine Or.inl ⟨by omega, fun e => g2 ?_⟩
              exact UInt8.toNat_inj.1 (by have : (48 : UInt8).toNat = 48 := rfl; omega)
            · exact Or.inr (by omega)
          clear hor2
          generalize bS (rs s k) = L at *
          by_cases hL : 0 < L
          · have hLi : (0 : Int) < (L : Int) := by omega
            rw [if_pos hL] at HR
            rcases hor3 with ⟨g1, g2⟩ | g1
            all_goals
              go_wp2_with (first | (go_at_call 149; refine (LT.out _).mono ?_; rintro e w1 ⟨rfl, hb1⟩) | (go_at_call 199; refine (WR.out 3 _ (CF.out _ _ hb1).1).mono ?_; rintro e w2 ⟨x, rfl, hat, hb2⟩))
              go_ret
              rw [HR.out]
              exact ⟨⟨x, rfl, hat⟩, (BL.out _ _ hb1).trans (hb2.mono (by have := (CF.out _ _ hb1).1.lt; omega))⟩
          · have hLi : ¬ (0 : Int) < (L : Int) := by omega
            rw [if_neg hL] at HR
            by_cases hB : nA D.data.toList = true
            · rw [if_pos hB] at HR
              rcases hor3 with ⟨g1, g2⟩ | g1
              all_goals
                go_wp2_with (first | (go_at_call 149; refine (LT.out _).mono ?_; rintro e w1 ⟨rfl, hb1⟩) | (go_at_call 200; refine (PA.out _ (CF.out _ _ hb1).2.errR).mono ?_; rintro e w2 ⟨⟨m, x, rfl, hx⟩, hb2⟩; rw [if_pos hB] at hx; obtain ⟨p, rfl⟩ := hx) | (go_at_call 199; refine (WR.out 2 _ ((CF.out _ _ hb1).1.fresh hb2)).mono ?_; rintro e w3 ⟨y, rfl, hat, hb3⟩))
                go_ret
                rw [HR.out]
                have hc := (CF.out _ _ hb1).1
                exact ⟨⟨y, rfl, hat⟩, ((BL.out _ _ hb1).trans (hb2.mono (Nat.le_of_lt hc.lt))).trans (hb3.mono (Nat.le_of_lt (hc.fresh hb2).lt))⟩
            · rw [if_neg hB] at HR
              rcases hor3 with ⟨g1, g2⟩ | g1
              all_goals
                go_wp2_with (first | (go_at_call 149; refine (LT.out _).mono ?_; rintro e w1 ⟨rfl, hb1⟩) | (go_at_call 200; refine (PA.out _ (CF.out _ _ hb1).2.errR).mono ?_; rintro e w2 ⟨⟨m, x, rfl, hx⟩, hb2⟩; rw [if_neg hB] at hx; subst hx) | (go_at_call 146; refine (TK.out _ ((CF.out _ _ hb1).1.fresh hb2)).mono ?_; rintro e w3 ⟨rfl, v', hv', hb3⟩))
                go_ret
                rw [HR.out]
                have hc := (CF.out _ _ hb1).1
                exact ⟨⟨rfl, v', hv'⟩, ((BL.out _ _ hb1).trans (hb2.mono (Nat.le_of_lt hc.lt))).trans hb3⟩
theorem vR (w : World) (h : CutAt w cb s a v ts) (ha : a < s.size) (hs : s.size <= 4000) (hl : ts.length <= 5000) (hE : LexEnv cb w) :
  Calls Tryz.prog 150 #[.pointer (some ⟨cb, 0, none⟩)] w fun e w' => nE w' cb s a ts e (gA (rs s a)) /\ Below cb w w' := by
 have H0 := zz h
 have HE := zz hE
 have c0 := h.c0
 have c1 := h.c1
 have hcb := h.lt
 have hnl := pU _ (rs s a) (Nat.le_refl _)
 rw [eP] at hnl
 obtain ⟨n, hn⟩ : ∃ n, n = bD (rs s a) := ⟨_, rfl⟩
 obtain ⟨z, hz⟩ : ∃ z, z = a + n := ⟨_, rfl⟩
 have HNC : Hid (gA (rs s a) = if j9 ((rs s a).take n) then .tok 2 n else if 12 < n then .err 4 else .tok 1 n) := zz (by unfold gA; rw [<- hn])
 rw [<- hn] at hnl
 have HZ := zz hz
 have hza : a <= z := by omega
 have hzs : z <= s.size := by omega
 have HDL : Hid ((s.extract a z).data.toList = (rs s a).take n) := zz (by rw [kD]; congr 1; omega)
 have HSZ : Hid ((s.extract a z).size = n) := zz (by rw [ByteArray.size_extract]; omega)
 have WE : Hid (∀ q, Calls Tryz.prog 201 #[.string s, .int .i64 a] (w.drewN q) fun e w' => e = .returned (.int .i64 z) /\ Below (w.drewN q).heap.size (w.drewN q) w') := zz fun q => by
  have := vN s a (w.drewN q) (by omega) (by omega) (HE.out.drewN q).tabs
  rw [<- hn, <- hz] at this
  exact this
 have hai : (a : Int) <= (z : Int) := by omega
 have hzi : (0 : Int) <= (z : Int) /\ (z : Int) <= (s.size : Int) := by omega
 clear h hE hn hz
 go_enter Tryz.func150, Tryz.ntmps150
 go_wp2_with fail
 go_still_tail 8, (by kernel_rfl)
 change wpList _ _ _ _ _ w.drew
 go_wp2_with (go_at_call 201; refine (WE.out 1).mono ?_; rintro e w1 ⟨rfl, hb1⟩)
 have H1 := zz ((H0.out.drewN 1).fresh hb1)
 have HE1 := zz ((HE.out.drewN 1).below hb1 (Nat.le_of_lt hcb))
 have HB1 : Hid (Below cb w w1) := zz ⟨hb1.os, hb1.tape, hb1.output, hb1.size, fun k hk => hb1.block k (Nat.lt_trans hk hcb)⟩
 clear hb1 c0 c1 WE
 have c0 := H1.out.c0
 have c1 := H1.out.c1
 have hcb1 := H1.out.lt
 go_quiet (fail)
 generalize s.extract a z = D at *
 have hsz := HSZ.out
 subst hsz
 have IK : Hid (∀ W, Calls Tryz.prog 64 #[.string D] W fun e w' => e = .returned (.bool (j9 ((rs s a).take D.size))) /\ W = w') := zz fun W => by
  have := CI D W
  rw [HDL.out] at this
  exact this
 have TK : Hid (∀ k q, Calls Tryz.prog 146 #[.pointer (some ⟨cb, 0, none⟩), .int .i64 ((k : Nat) : Int), .int .i64 D.size] (w1.drewN q) fun e w' => e = .returned (.tuple #[]) /\ ∃ v', CutAt w' cb s (a + D.size) v' (ts ++ [⟨k, (rs s a).take D.size, a⟩]) /\ Below cb (w1.drewN q) w') :=
  zz fun k q => lI k D.size _ (H1.out.drewN q) (by have := HZ.out; omega) hs hl
 have WR : Hid (∀ (r q : Nat), Calls Tryz.prog 199 #[.pointer (some ⟨cb, 0, none⟩), .int .i64 r] (w1.drewN q) fun e w' => ∃ x, e = .returned x /\ lJ w' cb x r a /\ Below (w1.drewN q).heap.size (w1.drewN q) w') := zz fun r q => oD r _ (H1.out.drewN q)
 have BX : Hid (∀ (q : Nat) (w2 : World), Below cb (w1.drewN q) w2 -> Below cb w w2) := zz fun q w2 hb => HB1.out.trans ⟨hb.os, hb.tape, hb.output, hb.size, hb.block⟩
 by_cases hk : j9 ((rs s a).take D.size) = true
 ·rw [hk] at IK
  rw [if_pos hk] at HNC
  go_wp2_with (first | (go_at_call 64; refine (IK.out _).mono ?_; rintro e w2 ⟨rfl, rfl⟩) | (go_at_call 146; refine (TK.out 2 _).mono ?_; rintro e w3 ⟨rfl, v', hv', hb3⟩))
  go_ret
  rw [HNC.out]
  exact ⟨⟨rfl, v', hv'⟩, BX.out _ _ hb3⟩
 ·rw [Bool.eq_false_iff.2 hk] at IK
  rw [if_neg hk] at HNC
  by_cases h12 : 12 < D.size
  ·have hi : (12 : Int) < (D.size : Int) := by omega
   rw [if_pos h12] at HNC
   go_wp2_with (first | (go_at_call 64; refine (IK.out _).mono ?_; rintro e w2 ⟨rfl, rfl⟩) | (go_at_call 199; refine (WR.out 4 _).mono ?_; rintro e w3 ⟨x, rfl, hat, hb3⟩))
   go_ret
   rw [HNC.out]
   exact ⟨⟨x, rfl, hat⟩, BX.out _ _ ⟨hb3.os, hb3.tape, hb3.output, hb3.size, fun k hk => hb3.block k (Nat.lt_trans hk hcb1)⟩⟩
  ·have hi : ¬ (12 : Int) < (D.size : Int) := by omega
   rw [if_neg h12] at HNC
   go_wp2_with (first | (go_at_call 64; refine (IK.out _).mono ?_; rintro e w2 ⟨rfl, rfl⟩) | (go_at_call 146; refine (TK.out 1 _).mono ?_; rintro e w3 ⟨rfl, v', hv', hb3⟩))
   go_ret
   rw [HNC.out]
   exact ⟨⟨rfl, v', hv'⟩, BX.out _ _ hb3⟩
theorem nF : f9.length = 28 := rfl
def CN : Array Value := (f9.map fun z => Value.string (mkT z)).toArray
theorem vS (k : Nat) (h : k < 28) : CN[k]? = some (.string (mkT (f9.getD k []))) := by
 unfold CN
 rw [List.getElem?_toArray, List.getElem?_map, List.getD_eq_getElem?_getD, List.getElem?_eq_getElem (by rw [nF]; exact h)]
 rfl
theorem CO : CN.size = 28 := rfl
theorem yK (w : World) (h : Sgs w) : w.rangeAt 3 0 CN.toList := by
 intro j v hv
 have hj : j < 28 := by
  have := (List.getElem?_eq_some_iff.1 hv).1
  rw [Array.length_toList, CO] at this
  exact this
 rw [Nat.zero_add, h j hj, <- hv, Array.getElem?_toList, vS j hj]
theorem E2 : (Tryz.prog.info? 9).map (fun i => (i.zero, i.size, i.bytes)) = some (some (.string ByteArray.empty), 1, 16) := by kernel_rfl
theorem CP (X : Array Value) (k : Nat) (z : ByteArray) (hk : k < 28) (hg : X[k]? = some (.string z)) (w : World) :
  (Instr.index 249 (.agg X) (.int .i64 k)).run Tryz.prog w = .ok (.string z) w := by
 obtain ⟨i0, hi, hz0, hz1, hz2⟩ := mC E2
 have hkii : (0 : Int) <= (k : Int) /\ (k : Int) < 28 := by omega
 simp [Instr.index, run_underlying Tryz.underlying249, asIntOf, hkii, hk, hg, go_sem]
theorem vT (w : World) (h : CutAt w cb s a v ts) (ha : a < s.size) (hs : s.size <= 4000) (hl : ts.length <= 5000) (hE : LexEnv cb w) :
  Calls Tryz.prog 151 #[.pointer (some ⟨cb, 0, none⟩)] w fun e w' => nE w' cb s a ts e (gP (rs s a)) /\ Below cb w w' := by
 have H0 := zz h
 have HR := zz (yK w hE.sgs)
 have hsi : (Tryz.prog.info? 249).map (·.size) = some CN.toList.length := by kernel_rfl
 have HSI := zz hsi
 clear h hE hsi
 obtain ⟨X, hX⟩ : ∃ X, X = CN := ⟨_, rfl⟩
 have HG : Hid (∀ k, k < 28 -> X[k]? = some (.string (mkT (f9.getD k [])))) := zz (by rw [hX]; exact vS)
 have hsz : X.size = 28 := by rw [hX]; rfl
 rw [<- hX] at HR HSI
 clear hX
 go_enter Tryz.func151, Tryz.ntmps151
 go_wp2_with (refine wpList_load_mid rfl 249 (.global 3) rfl 3 0 rfl X.toList _ HR.out Tryz.underlying249 rfl HSI.out ?_)
 go_loopw [6] (fun i wr => ∃ k : Nat, k <= 28 /\ i = .int .i64 k /\ f9.find? (·.isPrefixOf (rs s a)) = (f9.drop k).find? (·.isPrefixOf (rs s a)) /\ ∃ q, wr = w.drewN q) (fun i _ => 28 - (intOf i).toNat)
 case atStart => exact ⟨0, by decide, rfl, rfl, 0, rfl⟩
 case round =>
  obtain ⟨k, hk, rfl, hf, q, rfl⟩ := hrel
  have HF := zz hf
  clear hf
  have c0 := H0.out.c0
  have c1 := H0.out.c1
  have hle : (a : Int) <= (s.size : Int) := by omega
  by_cases hlt : k < 28
  ·have hg := HG.out k hlt
   have hki : (k : Int) < 28 := by omega
   have hkii : (0 : Int) <= (k : Int) /\ (k : Int) < 28 := by omega
   obtain ⟨z, hz⟩ : ∃ z, z = f9.getD k [] := ⟨_, rfl⟩
   rw [<- hz] at hg
   have HZ := zz hz
   clear hz
   have hix := CP X k (mkT z) hlt hg
   have HDK : Hid (f9.drop k = z :: f9.drop (k + 1)) := zz (by
    rw [List.drop_eq_getElem_cons (by rw [nF]; exact hlt), HZ.out, List.getD_eq_getElem?_getD, List.getElem?_eq_getElem (by rw [nF]; exact hlt)]
    rfl)
   have HX : ∀ r, z.isPrefixOf (rs s a) = r -> Hid (∀ q2, Calls Tryz.prog 85 #[.string (s.extract a s.size), .string (mkT z)] (w.drewN (q + q2)) fun e w' => e = .returned (.bool r) /\ ∃ n, w' = w.drewN (q + n)) := fun r hr => zz fun q2 => by
    refine (Tryz.strings_HasPrefix (s.extract a s.size) (mkT z) _).mono ?_
    rintro e w' ⟨rfl, rfl⟩
    rw [gE]
    exact ⟨by rw [<- hr]; rfl, q2, rfl⟩
   by_cases hp : z.isPrefixOf (rs s a) = true
   ·have hx := HX _ hp
    have hfind : f9.find? (·.isPrefixOf (rs s a)) = some z := by rw [HF.out, HDK.out, List.find?_cons, hp]
    have HR2 : Hid (gP (rs s a) = .tok 4 z.length) := zz (by unfold gP; rw [hfind])
    have hzl := (AW hfind).2.length_le
    rw [eP] at hzl
    have hms := eI z
    have TK : Hid (∀ q, Calls Tryz.prog 146 #[.pointer (some ⟨cb, 0, none⟩), .int .i64 4, .int .i64 (mkT z).size] (w.drewN q) fun e w' => e = .returned (.tuple #[]) /\ ∃ v', CutAt w' cb s (a + z.length) v' (ts ++ [⟨4, (rs s a).take z.length, a⟩]) /\ Below cb (w.drewN q) w') :=
     zz fun q => by rw [hms]; exact lI 4 z.length _ (H0.out.drewN q) (by omega) hs hl
    clear hfind hp HX hg hms
    go_wp2_with fail
    go_quiet ((go_at_call 85; exact hx.out _))
    go_wp2_with (go_at_call 146; refine (TK.out _).mono ?_; rintro e w3 ⟨rfl, v', hv', hb3⟩)
    go_ret
    rw [HR2.out]
    exact ⟨⟨rfl, v', hv'⟩, ⟨hb3.os, hb3.tape, hb3.output, hb3.size, hb3.block⟩⟩
   ·have hx := HX _ (Bool.eq_false_iff.2 hp)
    have HN2 : Hid (f9.find? (·.isPrefixOf (rs s a)) = (f9.drop (k + 1)).find? (·.isPrefixOf (rs s a))) := zz (by rw [HF.out, HDK.out, List.find?_cons, Bool.eq_false_iff.2 hp])
    clear hp HX hg
    go_wp2_with fail
    go_quiet ((go_at_call 85; exact hx.out _))
    go_wp2_with fail
    go_roundw
    case rel => exact ⟨k + 1, by omega, by go_num, HN2.out, _, rfl⟩
    case measure => simp [intOf]; omega
  ·have hki : ¬ (k : Int) < 28 := by omega
   have HR2 : Hid (gP (rs s a) = .err 3) := zz (by
    have h2 := HF.out
    rw [List.drop_eq_nil_of_le (by rw [nF]; omega)] at h2
    unfold gP
    rw [h2]; rfl)
   have WR := zz (oD 3 _ (H0.out.drewN q))
   go_wp2_with (go_at_call 199; refine WR.out.mono ?_; rintro e w3 ⟨x, rfl, hat, hb3⟩)
   go_ret
   rw [HR2.out]
   exact ⟨⟨x, rfl, hat⟩, ⟨hb3.os, hb3.tape, hb3.output, hb3.size, fun k hk => hb3.block k (Nat.lt_trans hk H0.out.lt)⟩⟩
def lA (ts : List Tok) : Bool := match ts.getLast? with
 | none => false
 | some t => jV t.kind t.text
theorem sH (ts : List Tok) (t : Tok) : lA (ts ++ [t]) = jV t.kind t.text := by simp [lA]
theorem CQ : ∀ (ts : List Tok) (i : Nat) (t : Tok), ts[i]? = some t -> (dN ts)[i * 3]? = some (.int .i64 t.kind) /\ (dN ts)[i * 3 + 1]? = some (.string (mkT t.text)) /\ (dN ts)[i * 3 + 2]? = some (.int .i64 t.at_) := by
 intro ts
 induction ts with
 | nil => intro i t h; cases h
 | cons p ps ih =>
  intro i t h
  have e : dN (p :: ps) = .int .i64 p.kind :: .string (mkT p.text) :: .int .i64 p.at_ :: dN ps := rfl
  cases i with
  | zero => cases h; exact ⟨rfl, rfl, rfl⟩
  | succ i =>
   have := ih i t (by simpa using h)
   rw [e, show (i + 1) * 3 = i * 3 + 1 + 1 + 1 by omega, show i * 3 + 1 + 1 + 1 + 1 = (i * 3 + 1) + 1 + 1 + 1 by omega, show i * 3 + 1 + 1 + 1 + 2 = (i * 3 + 2) + 1 + 1 + 1 by omega]
   simp only [List.getElem?_cons_succ]
   exact this
theorem sI {w : World} {base g n cap : Nat} {ts : List Tok} (h : w.ownsRow base 110 3 (.slice (some ⟨g, 0, none⟩) n cap) n (dN ts)) (i : Nat) (t : Tok) (hi : ts[i]? = some t) :
  w.cell? ⟨g, i * 3, none⟩ = some (.int .i64 t.kind) /\ w.cell? ⟨g, i * 3 + 1, none⟩ = some (.string (mkT t.text)) /\ w.cell? ⟨g, i * 3 + 2, none⟩ = some (.int .i64 t.at_) := by
 have hl : ts.length = n := by have := h.1; rw [rK] at this; omega
 have hin : i < ts.length := (List.getElem?_eq_some_iff.1 hi).1
 rcases h.2 with ⟨e, _⟩ | ⟨g', cap', cur, e, _, hg, _, _, _, htake⟩
 ·cases e
 ·cases e
  obtain ⟨g1, g2, g3⟩ := CQ ts i t hi
  rw [cell_of_row _ _ _ _ _ _ hg, cell_of_row _ _ _ _ _ _ hg, cell_of_row _ _ _ _ _ _ hg]
  rw [<- htake] at g1 g2 g3
  rw [List.getElem?_take, if_pos (by omega)] at g1 g2 g3
  exact ⟨by simpa using g1, by simpa using g2, by simpa using g3⟩
theorem dO {B : Nat} {a w : World} (h : Below B a w) (n : Nat) : Below B a (w.drewN n) := ⟨h.os, h.tape, h.output, h.size, h.block⟩
def gF (ts : List Tok) (l : B) (a : Nat) : List Tok := if lA ts then ts ++ [⟨5, l, a⟩] else ts
theorem oY (n : Nat) (w : World) (h : CutAt w cb s a v ts) (ha : a + n <= s.size) (hs : s.size <= 4000) (hl : ts.length <= 5000) :
  Calls Tryz.prog 108 #[.pointer (some ⟨cb, 0, none⟩), .int .i64 n] w fun e w' => e = .returned (.tuple #[]) /\ ∃ v', CutAt w' cb s (a + n) v' (gF ts ((rs s a).take n) a) /\ Below cb w w' := by
 have H0 := zz h
 have c1 := h.c1
 have z1 := h.z1
 have c2 := h.c2
 have hcb := h.lt
 have hor : ts = [] \/ ∃ ini t, ts = ini ++ [t] := by
  rcases List.eq_nil_or_concat ts with h | ⟨ini, t, h⟩
  ·exact Or.inl h
  ·exact Or.inr ⟨ini, t, by rw [h, List.concat_eq_append]⟩
 rcases hor with rfl | ⟨ini, t, rfl⟩
 ·have hv : ∃ ao cap, v = .slice ao 0 cap := by
   rcases h.own.2 with ⟨rfl, _⟩ | ⟨g, cap, cur, rfl, _⟩
   ·exact ⟨_, _, rfl⟩
   ·exact ⟨_, _, rfl⟩
  obtain ⟨ao, cap, rfl⟩ := hv
  have LT : Hid (gF [] ((rs s a).take n) a = []) := zz rfl
  clear h
  go_enter Tryz.func108, Tryz.ntmps108
  go_wp2_with fail
  go_quiet (fail)
  go_wp2_with fail
  try simp only [Exit.inBlock, Exit.then]
  refine bodyPost_ret (results_none rfl _ _ _) rfl ?_
  rw [LT.out]
  exact ⟨rfl, _, (H0.out.drewN _).set1 (a + n), Below.setCell (p := ⟨cb, 1, none⟩) (dO (Below.refl _ _) _) (Nat.le_refl _) _⟩
 ·have hv : ∃ g cap, v = .slice (some ⟨g, 0, none⟩) (ini.length + 1) cap /\ ini.length + 1 <= cap /\ cap <= maxLen := by
   rcases h.own.2 with ⟨rfl, h0⟩ | ⟨g, cap, cur, rfl, _, _, h1, h2, _⟩
   ·rw [List.length_append] at h0; simp at h0
   ·rw [List.length_append] at h1 ⊢
    exact ⟨_, _, rfl, h1, h2⟩
  obtain ⟨g, cap, rfl, hcap, hmx⟩ := hv
  have hown := h.own
  rw [List.length_append] at hown
  obtain ⟨d0, d1, d2⟩ := sI (n := ini.length + 1) hown ini.length t (by rw [List.getElem?_append_right (Nat.le_refl _), Nat.sub_self]; rfl)
  have LT : Hid (gF (ini ++ [t]) ((rs s a).take n) a = if jV t.kind t.text then ini ++ [t] ++ [⟨5, (rs s a).take n, a⟩] else ini ++ [t]) := zz (by unfold gF; rw [sH])
  have ME : Hid (∀ W, Calls Tryz.prog 152 #[.agg #[.int .i64 t.kind, .string (mkT t.text), .int .i64 t.at_]] W fun e w' => e = .returned (.bool (jV t.kind t.text)) /\ Below W.heap.size W w') := zz fun W => yH t.kind (mkT t.text) t.at_ W
  have hmi : ini.length <= 5000 := by rw [List.length_append] at hl; simp at hl; omega
  have hii : (0 : Int) <= (ini.length : Int) /\ (ini.length : Int) < (ini.length : Int) + 1 := by omega
  have hwr : IntKind.i64.wrap (ini.length : Int) = (ini.length : Int) := IntWalk.i64_in _ (by omega)
  clear h hown
  go_enter Tryz.func108, Tryz.ntmps108
  go_wp2_with fail
  go_still_tail 19, (by kernel_rfl)
  change wpList _ _ _ _ _ w.drew
  generalize jV t.kind t.text = b at *
  cases b with
  | false =>
   go_wp2_with (go_at_call 152; refine (ME.out _).mono ?_; rintro e w1 ⟨rfl, hb1⟩; have H1 := zz ((H0.out.drewN 1).fresh hb1); have c1 := H1.out.c1; have z1 := H1.out.z1)
   try simp only [Exit.inBlock, Exit.then]
   refine bodyPost_ret (results_none rfl _ _ _) rfl ?_
   rw [LT.out]
   have hB1 : Below cb w w1 := ⟨hb1.os, hb1.tape, hb1.output, hb1.size, fun k hk => hb1.block k (Nat.lt_trans hk hcb)⟩
   exact ⟨rfl, _, H1.out.set1 (a + n), Below.setCell (p := ⟨cb, 1, none⟩) hB1 (Nat.le_refl _) _⟩
  | true =>
   go_wp2_with (first | (go_at_call 152; refine (ME.out _).mono ?_; rintro e w1 ⟨rfl, hb1⟩; have H1 := zz ((H0.out.drewN 1).fresh hb1)) | (go_at_call 146; refine (lI 5 n _ H1.out ha hs hl).mono ?_; rintro e w2 ⟨rfl, v', hv', hb2⟩))
   go_end0
   rw [LT.out]
   have hB1 : Below cb w w1 := ⟨hb1.os, hb1.tape, hb1.output, hb1.size, fun k hk => hb1.block k (Nat.lt_trans hk hcb)⟩
   exact ⟨rfl, _, hv', hB1.trans hb2⟩
def pL (w' : World) (cb : Nat) (s : ByteArray) (a : Nat) (ts : List Tok) (e : Ending) : Prop :=
 (∃ a' v' new, e = .returned .nilIface /\ CutAt w' cb s a' v' (ts ++ new) /\ a < a' /\ a' <= s.size /\ new.length <= 1 ∧
  lx (rs s a) a (lA ts) = (new ++ (lx (rs s a') a' (lA (ts ++ new))).1, (lx (rs s a') a' (lA (ts ++ new))).2)) ∨
 (∃ r x, e = .returned x /\ lJ w' cb x r a /\ lx (rs s a) a (lA ts) = ([], some (r, a)))
theorem qA {e : Ending} {k n : Nat} {v' : Value} (hne : rs s a ≠ []) (hst : eF (rs s a) (lA ts) = .cut (.tok k n)) (he : e = .returned .nilIface) (hc : CutAt w' cb s (a + n) v' (ts ++ [⟨k, (rs s a).take n, a⟩])) : pL w' cb s a ts e := by
 obtain ⟨h1, h2, _⟩ := lH hne hst
 rw [eP] at h2
 refine Or.inl ⟨a + n, v', _, he, hc, by omega, by omega, by simp, ?_⟩
 rw [EW hne hst, sH, nD]
 rfl
theorem oF {e : Ending} {c : Cut} (hne : rs s a ≠ []) (hst : eF (rs s a) (lA ts) = .cut c) (h : nE w' cb s a ts e c) : pL w' cb s a ts e := by
 cases c with
 | tok k n =>
  obtain ⟨he, v', hc⟩ := h
  exact qA hne hst he hc
 | err r =>
  obtain ⟨x, he, hx⟩ := h
  exact Or.inr ⟨r, x, he, hx, EX hne hst a⟩
theorem qB {e : Ending} {c : Cut} (h : nE w' cb s a ts e c) : ∃ x, e = .returned x := by
 cases c with
 | tok k n => exact ⟨_, h.1⟩
 | err r => obtain ⟨x, hx, _⟩ := h; exact ⟨x, hx⟩
theorem CR {e : Ending} {v' : Value} {r : B} (hr : rs s a = 10 :: r) (he : e = .returned .nilIface) (hc : CutAt w' cb s (a + 1) v' (gF ts ((rs s a).take 1) a)) : pL w' cb s a ts e := by
 have hne : rs s a ≠ [] := by rw [hr]; simp
 have hst : eF (rs s a) (lA ts) = if lA ts then .cut (.tok 5 1) else .skip 1 := by
  rw [hr, eH, if_neg (by decide), if_neg (by simp [List.isPrefixOf]), if_pos rfl]
 unfold gF at hc
 cases hm : lA ts with
 | true =>
  rw [hm] at hst hc
  simp only [if_true] at hst hc
  exact qA hne (by rw [hm]; exact hst) he hc
 | false =>
  rw [hm] at hst hc
  simp only [Bool.false_eq_true, if_false] at hst hc
  have hl : 1 <= s.size - a := by rw [<- eP, hr]; simp
  refine Or.inl ⟨a + 1, v', [], he, by rw [List.append_nil]; exact hc, by omega, by omega, by simp, ?_⟩
  rw [List.append_nil, hm, uH hne hst, nD]
  rfl
theorem IV (w : World) (h : CutAt w cb s a v ts) (ha : a < s.size) (hs : s.size <= 4000) (hl : ts.length <= 5000) (hE : LexEnv cb w) (hS : oC (rs s a)) :
  Calls Tryz.prog 107 #[.pointer (some ⟨cb, 0, none⟩)] w fun e w' => pL w' cb s a ts e /\ Below cb w w' := by
 have H0 := zz h
 have HE := zz hE
 have c0 := h.c0
 have c1 := h.c1
 have hcb := h.lt
 have hr := gD s a ha
 have hne : rs s a ≠ [] := by rw [hr]; simp
 obtain ⟨g1, g2⟩ := hS _ _ hr
 have HST : Hid (s[a] ≠ 10 -> eF (rs s a) (lA ts) = .cut (pV (rs s a))) := zz fun h10 => by
  rw [hr] at g2 ⊢
  rw [eH, if_neg (by simp [g1]), if_neg (by simp only [g2]; decide), if_neg h10]
 have HNE := zz hne
 have HCV : Hid (pV (rs s a) = if s[a] = 59 then .tok 5 1 else if cI s[a] then gO (rs s a) else if 0 < bS (rs s a) then gA (rs s a) else gP (rs s a)) := zz (by rw [hr]; rfl)
 have hii : (0 : Int) <= (a : Int) /\ (a : Int) < (s.size : Int) := by omega
 have hi10 : ((s[a].toNat : Int) = 10) ↔ s[a] = 10 := by
  constructor
  ·intro e; exact UInt8.toNat_inj.1 (by have : (10 : UInt8).toNat = 10 := rfl; omega)
  ·intro e; rw [e]; rfl
 have hi59 : ((s[a].toNat : Int) = 59) ↔ s[a] = 59 := by
  constructor
  ·intro e; exact UInt8.toNat_inj.1 (by have : (59 : UInt8).toNat = 59 := rfl; omega)
  ·intro e; rw [e]; rfl
 have HRC := zz hr
 clear h hE hne g1 g2 hS hr
 go_enter Tryz.func107, Tryz.ntmps107
 go_wp2_with fail
 go_quiet (fail)
 have HB : Hid (∀ q w2, Below cb (w.drewN q) w2 -> Below cb w w2) := zz fun q w2 hb => ⟨hb.os, hb.tape, hb.output, hb.size, hb.block⟩
 by_cases h10 : s[a] = 10
 ·have hj : (s[a].toNat : Int) = 10 := hi10.2 h10
  have HR10 : Hid (rs s a = 10 :: rs s (a + 1)) := zz (by rw [HRC.out, h10])
  clear hi10 hi59 h10
  go_wp2_with (go_at_call 108; refine (oY 1 _ (H0.out.drewN _) (by omega) hs hl).mono ?_; rintro e w1 ⟨rfl, v', hv', hb1⟩)
  go_ret
  exact ⟨CR HR10.out rfl hv', HB.out _ _ hb1⟩
 ·have hj : ¬ (s[a].toNat : Int) = 10 := fun e => h10 (hi10.1 e)
  have HST2 := zz (HST.out h10)
  clear hi10 h10
  by_cases h59 : s[a] = 59
  ·have hj2 : (s[a].toNat : Int) = 59 := hi59.2 h59
   have HC2 : Hid (pV (rs s a) = .tok 5 1) := zz (by rw [HCV.out, if_pos h59])
   clear hi59 h59 hj
   go_wp2_with (go_at_call 146; refine (lI 5 1 _ (H0.out.drewN _) (by omega) hs hl).mono ?_; rintro e w1 ⟨rfl, v', hv', hb1⟩)
   go_ret
   exact ⟨qA HNE.out (by rw [HST2.out, HC2.out]) rfl hv', HB.out _ _ hb1⟩
  ·have hj2 : ¬ (s[a].toNat : Int) = 59 := fun e => h59 (hi59.1 e)
   have HC2 : Hid (pV (rs s a) = if cI s[a] then gO (rs s a) else if 0 < bS (rs s a) then gA (rs s a) else gP (rs s a)) := zz (by rw [HCV.out, if_neg h59])
   have HDG := fun w => jK s[a] w
   clear hi59 h59
   by_cases hd : cI s[a] = true
   ·rw [hd] at HDG
    rw [if_pos hd] at HC2
    go_wp2_with (first | (go_at_call 147; refine (HDG _).mono ?_; rintro e w2 ⟨rfl, rfl⟩) | (go_at_call 148; refine (rL _ (H0.out.drewN _) ha hs hl (HE.out.drewN _) hd).mono ?_; rintro e w1 ⟨hsay, hb1⟩; obtain ⟨x, rfl⟩ := qB hsay))
    go_ret
    exact ⟨oF HNE.out (by rw [HST2.out, HC2.out]) hsay, HB.out _ _ hb1⟩
   ·rw [Bool.eq_false_iff.2 hd] at HDG
    rw [if_neg hd] at HC2
    go_wp2_with (go_at_call 147; refine (HDG _).mono ?_; rintro e w2 ⟨rfl, rfl⟩)
    have LT : Hid (∀ W, LexEnv cb W -> Calls Tryz.prog 149 #[.string s, .int .i64 a] W fun e w' => e = .returned (.int .i64 (bS (rs s a))) /\ Below W.heap.size W w') := zz fun W hW => mL s a W (by omega) hW.tabs
    clear HDG HCV hd hj hj2
    generalize hW : w.drewN nq = W at *
    have H1 : Hid (CutAt W cb s a v ts) := zz (hW ▸ H0.out.drewN nq)
    have HE1 : Hid (LexEnv cb W) := zz (hW ▸ HE.out.drewN nq)
    have HB1 : Hid (Below cb w W) := zz (hW ▸ dO (Below.refl _ _) nq)
    have c0 := H1.out.c0
    have c1 := H1.out.c1
    have hcb1 := H1.out.lt
    clear hW HB
    go_still_tail 8, (by kernel_rfl)
    change wpList _ _ _ _ _ W.drew
    have HS : Hid (∀ w1, Below W.drew.heap.size W.drew w1 -> CutAt w1 cb s a v ts /\ LexEnv cb w1 /\ Below cb w w1) := zz fun w1 hb => ⟨(H1.out.drewN 1).fresh hb, (HE1.out.drewN 1).below hb (Nat.le_of_lt hcb1), HB1.out.trans ⟨hb.os, hb.tape, hb.output, hb.size, fun k hk => hb.block k (Nat.lt_trans hk hcb1)⟩⟩
    by_cases hL : 0 < bS (rs s a)
    ·rw [if_pos hL] at HC2
     generalize bS (rs s a) = L at *
     have hLi : (0 : Int) < (L : Int) := by omega
     go_wp2_with (first | (go_at_call 149; refine (LT.out _ (HE1.out.drewN 1)).mono ?_; rintro e w1 ⟨rfl, hb1⟩) | (go_at_call 150; refine (vR _ (HS.out _ hb1).1 ha hs hl (HS.out _ hb1).2.1).mono ?_; rintro e w2 ⟨hsay, hb2⟩; obtain ⟨x, rfl⟩ := qB hsay))
     go_ret
     exact ⟨oF HNE.out (by rw [HST2.out, HC2.out]) hsay, (HS.out _ hb1).2.2.trans hb2⟩
    ·rw [if_neg hL] at HC2
     generalize bS (rs s a) = L at *
     have hLi : ¬ (0 : Int) < (L : Int) := by omega
     go_wp2_with (first | (go_at_call 149; refine (LT.out _ (HE1.out.drewN 1)).mono ?_; rintro e w1 ⟨rfl, hb1⟩) | (go_at_call 151; refine (vT _ (HS.out _ hb1).1 ha hs hl (HS.out _ hb1).2.1).mono ?_; rintro e w2 ⟨hsay, hb2⟩; obtain ⟨x, rfl⟩ := qB hsay))
     go_ret
     exact ⟨oF HNE.out (by rw [HST2.out, HC2.out]) hsay, (HS.out _ hb1).2.2.trans hb2⟩
end Go.Proofs.YtnpapppipccdbaaGreatDoor
namespace Go.Proofs.YtnpapppipccdbaaGreatDoor
open Go.RowKit Lx
def kE (w w' : World) (s : ByteArray) (e : Ending) : Prop :=
 if 4000 < s.size then e = .returned (.tuple #[.slice none 0 0, .iface 27 (.int .i64 4)])
 else match lx s.data.toList 0 false with
  | (ts, none) => ∃ v, e = .returned (.tuple #[v, .nilIface]) /\ w'.ownsRow (w.heap.size + 1) 110 3 v ts.length (dN ts)
  | (_, some (r, a)) => ∃ x, e = .returned (.tuple #[.slice none 0 0, x]) /\ lJ w' w.heap.size x r a
theorem IW (s : ByteArray) : rs s 0 = s.data.toList := List.drop_zero
theorem AY (s : ByteArray) (w : World) (hE : LexEnv w.heap.size w) :
  Calls Tryz.prog 62 #[.string s] w fun e w' => kE w w' s e /\ Below w.heap.size w w' := by
 by_cases hs : 4000 < s.size
 ·have hi : (4000 : Int) < (s.size : Int) := by omega
  go_enter Tryz.func62, Tryz.ntmps62
  go_wp2_with fail
  go_ret2
  exact ⟨by unfold kE; rw [if_pos hs]; rfl, Below.refl _ _⟩
 ·have hi : ¬ (4000 : Int) < (s.size : Int) := by omega
  have hs4 : s.size <= 4000 := by omega
  have HE := zz hE
  clear hE
  obtain ⟨cb, hcb⟩ : ∃ cb, cb = w.heap.size := ⟨_, rfl⟩
  have HCB := zz hcb
  have HS : Hid (∀ (w' : World) (e : Ending) , (match lx (rs s 0) 0 false with
   | (ts, none) => ∃ v, e = .returned (.tuple #[v, .nilIface]) /\ w'.ownsRow (cb + 1) 110 3 v ts.length (dN ts)
   | (_, some (r, a)) => ∃ x, e = .returned (.tuple #[.slice none 0 0, x]) /\ lJ w' cb x r a) -> kE w w' s e) := zz fun w' e h => by
    unfold kE
    rw [if_neg hs, <- IW, <- hcb]
    exact h
  clear hs
  go_enter Tryz.func62, Tryz.ntmps62
  go_wp2_with fail
  have hC0 : CutAt (w.alloc (.cells #[.string s, .int .i64 0, .slice none 0 0] 163)) w.heap.size s 0 (.slice none 0 0) [] :=
   ⟨by simp, by simp, by simp, by simp, by simp, World.ownsRow_nil _ _ _ _⟩
  refine (vQ _ hC0 (Nat.zero_le _) hs4).mono ?_
  rintro e w1 ⟨rfl, a1, hsk, hst, hc1, hkp1⟩
  have hB1 : Below w.heap.size w w1 := ((Below.refl _ _).alloc (Nat.le_refl _) _).trans (hkp1.below (by simp) (fun k _ hk => by omega))
  have HI : Hid (∃ k v ts, k <= s.size /\ CutAt w1 cb s k v ts /\ oC (rs s k) /\ ts.length <= k /\ LexEnv cb w1 /\ Below cb w w1 /\ lx (rs s 0) 0 false = (ts ++ (lx (rs s k) k (lA ts)).1, (lx (rs s k) k (lA ts)).2)) := zz (by
   rw [hcb]
   refine ⟨a1, _, [], hsk.2.1, hc1, hst, Nat.zero_le _, HE.out.below hB1 (Nat.le_refl _), hB1, ?_⟩
   rw [hsk.2.2 false]
   rfl)
  clear hC0 hsk hst hc1 hkp1 hB1
  rw [<- hcb]
  clear hcb
  go_wp2_with fail
  go_loopw [] (fun wr => ∃ k v ts, k <= s.size /\ CutAt wr cb s k v ts /\ oC (rs s k) /\ ts.length <= k /\ LexEnv cb wr /\ Below cb w wr /\ lx (rs s 0) 0 false = (ts ++ (lx (rs s k) k (lA ts)).1, (lx (rs s k) k (lA ts)).2)) (fun wr => s.size - atOf wr cb)
  case atStart => exact HI.out
  case round =>
   obtain ⟨k, v, ts, hk, hc, hst, hl, hE, hb, hx⟩ := hrel
   have HC := zz hc
   have HX := zz hx
   have HB := zz hb
   have HL := zz hE
   have HST := zz hst
   have c1 := hc.c1
   clear hc hx hb hE hst
   by_cases hlt : k < s.size
   ·have hli : (k : Int) < (s.size : Int) := by omega
    go_wp2_with fail
    refine (IV _ HC.out hlt hs4 (by omega) HL.out HST.out).mono ?_
    rintro e w2 ⟨hgo, hb2⟩
    rcases hgo with ⟨k2, v2, new, rfl, hc2, hk2, hk2s, hnew, hx2⟩ | ⟨r, x, rfl, hat, hx2⟩
    ·go_wp2_with fail
     refine (vQ _ hc2 hk2s hs4).mono ?_
     rintro e w3 ⟨rfl, k3, hsk, hst3, hc3, hkp3⟩
     have hb3 : Below cb w2 w3 := hkp3.below (Nat.le_of_lt hc2.lt) (fun k _ hk => by omega)
     go_wp2_with fail
     refine ⟨⟨k3, v2, ts ++ new, hsk.2.1, hc3, hst3, ?_, (HL.out.below hb2 (Nat.le_refl _)).below hb3 (Nat.le_refl _), (HB.out.trans hb2).trans hb3, ?_⟩, ?_⟩
     ·rw [List.length_append]; have := hsk.1; omega
     ·rw [HX.out, hx2, hsk.2.2, List.append_assoc]
     ·rw [hc3.atOf, HC.out.atOf]; have := hsk.1; omega
    ·obtain ⟨b, rfl, hat2⟩ := hat
     have HAT : Hid (lJ w2 cb (.iface 145 (.pointer (some ⟨b, 0, none⟩))) r k) := zz ⟨b, rfl, hat2⟩
     clear hat2
     go_wp2_with fail
     go_ret2
     refine ⟨HS.out _ _ ?_, by have := HB.out.trans hb2; rw [HCB.out] at this; exact this⟩
     rw [HX.out, hx2]
     exact ⟨_, rfl, HAT.out⟩
   ·obtain rfl : k = s.size := by omega
    have hli : ¬ (s.size : Int) < (s.size : Int) := by omega
    have HX2 : Hid (lx (rs s 0) 0 false = (gF ts [] s.size, none)) := zz (by
     rw [HX.out, p8 s s.size (Nat.le_refl _), yF]
     unfold gF tY
     cases lA ts <;> simp)
    have CL : Hid (Calls Tryz.prog 108 #[.pointer (some ⟨cb, 0, none⟩), .int .i64 0] wr fun e w' => e = .returned (.tuple #[]) /\ ∃ v', CutAt w' cb s s.size v' (gF ts [] s.size) /\ Below cb wr w') := zz (by
     have := oY 0 wr HC.out (Nat.le_refl _) hs4 (by omega)
     exact this)
    go_wp2_with fail
    refine CL.out.mono ?_
    rintro e w2 ⟨rfl, v2, hc2, hb2⟩
    have c2 := hc2.c2
    have HC2 := zz hc2
    clear hc2
    go_wp2_with fail
    go_ret2
    refine ⟨HS.out _ _ ?_, by have := HB.out.trans hb2; rw [HCB.out] at this; exact this⟩
    rw [HX2.out]
    exact ⟨_, rfl, HC2.out.own⟩
def RowT (w : World) (v : Value) (ts : List Tok) : Prop :=
 (v = .slice none 0 0 /\ ts = []) \/ ∃ g cap, v = .slice (some ⟨g, 0, none⟩) ts.length cap /\ ts.length <= cap /\ cap <= maxLen /\ g < w.heap.size ∧
  ∀ i t, ts[i]? = some t -> w.cell? ⟨g, i * 3, none⟩ = some (.int .i64 t.kind) /\ w.cell? ⟨g, i * 3 + 1, none⟩ = some (.string (mkT t.text)) /\ w.cell? ⟨g, i * 3 + 2, none⟩ = some (.int .i64 t.at_)
theorem E3 {w : World} {base : Nat} {v : Value} {ts : List Tok} (h : w.ownsRow base 110 3 v ts.length (dN ts)) : RowT w v ts := by
 rcases h.2 with ⟨rfl, h0⟩ | ⟨g, cap, cur, rfl, _, hg, h1, h2, _⟩
 ·exact Or.inl ⟨rfl, List.eq_nil_of_length_eq_zero h0⟩
 ·exact Or.inr ⟨g, cap, rfl, h1, h2, (Array.getElem?_eq_some_iff.1 hg).1, fun i t hi => sI h i t hi⟩
end Go.Proofs.YtnpapppipccdbaaGreatDoor
namespace Go.Proofs.YtnpapppipccdbaaGreatDoor
open Go.RowKit Lx Tr
mutual
def ExIn (w : World) (F : Nat -> Prop) : Value -> Ex -> Prop
  | v, .nil => v = .pointer none
  | v, .mk code at_ n op name l r args => ∃ (b : Nat) (lv rv av : Value), v = .pointer (some ⟨b, 0, none⟩) /\ F b ∧
      w.cell? ⟨b, 0, none⟩ = some (.int .i64 (code : Nat)) /\ w.cell? ⟨b, 1, none⟩ = some (.int .i64 (at_ : Nat)) /\ w.cell? ⟨b, 2, none⟩ = some (.int .i64 (n : Nat)) /\ w.cell? ⟨b, 3, none⟩ = some (.string (mkT name)) ∧
      w.cell? ⟨b, 4, none⟩ = some (.int .i64 (op : Nat)) /\ w.cell? ⟨b, 5, none⟩ = some lv /\ w.cell? ⟨b, 6, none⟩ = some rv /\ w.cell? ⟨b, 7, none⟩ = some av ∧
      ExIn w F lv l /\ ExIn w F rv r /\ ((av = .slice none 0 0 /\ args.len = 0) \/ ∃ g cap, av = .slice (some ⟨g, 0, none⟩) args.len cap /\ args.len <= cap /\ cap <= maxLen /\ 0 < args.len /\ F g) /\ ∀ g n cap, av = .slice (some ⟨g, 0, none⟩) n cap -> ExsIn w F g 0 args
def ExsIn (w : World) (F : Nat -> Prop) (g : Nat) : Nat -> Exs -> Prop
  | _, .nil => True
  | i, .cons x xs => (∃ v, w.cell? ⟨g, i, none⟩ = some v /\ ExIn w F v x) /\ ExsIn w F g (i + 1) xs
end
mutual
theorem ExIn.keepsA {w w' : World} {F S : Nat -> Prop} (hk : Keeps S w w') (hF : ∀ b, F b -> ¬ S b) : ∀ (v : Value) (x : Ex), ExIn w F v x -> ExIn w' F v x
 | v, .nil, h => h
 | v, .mk code at_ n op name l r args, h => by
  obtain ⟨b, lv, rv, av, e, hb, c0, c1, c2, c3, c4, c5, c6, c7, hl, hr, ha, has⟩ := h
  have hn := hF b hb
  refine ⟨b, lv, rv, av, e, hb, hk.cell_of c0 hn, hk.cell_of c1 hn, hk.cell_of c2 hn, hk.cell_of c3 hn, hk.cell_of c4 hn, hk.cell_of c5 hn, hk.cell_of c6 hn, hk.cell_of c7 hn, ExIn.keepsA hk hF lv l hl, ExIn.keepsA hk hF rv r hr, ha, fun g n cap e => ?_⟩
  rcases ha with ⟨e2, _⟩ | ⟨g', cap', e2, _, _, _, hg⟩
  ·rw [e] at e2; cases e2
  ·rw [e] at e2; cases e2
   exact ExsIn.keeps hk hF g hg 0 args (has g _ _ e)
theorem ExsIn.keeps {w w' : World} {F S : Nat -> Prop} (hk : Keeps S w w') (hF : ∀ b, F b -> ¬ S b) (g : Nat) (hg : F g) : ∀ (i : Nat) (xs : Exs), ExsIn w F g i xs -> ExsIn w' F g i xs
 | _, .nil, _ => trivial
 | i, .cons x xs, h => by
  obtain ⟨⟨v, hc, hx⟩, h2⟩ := h
  exact ⟨⟨v, hk.cell_of hc (hF g hg), ExIn.keepsA hk hF v x hx⟩, ExsIn.keeps hk hF g hg (i + 1) xs h2⟩
end
mutual
theorem ExIn.mono {w : World} {F G : Nat -> Prop} (hF : ∀ b, b < w.heap.size -> F b -> G b) : ∀ (v : Value) (x : Ex), ExIn w F v x -> ExIn w G v x
 | v, .nil, h => h
 | v, .mk code at_ n op name l r args, h => by
  obtain ⟨b, lv, rv, av, e, hb, c0, c1, c2, c3, c4, c5, c6, c7, hl, hr, ha, has⟩ := h
  refine ⟨b, lv, rv, av, e, hF b (block_lt_of_cell c0) hb, c0, c1, c2, c3, c4, c5, c6, c7, ExIn.mono hF lv l hl, ExIn.mono hF rv r hr, ?_, fun g n cap e => ExsIn.mono hF g 0 args (has g _ _ e)⟩
  rcases ha with h1 | ⟨g', cap', e2, h1, h2, h3, hg⟩
  ·exact Or.inl h1
  ·cases args with
   | nil => exact absurd h3 (Nat.lt_irrefl _)
   | cons x xs =>
    obtain ⟨⟨u, hc, _⟩, _⟩ := has g' _ _ e2
    exact Or.inr ⟨g', cap', e2, h1, h2, h3, hF g' (block_lt_of_cell hc) hg⟩
theorem ExsIn.mono {w : World} {F G : Nat -> Prop} (hF : ∀ b, b < w.heap.size -> F b -> G b) (g : Nat) : ∀ (i : Nat) (xs : Exs), ExsIn w F g i xs -> ExsIn w G g i xs
 | _, .nil, _ => trivial
 | i, .cons x xs, h => by
  obtain ⟨⟨v, hc, hx⟩, h2⟩ := h
  exact ⟨⟨v, hc, ExIn.mono hF v x hx⟩, ExsIn.mono hF g (i + 1) xs h2⟩
end
theorem ExIn.keeps {w w' : World} {F S : Nat -> Prop} {v : Value} {x : Ex} (h : ExIn w F v x) (hk : Keeps S w w') (hF : ∀ b, F b -> ¬ S b) : ExIn w' F v x := ExIn.keepsA hk hF v x h
def SlAt (F : Nat -> Prop) (v : Value) (n : Nat) : Prop := (v = .slice none 0 0 /\ n = 0) \/ ∃ g cap, v = .slice (some ⟨g, 0, none⟩) n cap /\ n <= cap /\ cap <= maxLen /\ 0 < n /\ F g
theorem SlAt.mem {F : Nat -> Prop} {v : Value} {n g m cap : Nat} (h : SlAt F v n) (e : v = .slice (some ⟨g, 0, none⟩) m cap) : F g := by
 rcases h with ⟨e2, _⟩ | ⟨g', cap', e2, _, _, _, hg⟩
 ·rw [e] at e2; cases e2
 ·rw [e] at e2; cases e2; exact hg
mutual
def StIn (w : World) (F : Nat -> Prop) (b o : Nat) : St -> Prop
  | .mk code at_ name dst val thn els cases => ∃ (tv vv nv ev cv : Value),
      w.cell? ⟨b, o, none⟩ = some (.int .i64 (code : Nat)) /\ w.cell? ⟨b, o + 1, none⟩ = some (.int .i64 (at_ : Nat)) /\ w.cell? ⟨b, o + 2, none⟩ = some (.string (mkT name)) /\ w.cell? ⟨b, o + 3, none⟩ = some tv ∧
      w.cell? ⟨b, o + 4, none⟩ = some vv /\ w.cell? ⟨b, o + 5, none⟩ = some nv /\ w.cell? ⟨b, o + 6, none⟩ = some ev /\ w.cell? ⟨b, o + 7, none⟩ = some cv ∧
      ExIn w F tv dst /\ ExIn w F vv val /\ SlAt F nv thn.len /\ (∀ g n cap, nv = .slice (some ⟨g, 0, none⟩) n cap -> StsIn w F g 0 thn) /\ SlAt F ev els.len /\ (∀ g n cap, ev = .slice (some ⟨g, 0, none⟩) n cap -> StsIn w F g 0 els) ∧
      SlAt F cv cases.len /\ (∀ g n cap, cv = .slice (some ⟨g, 0, none⟩) n cap -> CasIn w F g 0 cases)
def StsIn (w : World) (F : Nat -> Prop) (g : Nat) : Nat -> Sts -> Prop
  | _, .nil => True
  | i, .cons x xs => StIn w F g (i * 8) x /\ StsIn w F g (i + 1) xs
def CaIn (w : World) (F : Nat -> Prop) (b o : Nat) : Ca -> Prop
  | .mk code at_ name dst val body => ∃ (tv vv nv : Value),
      w.cell? ⟨b, o, none⟩ = some (.int .i64 (code : Nat)) /\ w.cell? ⟨b, o + 1, none⟩ = some (.int .i64 (at_ : Nat)) /\ w.cell? ⟨b, o + 2, none⟩ = some (.string (mkT name)) /\ w.cell? ⟨b, o + 3, none⟩ = some tv ∧
      w.cell? ⟨b, o + 4, none⟩ = some vv /\ w.cell? ⟨b, o + 5, none⟩ = some nv ∧
      ExIn w F tv dst /\ ExIn w F vv val /\ SlAt F nv body.len /\ (∀ g n cap, nv = .slice (some ⟨g, 0, none⟩) n cap -> StsIn w F g 0 body)
def CasIn (w : World) (F : Nat -> Prop) (g : Nat) : Nat -> Cas -> Prop
  | _, .nil => True
  | i, .cons x xs => CaIn w F g (i * 6) x /\ CasIn w F g (i + 1) xs
end
def StV (w : World) (F : Nat -> Prop) (tv vv nv ev cv : Value) (dst val : Ex) (thn els : Sts) (cases : Cas) : Prop :=
   ExIn w F tv dst /\ ExIn w F vv val /\ SlAt F nv thn.len /\ (∀ g n cap, nv = .slice (some ⟨g, 0, none⟩) n cap -> StsIn w F g 0 thn) /\ SlAt F ev els.len /\ (∀ g n cap, ev = .slice (some ⟨g, 0, none⟩) n cap -> StsIn w F g 0 els) ∧
   SlAt F cv cases.len /\ (∀ g n cap, cv = .slice (some ⟨g, 0, none⟩) n cap -> CasIn w F g 0 cases)
mutual
theorem StIn.keeps {w w' : World} {F S : Nat -> Prop} (hk : Keeps S w w') (hF : ∀ b, F b -> ¬ S b) (b o : Nat) (hb : F b) : ∀ (x : St), StIn w F b o x -> StIn w' F b o x
 | .mk code at_ name dst val thn els cases, h => by
  obtain ⟨tv, vv, nv, ev, cv, c0, c1, c2, c3, c4, c5, c6, c7, h1, h2, h3, h4, h5, h6, h7, h8⟩ := h
  have hn := hF b hb
  exact ⟨tv, vv, nv, ev, cv, hk.cell_of c0 hn, hk.cell_of c1 hn, hk.cell_of c2 hn, hk.cell_of c3 hn, hk.cell_of c4 hn, hk.cell_of c5 hn, hk.cell_of c6 hn, hk.cell_of c7 hn, h1.keeps hk hF, h2.keeps hk hF,
   h3, fun g n cap e => StsIn.keeps hk hF g (h3.mem e) 0 thn (h4 g n cap e), h5, fun g n cap e => StsIn.keeps hk hF g (h5.mem e) 0 els (h6 g n cap e), h7, fun g n cap e => CasIn.keeps hk hF g (h7.mem e) 0 cases (h8 g n cap e)⟩
theorem StsIn.keeps {w w' : World} {F S : Nat -> Prop} (hk : Keeps S w w') (hF : ∀ b, F b -> ¬ S b) (g : Nat) (hg : F g) : ∀ (i : Nat) (xs : Sts), StsIn w F g i xs -> StsIn w' F g i xs
 | _, .nil, _ => trivial
 | i, .cons x xs, h => ⟨StIn.keeps hk hF g (i * 8) hg x h.1, StsIn.keeps hk hF g hg (i + 1) xs h.2⟩
theorem CaIn.keeps {w w' : World} {F S : Nat -> Prop} (hk : Keeps S w w') (hF : ∀ b, F b -> ¬ S b) (b o : Nat) (hb : F b) : ∀ (x : Ca), CaIn w F b o x -> CaIn w' F b o x
 | .mk code at_ name dst val body, h => by
  obtain ⟨tv, vv, nv, c0, c1, c2, c3, c4, c5, h1, h2, h3, h4⟩ := h
  have hn := hF b hb
  exact ⟨tv, vv, nv, hk.cell_of c0 hn, hk.cell_of c1 hn, hk.cell_of c2 hn, hk.cell_of c3 hn, hk.cell_of c4 hn, hk.cell_of c5 hn, h1.keeps hk hF, h2.keeps hk hF, h3, fun g n cap e => StsIn.keeps hk hF g (h3.mem e) 0 body (h4 g n cap e)⟩
theorem CasIn.keeps {w w' : World} {F S : Nat -> Prop} (hk : Keeps S w w') (hF : ∀ b, F b -> ¬ S b) (g : Nat) (hg : F g) : ∀ (i : Nat) (xs : Cas), CasIn w F g i xs -> CasIn w' F g i xs
 | _, .nil, _ => trivial
 | i, .cons x xs, h => ⟨CaIn.keeps hk hF g (i * 6) hg x h.1, CasIn.keeps hk hF g hg (i + 1) xs h.2⟩
end
structure RdAt (w : World) (rb : Nat) (tv : Value) (E : Env) (n d : Nat) : Prop where
 c0 : w.cell? ⟨rb, 0, none⟩ = some tv
 c1 : w.cell? ⟨rb, 1, none⟩ = some (.int .i64 (n : Nat))
 c2 : w.cell? ⟨rb, 2, none⟩ = some (.int .i64 (E.en : Nat))
 c3 : w.cell? ⟨rb, 3, none⟩ = some (.int .i64 (d : Nat))
 z1 : w.frozen? ⟨rb, 1, none⟩ = false
 z3 : w.frozen? ⟨rb, 3, none⟩ = false
 row : RowT w tv E.toks
 lo : ∀ g m cap, tv = .slice (some ⟨g, 0, none⟩) m cap -> g < rb
 hn : n <= E.toks.length
 hl : E.toks.length <= 10000
 hd : d <= 12
variable {w w' : World} {rb n d : Nat} {tv : Value} {E : Env}
theorem RdAt.lt (h : RdAt w rb tv E n d) : rb < w.heap.size := block_lt_of_cell h.c0
theorem RowT.keeps {S : Nat -> Prop} {v : Value} {ts : List Tok} (h : RowT w v ts) (hk : Keeps S w w') (hs : ∀ g m cap, v = .slice (some ⟨g, 0, none⟩) m cap -> ¬ S g) : RowT w' v ts := by
 rcases h with h | ⟨g, cap, h1, h2, h3, h4, h5⟩
 ·exact Or.inl h
 ·have hn := hs g _ _ h1
  exact Or.inr ⟨g, cap, h1, h2, h3, Nat.lt_of_lt_of_le h4 hk.size, fun i t hi => ⟨hk.cell_of (h5 i t hi).1 hn, hk.cell_of (h5 i t hi).2.1 hn, hk.cell_of (h5 i t hi).2.2 hn⟩⟩
theorem RdAt.keeps {S : Nat -> Prop} (h : RdAt w rb tv E n d) (hk : Keeps S w w') (hs : ∀ b, S b -> rb < b) : RdAt w' rb tv E n d := by
 have hr : ¬ S rb := fun e => Nat.lt_irrefl _ (hs rb e)
 refine ⟨hk.cell_of h.c0 hr, hk.cell_of h.c1 hr, hk.cell_of h.c2 hr, hk.cell_of h.c3 hr, by rw [hk.frozen h.lt hr]; exact h.z1, by rw [hk.frozen h.lt hr]; exact h.z3, h.row.keeps hk (fun g m cap e s => by have := h.lo g m cap e; have := hs g s; omega), h.lo, h.hn, h.hl, h.hd⟩
theorem RdAt.fresh (h : RdAt w rb tv E n d) (hb : Below w.heap.size w w') : RdAt w' rb tv E n d := h.keeps (S := fun _ => False) (Keeps.of_new hb) (fun _ e => e.elim)
theorem aV (a b c : Value) (w : World) : (Instr.field 110 (.agg #[a, b, c]) 0).run Tryz.prog w = .ok a w := by kernel_rfl
theorem aY (a b c : Value) (w : World) : (Instr.field 110 (.agg #[a, b, c]) 1).run Tryz.prog w = .ok b w := by kernel_rfl
theorem bW (a b c : Value) (w : World) : (Instr.field 110 (.agg #[a, b, c]) 2).run Tryz.prog w = .ok c w := by kernel_rfl
theorem RdAt.set1 (h : RdAt w rb tv E n d) (m : Nat) (hm : m <= E.toks.length) : RdAt (w.setCell ⟨rb, 1, none⟩ (.int .i64 (m : Nat))) rb tv E m d := by
 have hk : Keeps (fun b => b = rb) w (w.setCell ⟨rb, 1, none⟩ (.int .i64 (m : Nat))) := (Keeps.refl (fun b : Nat => b = rb) w).setCell (S := fun b : Nat => b = rb) (p := ⟨rb, 1, none⟩) (Or.inl rfl) _
 refine ⟨?_, World.cell?_setCell_same _ _ _ h.c1, ?_, ?_, by rw [World.frozen?_setCell]; exact h.z1, by rw [World.frozen?_setCell]; exact h.z3, h.row.keeps hk (fun g m cap e s => by have := h.lo g m cap e; omega), h.lo, hm, h.hl, h.hd⟩
 ·rw [World.cell?_setCell_other _ _ _ _ (aQ (by decide) rb)]; exact h.c0
 ·rw [World.cell?_setCell_other _ _ _ _ (aQ (by decide) rb)]; exact h.c2
 ·rw [World.cell?_setCell_other _ _ _ _ (aQ (by decide) rb)]; exact h.c3
theorem RdAt.set3 (h : RdAt w rb tv E n d) (m : Nat) (hm : m <= 12) : RdAt (w.setCell ⟨rb, 3, none⟩ (.int .i64 (m : Nat))) rb tv E n m := by
 have hk : Keeps (fun b => b = rb) w (w.setCell ⟨rb, 3, none⟩ (.int .i64 (m : Nat))) := (Keeps.refl (fun b : Nat => b = rb) w).setCell (S := fun b : Nat => b = rb) (p := ⟨rb, 3, none⟩) (Or.inl rfl) _
 refine ⟨?_, ?_, ?_, World.cell?_setCell_same _ _ _ h.c3, by rw [World.frozen?_setCell]; exact h.z1, by rw [World.frozen?_setCell]; exact h.z3, h.row.keeps hk (fun g m cap e s => by have := h.lo g m cap e; omega), h.lo, h.hn, h.hl, hm⟩
 ·rw [World.cell?_setCell_other _ _ _ _ (aQ (by decide) rb)]; exact h.c0
 ·rw [World.cell?_setCell_other _ _ _ _ (aQ (by decide) rb)]; exact h.c1
 ·rw [World.cell?_setCell_other _ _ _ _ (aQ (by decide) rb)]; exact h.c2
structure TokC (W : World) (b : Nat) (K : Nat) (T : ByteArray) (A : Nat) : Prop where
 c0 : W.cell? ⟨b, 0, none⟩ = some (.int .i64 (K : Nat))
 c1 : W.cell? ⟨b, 1, none⟩ = some (.string T)
 c2 : W.cell? ⟨b, 2, none⟩ = some (.int .i64 (A : Nat))
 z0 : W.frozen? ⟨b, 0, none⟩ = false
 z1 : W.frozen? ⟨b, 1, none⟩ = false
 z2 : W.frozen? ⟨b, 2, none⟩ = false
theorem eZ (w : World) (K A : Nat) (T : ByteArray) (t : TypeId) : TokC (w.alloc (.cells #[.int .i64 K, .string T, .int .i64 A] t)) w.heap.size K T A :=
 ⟨by rw [World.cell?_alloc_at _ _ _ _ rfl]; rfl, by rw [World.cell?_alloc_at _ _ _ _ rfl]; rfl, by rw [World.cell?_alloc_at _ _ _ _ rfl]; rfl, World.frozen?_alloc_new _ _ _ _, World.frozen?_alloc_new _ _ _ _, World.frozen?_alloc_new _ _ _ _⟩
theorem TokC.keeps {S : Nat -> Prop} {b K A : Nat} {T : ByteArray} (h : TokC w b K T A) (hk : Keeps S w w') (hs : ¬ S b) : TokC w' b K T A :=
 have hl : b < w.heap.size := block_lt_of_cell h.c0
 ⟨hk.cell_of h.c0 hs, hk.cell_of h.c1 hs, hk.cell_of h.c2 hs, by rw [hk.frozen (p := ⟨b, 0, none⟩) hl hs]; exact h.z0, by rw [hk.frozen (p := ⟨b, 1, none⟩) hl hs]; exact h.z1, by rw [hk.frozen (p := ⟨b, 2, none⟩) hl hs]; exact h.z2⟩
theorem TokC.fresh {b K A : Nat} {T : ByteArray} (h : TokC w b K T A) (hb : Below w.heap.size w w') : TokC w' b K T A := h.keeps (S := fun _ => False) (Keeps.of_new hb) (fun e => e)
def aR (t : Tok) : Value := .agg #[.int .i64 (t.kind : Nat), .string (mkT t.text), .int .i64 (t.at_ : Nat)]
theorem iZ (k : Nat) (w : World) (h : RdAt w rb tv E n d) (hk : k <= 1) : Calls Tryz.prog 202 #[.pointer (some ⟨rb, 0, none⟩), .int .i64 k] w fun e w' => e = .returned (aR (pk E (n + k))) /\ Below w.heap.size w w' := by
 have H0 := zz h
 have c0 := h.c0
 have c1 := h.c1
 have c2 := h.c2
 have hn := h.hn
 have hl := h.hl
 have hlt := h.lt
 have hw : IntKind.i64.wrap ((n : Int) + (k : Int)) = (n : Int) + (k : Int) := IntWalk.i64_in _ (by omega)
 obtain ⟨ao, cap, hv⟩ : ∃ ao cap, tv = .slice ao E.toks.length cap := by
  rcases h.row with ⟨h1, h2⟩ | ⟨g, cap, h1, _⟩
  ·exact ⟨none, 0, by rw [h1, h2]; rfl⟩
  ·exact ⟨_, _, h1⟩
 subst hv
 clear h
 by_cases hin : n + k < E.toks.length
 ·obtain ⟨t, ht⟩ : ∃ t, E.toks[n + k]? = some t := ⟨_, List.getElem?_eq_getElem hin⟩
  have hpk : pk E (n + k) = t := by unfold pk; rw [ht]; rfl
  rw [hpk]
  rcases H0.out.row with ⟨_, h2⟩ | ⟨g, cap', e, h1, h2, _, h3⟩
  ·rw [h2] at hin; exact absurd hin (Nat.not_lt_zero _)
  injection e with e1 _ e3
  subst e1
  subst e3
  obtain ⟨a0, a1, a2⟩ := h3 _ _ ht
  unfold aR
  clear h3 hpk ht
  generalize mkT t.text = T at *
  generalize t.kind = K at *
  generalize t.at_ = A at *
  generalize E.toks.length = L at *
  have hin1 : ¬ ((L : Int) <= (n : Int) + (k : Int)) := by omega
  have hii : (0 : Int) <= (n : Int) + (k : Int) /\ (n : Int) + (k : Int) < (L : Int) := by omega
  have htn : ((n : Int) + (k : Int)).toNat = n + k := by omega
  go_enter Tryz.func202, Tryz.ntmps202
  go_wp2_with fail
  go_quiet (fail)
  go_wp2_with fail
  have hb0 : Below w.heap.size w ((w.alloc (.cells #[.int .i64 0, .string ⟨#[]⟩, .int .i64 0] 110)).drewN nq) := dO ((Below.refl _ _).alloc (Nat.le_refl _) _) _
  have hg : g < w.heap.size := block_lt_of_cell a0
  rw [<- hb0.cell (p := ⟨rb, 0, none⟩) hlt] at c0
  rw [<- hb0.cell (p := ⟨rb, 1, none⟩) hlt] at c1
  rw [<- hb0.cell (p := ⟨g, (n + k) * 3, none⟩) hg] at a0
  rw [<- hb0.cell (p := ⟨g, (n + k) * 3 + 1, none⟩) hg] at a1
  rw [<- hb0.cell (p := ⟨g, (n + k) * 3 + 2, none⟩) hg] at a2
  have d0 : ((w.alloc (.cells #[.int .i64 0, .string ⟨#[]⟩, .int .i64 0] 110)).drewN nq).cell? ⟨w.heap.size, 0, none⟩ = some (.int .i64 0) := by rw [World.cell?_drewN, World.cell?_alloc_at _ _ _ _ rfl]; rfl
  have d1 : ((w.alloc (.cells #[.int .i64 0, .string ⟨#[]⟩, .int .i64 0] 110)).drewN nq).cell? ⟨w.heap.size, 1, none⟩ = some (.string ⟨#[]⟩) := by rw [World.cell?_drewN, World.cell?_alloc_at _ _ _ _ rfl]; rfl
  have d2 : ((w.alloc (.cells #[.int .i64 0, .string ⟨#[]⟩, .int .i64 0] 110)).drewN nq).cell? ⟨w.heap.size, 2, none⟩ = some (.int .i64 0) := by rw [World.cell?_drewN, World.cell?_alloc_at _ _ _ _ rfl]; rfl
  have y0 : ∀ j, ((w.alloc (.cells #[.int .i64 0, .string ⟨#[]⟩, .int .i64 0] 110)).drewN nq).frozen? ⟨w.heap.size, j, none⟩ = false := fun j => World.frozen?_alloc_new w _ _ _
  have y1 := y0 0
  have y2 := y0 1
  have y3 := y0 2
  have HB0 := zz hb0
  clear y0 hb0
  generalize (w.alloc (.cells #[.int .i64 0, .string ⟨#[]⟩, .int .i64 0] 110)).drewN nq = W0 at *
  generalize hnb : w.heap.size = nb at *
  have HNB := zz hnb
  clear hnb
  go_still_tail 12, (by kernel_rfl)
  change wpList _ _ _ _ _ (World.drew _)
  go_wp2_with fail
  refine bodyPost_ret (v := .agg #[.int .i64 K, .string T, .int .i64 A]) (by simp [results, Tryz.results202, go_sem, d0, d1, d2]) rfl ⟨rfl, ?_⟩
  rw [HNB.out]
  exact (((HB0.out.setCell (p := ⟨nb, 0, none⟩) (Nat.le_refl _) _).setCell (p := ⟨nb, 1, none⟩) (Nat.le_refl _) _).setCell (p := ⟨nb, 2, none⟩) (Nat.le_refl _) _).drew
 ·have hpk : pk E (n + k) = ⟨0, [], E.en⟩ := by unfold pk; rw [List.getElem?_eq_none (by omega)]; rfl
  rw [hpk]
  generalize E.toks.length = L at *
  have hin1 : (L : Int) <= (n : Int) + (k : Int) := by omega
  go_enter Tryz.func202, Tryz.ntmps202
  go_wp2_with fail
  go_quiet (fail)
  go_wp2_with fail
  refine bodyPost_ret (v := .agg #[.int .i64 0, .string ⟨#[]⟩, .int .i64 E.en]) (by simp [results, Tryz.results202, go_sem]) rfl ⟨rfl, ?_⟩
  exact (((dO ((Below.refl _ _).alloc (Nat.le_refl _) _) _).setCell (p := ⟨w.heap.size, 0, none⟩) (Nat.le_refl _) _).setCell (p := ⟨w.heap.size, 1, none⟩) (Nat.le_refl _) _).setCell (p := ⟨w.heap.size, 2, none⟩) (Nat.le_refl _) _
theorem aN (w : World) (h : RdAt w rb tv E n d) : Calls Tryz.prog 153 #[.pointer (some ⟨rb, 0, none⟩)] w fun e w' => e = .returned (aR (pk E n)) /\ Below w.heap.size w w' := by
 have H := zz h
 have hb1 : Below w.heap.size w (w.alloc (.cells #[.int .i64 0, .string ByteArray.empty, .int .i64 0] 110)) := (Below.refl _ _).alloc (Nat.le_refl _) _
 have HA := zz (iZ 0 _ (h.fresh hb1) (by omega))
 have HB1 := zz hb1
 rw [Nat.add_zero] at HA
 unfold aR at *
 clear h hb1
 generalize mkT (pk E n).text = T at *
 go_enter Tryz.func153, Tryz.ntmps153
 go_wp2_with fail
 refine HA.out.mono ?_
 rintro e w1 ⟨rfl, hb2⟩
 have hsz : w.heap.size < (w.alloc (.cells #[.int .i64 0, .string ByteArray.empty, .int .i64 0] 110)).heap.size := by simp
 have d0 : w1.cell? ⟨w.heap.size, 0, none⟩ = some (.int .i64 0) := by rw [hb2.cell (p := ⟨w.heap.size, 0, none⟩) hsz, World.cell?_alloc_at _ _ _ _ rfl]; rfl
 have d1 : w1.cell? ⟨w.heap.size, 1, none⟩ = some (.string ByteArray.empty) := by rw [hb2.cell (p := ⟨w.heap.size, 1, none⟩) hsz, World.cell?_alloc_at _ _ _ _ rfl]; rfl
 have d2 : w1.cell? ⟨w.heap.size, 2, none⟩ = some (.int .i64 0) := by rw [hb2.cell (p := ⟨w.heap.size, 2, none⟩) hsz, World.cell?_alloc_at _ _ _ _ rfl]; rfl
 have y0 : w1.frozen? ⟨w.heap.size, 0, none⟩ = false := by rw [hb2.frozen (p := ⟨w.heap.size, 0, none⟩) hsz]; exact World.frozen?_alloc_new _ _ _ _
 have y1 : w1.frozen? ⟨w.heap.size, 1, none⟩ = false := by rw [hb2.frozen (p := ⟨w.heap.size, 1, none⟩) hsz]; exact World.frozen?_alloc_new _ _ _ _
 have y2 : w1.frozen? ⟨w.heap.size, 2, none⟩ = false := by rw [hb2.frozen (p := ⟨w.heap.size, 2, none⟩) hsz]; exact World.frozen?_alloc_new _ _ _ _
 have HB2 := zz (HB1.out.trans (hb2.mono HB1.out.size))
 clear hb2 hsz
 go_wp2_with fail
 refine bodyPost_ret (v := .agg #[.int .i64 (pk E n).kind, .string T, .int .i64 (pk E n).at_]) (by simp [results, Tryz.results153, go_sem, d0, d1, d2]) rfl ⟨rfl, ?_⟩
 exact ((HB2.out.setCell (p := ⟨w.heap.size, 0, none⟩) (Nat.le_refl _) _).setCell (p := ⟨w.heap.size, 1, none⟩) (Nat.le_refl _) _).setCell (p := ⟨w.heap.size, 2, none⟩) (Nat.le_refl _) _
theorem bP (l m : B) : ((mkT l).toList == m) = decide (l = m) := by
 rw [Lib.toList_data]
 show (l == m) = _
 by_cases h : l = m
 ·rw [decide_eq_true h, beq_iff_eq.2 h]
 ·rw [decide_eq_false h, beq_eq_false_iff_ne.2 h]
theorem fP (x : ByteArray) (w : World) (h : RdAt w rb tv E n d) : Calls Tryz.prog 110 #[.pointer (some ⟨rb, 0, none⟩), .string x] w fun e w' => e = .returned (.bool (decide ((pk E n).text = x.data.toList))) /\ Below w.heap.size w w' := by
 have H := zz (aN w h)
 have HT := zz (bP (pk E n).text x.toList)
 rw [<- Lib.toList_data]
 unfold aR at H
 clear h
 generalize mkT (pk E n).text = T at *
 generalize decide ((pk E n).text = x.toList) = b at *
 go_enter Tryz.func110, Tryz.ntmps110
 go_wp2_with fail
 refine H.out.mono ?_
 rintro e w1 ⟨rfl, hb⟩
 have ht := HT.out
 have hf := aY
 go_wp2_with fail
 go_ret
 exact ⟨rfl, hb⟩
theorem CS (w : World) (h : RdAt w rb tv E n d) : Calls Tryz.prog 109 #[.pointer (some ⟨rb, 0, none⟩)] w fun e w' => e = .returned (.bool (decide (E.toks.length <= n))) /\ ∃ q, w' = w.drewN q := by
 have c0 := h.c0
 have c1 := h.c1
 have hn := h.hn
 have hl := h.hl
 obtain ⟨ao, cap, hv⟩ : ∃ ao cap, tv = .slice ao E.toks.length cap := by
  rcases h.row with ⟨h1, h2⟩ | ⟨g, cap, h1, _⟩
  ·exact ⟨none, 0, by rw [h1, h2]; rfl⟩
  ·exact ⟨_, _, h1⟩
 subst hv
 clear h
 generalize E.toks.length = L at *
 by_cases hLn : L <= n
 all_goals
  go_enter Tryz.func109, Tryz.ntmps109
  go_wp2_with fail
  go_quiet (fail)
  go_wp2_with fail
  go_ret
  exact ⟨by simp [hLn], _, rfl⟩
def Threw (w w' : World) (rb k a : Nat) (e : Ending) : Prop :=
 ∃ b, e = .panicked [{ v := .iface 145 (.pointer (some ⟨b, 0, none⟩)), recovered := false }] /\ rb < b /\ w'.cell? ⟨b, 0, none⟩ = some (.int .i64 (k : Nat)) /\ w'.cell? ⟨b, 1, none⟩ = some (.int .i64 (a : Nat)) /\ Below rb w w'
theorem dC (k : Nat) (w : World) (h : RdAt w rb tv E n d) : Calls Tryz.prog 114 #[.pointer (some ⟨rb, 0, none⟩), .int .i64 k] w fun e w' => Threw w w' rb k (pk E n).at_ e := by
 have H := zz (aN w h)
 have hlt := h.lt
 unfold aR at H
 clear h
 generalize mkT (pk E n).text = T at *
 generalize (pk E n).at_ = A at *
 go_enter Tryz.func114, Tryz.ntmps114
 go_wp2_with fail
 refine H.out.mono ?_
 rintro e w1 ⟨rfl, hb⟩
 have hf := bW
 go_wp2_with fail
 refine ⟨rfl, w1.heap.size, rfl, Nat.lt_of_lt_of_le hlt hb.size, by rw [World.cell?_alloc_at _ _ _ _ rfl]; rfl, by rw [World.cell?_alloc_at _ _ _ _ rfl]; rfl, ?_⟩
 exact (Below.mono hb (Nat.le_of_lt hlt)).alloc (Nat.le_trans (Nat.le_of_lt hlt) hb.size) _
def bL {α : Type} (V : World -> World -> α -> Value -> Prop) (w w' : World) (rb : Nat) (tv : Value) (E : Env) (d : Nat) (r : Res α) (e : Ending) : Prop := match r with
 | .ok x m => ∃ v, e = .returned v /\ V w w' x v /\ RdAt w' rb tv E m d /\ Keeps (fun b => b = rb) w w'
 | .bad k a => Threw w w' rb k a e
 | .out => False
def jL (_ _ : World) (t : Tok) (v : Value) : Prop := v = aR t
theorem bF (w : World) (h : RdAt w rb tv E n d) (hlt : n < E.toks.length) : Calls Tryz.prog 159 #[.pointer (some ⟨rb, 0, none⟩)] w fun e w' => e = .returned (aR (pk E n)) /\ RdAt w' rb tv E (n + 1) d /\ Keeps (fun b => b = rb) w w' := by
 have H0 := zz h
 have hb1 : Below w.heap.size w (w.alloc (.cells #[.int .i64 0, .string ⟨#[]⟩, .int .i64 0] 110)) := (Below.refl _ _).alloc (Nat.le_refl _) _
 have HP := zz (aN _ (h.fresh hb1))
 have hl := h.hl
 have hw : IntKind.i64.wrap ((n : Int) + 1) = (n : Int) + 1 := IntWalk.i64_in _ (by omega)
 have HLT := zz hlt
 have hb1' := hb1
 unfold aR at *
 clear h hb1 hlt
 generalize mkT (pk E n).text = T at *
 generalize (pk E n).kind = K at *
 generalize (pk E n).at_ = A at *
 go_enter Tryz.func159, Tryz.ntmps159
 go_wp2_with fail
 refine HP.out.mono ?_
 rintro e w1 ⟨rfl, hb2⟩
 have hb3 : Below w1.heap.size w1 (w1.alloc (.cells #[.int .i64 K, .string T, .int .i64 A] 110)) := (Below.refl _ _).alloc (Nat.le_refl _) _
 have hr := ((H0.out.fresh hb1').fresh hb2).fresh hb3
 have ht := ((eZ w 0 0 ⟨#[]⟩ 110).fresh hb2).fresh hb3
 have hp := eZ w1 K A T 110
 have hk : Keeps (fun b => b = rb) w (w1.alloc (.cells #[.int .i64 K, .string T, .int .i64 A] 110)) := Keeps.of_new ((hb1'.trans (hb2.mono hb1'.size)).trans (hb3.mono (Nat.le_trans hb1'.size hb2.size)))
 have hne : rb ≠ w.heap.size := Nat.ne_of_lt H0.out.lt
 have hne2 : rb ≠ w1.heap.size := Nat.ne_of_lt (Nat.lt_of_lt_of_le H0.out.lt (Nat.le_trans hb1'.size hb2.size))
 have hne3 : w.heap.size ≠ w1.heap.size := Nat.ne_of_lt (Nat.lt_of_lt_of_le (by simp) hb2.size)
 have c1 := hr.c1
 have z1 := hr.z1
 have p0 := hp.c0
 have p1 := hp.c1
 have p2 := hp.c2
 have t0 := ht.c0
 have t1 := ht.c1
 have t2 := ht.c2
 have y0 := ht.z0
 have y1 := ht.z1
 have y2 := ht.z2
 have HR := zz hr
 have HK := zz hk
 have hb1'' := hb1'
 have hb2' := hb2
 clear hb1' hb2 hb3 hr ht hp hk
 have hlt1 : rb < w1.heap.size := Nat.lt_of_lt_of_le H0.out.lt (Nat.le_trans hb1''.size hb2'.size)
 have hr1 := (H0.out.fresh hb1'').fresh hb2'
 have d1 := hr1.c1
 have x1 := hr1.z1
 have HR1 := zz hr1
 have hs1 := (eZ w 0 0 ⟨#[]⟩ 110).fresh hb2'
 have s0 := hs1.c0
 have s1 := hs1.c1
 have s2 := hs1.c2
 have x0 := hs1.z0
 have x2 := hs1.z1
 have x3 := hs1.z2
 have hlt2 : w.heap.size < w1.heap.size := Nat.lt_of_lt_of_le (by simp) hb2'.size
 clear hs1
 have HK1 : Hid (Keeps (fun b => b = rb) w w1) := zz (Keeps.of_new (hb1''.trans (hb2'.mono hb1''.size)))
 clear hr1 hb1'' hb2'
 go_wp2_with fail
 have hr2 := HR1.out.set1 (n + 1) HLT.out
 refine bodyPost_ret (v := .agg #[.int .i64 K, .string T, .int .i64 A]) (by simp [results, Tryz.results159, go_sem, s0, s1, s2, hlt2]) rfl ⟨rfl, ?_, ?_⟩
 ·refine hr2.keeps (S := fun b => b = w.heap.size) ?_ (fun b e => by rw [e]; exact H0.out.lt)
  exact ((((Keeps.refl (fun b => b = w.heap.size) _).setCell (S := fun b => b = w.heap.size) (p := ⟨w.heap.size, 0, none⟩) (Or.inl rfl) _).setCell (S := fun b => b = w.heap.size) (p := ⟨w.heap.size, 1, none⟩) (Or.inl rfl) _).setCell (S := fun b => b = w.heap.size) (p := ⟨w.heap.size, 2, none⟩) (Or.inl rfl) _).alloc _
 ·exact (((((HK1.out.setCell (S := fun b => b = rb) (p := ⟨rb, 1, none⟩) (Or.inl rfl) _).setCell (S := fun b => b = rb) (p := ⟨w.heap.size, 0, none⟩) (Or.inr (Nat.le_refl _)) _).setCell (S := fun b => b = rb) (p := ⟨w.heap.size, 1, none⟩) (Or.inr (Nat.le_refl _)) _).setCell (S := fun b => b = rb) (p := ⟨w.heap.size, 2, none⟩) (Or.inr (Nat.le_refl _)) _).alloc _)
end Go.Proofs.YtnpapppipccdbaaGreatDoor
namespace Go.Proofs.YtnpapppipccdbaaGreatDoor
open Go.RowKit Lx Tr
variable {w w' : World} {rb n d : Nat} {tv : Value} {E : Env}
theorem d8 {t : B} (h : (pk E n).text = t) (ht : t ≠ []) : n < E.toks.length := by
 apply Nat.lt_of_not_le
 intro hn
 unfold pk at h
 rw [List.getElem?_eq_none hn] at h
 exact ht h.symm
theorem E4 {k : Nat} (h : (pk E n).kind = k) (hk : k ≠ 0) : n < E.toks.length := by
 apply Nat.lt_of_not_le
 intro hn
 unfold pk at h
 rw [List.getElem?_eq_none hn] at h
 exact hk h.symm
theorem Threw.after {a : World} {k p : Nat} {e : Ending} (h : Threw w w' rb k p e) (hb : Below rb a w) : Threw a w' rb k p e := by
 obtain ⟨b, h1, h2, h3, h4, h5⟩ := h
 exact ⟨b, h1, h2, h3, h4, hb.trans h5⟩
theorem bM (x : ByteArray) (hx : x.data.toList ≠ []) (w : World) (h : RdAt w rb tv E n d) : Calls Tryz.prog 154 #[.pointer (some ⟨rb, 0, none⟩), .string x] w fun e w' => bL jL w w' rb tv E d (take E x.data.toList n) e := by
 have hb1 : Below w.heap.size w (w.alloc (.cells #[.int .i64 0, .string ⟨#[]⟩, .int .i64 0] 110)) := (Below.refl _ _).alloc (Nat.le_refl _) _
 have h1 := h.fresh hb1
 have hs0 := eZ w 0 0 ⟨#[]⟩ 110
 have HI := zz (fP x _ h1)
 have H0 := zz h
 have H1 := zz h1
 have HB1 := zz hb1
 have HS0 := zz hs0
 by_cases hc : (pk E n).text = x.data.toList
 ·have hn := d8 hc hx
  rw [decide_eq_true hc] at HI
  have hv : take E x.data.toList n = .ok (pk E n) (n + 1) := by unfold take; rw [if_pos hc]
  rw [hv]
  have HN := zz hn
  clear h h1 hb1 hs0 hv hx hc hn
  unfold bL jL
  simp only
  have HSK : Hid (∀ W, RdAt W rb tv E n d -> Calls Tryz.prog 159 #[.pointer (some ⟨rb, 0, none⟩)] W fun e w' => e = .returned (aR (pk E n)) /\ RdAt w' rb tv E (n + 1) d /\ Keeps (fun b => b = rb) W w') := zz fun W hW => bF W hW HN.out
  unfold aR at *
  generalize mkT (pk E n).text = T at *
  generalize (pk E n).kind = K at *
  generalize (pk E n).at_ = A at *
  go_enter Tryz.func154, Tryz.ntmps154
  go_wp2_with (go_at_call 110; refine HI.out.mono ?_; rintro e w1 ⟨rfl, hb2⟩)
  refine (HSK.out w1 (H1.out.fresh hb2)).mono ?_
  rintro e w2 ⟨rfl, hr2, hk2⟩
  have hne : w.heap.size ≠ rb := fun e => Nat.lt_irrefl rb (by have := H0.out.lt; omega)
  have hs2 := (HS0.out.fresh hb2).keeps hk2 hne
  have s0 := hs2.c0
  have s1 := hs2.c1
  have s2 := hs2.c2
  have x0 := hs2.z0
  have x1 := hs2.z1
  have x2 := hs2.z2
  have HR2 := zz hr2
  have HK2 : Hid (Keeps (fun b => b = rb) w w2) := zz ((Keeps.of_new (HB1.out.trans (hb2.mono HB1.out.size))).trans hk2)
  clear hs2 hr2 hk2 hb2
  go_wp2_with fail
  refine bodyPost_ret (v := .agg #[.int .i64 K, .string T, .int .i64 A]) (by simp [results, Tryz.results154, go_sem, s0, s1, s2]) rfl ⟨_, rfl, rfl, ?_, ?_⟩
  ·refine HR2.out.keeps (S := fun b => b = w.heap.size) ?_ (fun b e => by rw [e]; exact H0.out.lt)
   exact ((Keeps.refl (fun b => b = w.heap.size) _).setCell (S := fun b => b = w.heap.size) (p := ⟨w.heap.size, 0, none⟩) (Or.inl rfl) _).setCell (S := fun b => b = w.heap.size) (p := ⟨w.heap.size, 1, none⟩) (Or.inl rfl) _ |>.setCell (S := fun b => b = w.heap.size) (p := ⟨w.heap.size, 2, none⟩) (Or.inl rfl) _
  ·exact ((HK2.out.setCell (S := fun b => b = rb) (p := ⟨w.heap.size, 0, none⟩) (Or.inr (Nat.le_refl _)) _).setCell (S := fun b => b = rb) (p := ⟨w.heap.size, 1, none⟩) (Or.inr (Nat.le_refl _)) _).setCell (S := fun b => b = rb) (p := ⟨w.heap.size, 2, none⟩) (Or.inr (Nat.le_refl _)) _
 ·rw [decide_eq_false hc] at HI
  have hv : take E x.data.toList n = .bad 3 (pk E n).at_ := by unfold take; rw [if_neg hc]; rfl
  rw [hv]
  clear h h1 hb1 hs0 hv hx hc
  unfold bL
  simp only
  go_enter Tryz.func154, Tryz.ntmps154
  go_wp2_with (go_at_call 110; refine HI.out.mono ?_; rintro e w1 ⟨rfl, hb2⟩)
  refine (dC 3 w1 (H1.out.fresh hb2)).mono ?_
  rintro e w2 ht
  have ht2 := ht.after ((HB1.out.trans (hb2.mono HB1.out.size)).mono (Nat.le_of_lt H0.out.lt))
  obtain ⟨b, rfl, _⟩ := ht
  exact ⟨rfl, ht2⟩
theorem aX (k : Nat) (hk : k ≠ 0) (w : World) (h : RdAt w rb tv E n d) : Calls Tryz.prog 115 #[.pointer (some ⟨rb, 0, none⟩), .int .i64 k] w fun e w' => bL jL w w' rb tv E d (aF E k n) e := by
 have hb1 : Below w.heap.size w (w.alloc (.cells #[.int .i64 0, .string ⟨#[]⟩, .int .i64 0] 110)) := (Below.refl _ _).alloc (Nat.le_refl _) _
 have h1 := h.fresh hb1
 have hs0 := eZ w 0 0 ⟨#[]⟩ 110
 have HI := zz (aN _ h1)
 unfold aR at HI
 have H0 := zz h
 have H1 := zz h1
 have HB1 := zz hb1
 have HS0 := zz hs0
 by_cases hc : (pk E n).kind = k
 ·have hn := E4 hc hk
  have hci : ((pk E n).kind : Int) = (k : Int) := by omega
  have hv : aF E k n = .ok (pk E n) (n + 1) := by unfold aF; rw [if_pos hc]
  rw [hv]
  have HN := zz hn
  clear h h1 hb1 hs0 hv hk hc hn
  unfold bL jL
  simp only
  have HSK : Hid (∀ W, RdAt W rb tv E n d -> Calls Tryz.prog 159 #[.pointer (some ⟨rb, 0, none⟩)] W fun e w' => e = .returned (aR (pk E n)) /\ RdAt w' rb tv E (n + 1) d /\ Keeps (fun b => b = rb) W w') := zz fun W hW => bF W hW HN.out
  unfold aR at *
  generalize mkT (pk E n).text = T at *
  generalize (pk E n).kind = K at *
  generalize (pk E n).at_ = A at *
  go_enter Tryz.func115, Tryz.ntmps115
  have hf := aV
  go_wp2_with (go_at_call 153; refine HI.out.mono ?_; rintro e w1 ⟨rfl, hb2⟩)
  refine (HSK.out w1 (H1.out.fresh hb2)).mono ?_
  rintro e w2 ⟨rfl, hr2, hk2⟩
  have hne : w.heap.size ≠ rb := fun e => Nat.lt_irrefl rb (by have := H0.out.lt; omega)
  have hs2 := (HS0.out.fresh hb2).keeps hk2 hne
  have s0 := hs2.c0
  have s1 := hs2.c1
  have s2 := hs2.c2
  have x0 := hs2.z0
  have x1 := hs2.z1
  have x2 := hs2.z2
  have HR2 := zz hr2
  have HK2 : Hid (Keeps (fun b => b = rb) w w2) := zz ((Keeps.of_new (HB1.out.trans (hb2.mono HB1.out.size))).trans hk2)
  clear hs2 hr2 hk2 hb2
  go_wp2_with fail
  refine bodyPost_ret (v := .agg #[.int .i64 K, .string T, .int .i64 A]) (by simp [results, Tryz.results115, go_sem, s0, s1, s2, hci]) rfl ⟨_, rfl, rfl, ?_, ?_⟩
  ·refine HR2.out.keeps (S := fun b => b = w.heap.size) ?_ (fun b e => by rw [e]; exact H0.out.lt)
   exact ((Keeps.refl (fun b => b = w.heap.size) _).setCell (S := fun b => b = w.heap.size) (p := ⟨w.heap.size, 0, none⟩) (Or.inl rfl) _).setCell (S := fun b => b = w.heap.size) (p := ⟨w.heap.size, 1, none⟩) (Or.inl rfl) _ |>.setCell (S := fun b => b = w.heap.size) (p := ⟨w.heap.size, 2, none⟩) (Or.inl rfl) _
  ·exact ((HK2.out.setCell (S := fun b => b = rb) (p := ⟨w.heap.size, 0, none⟩) (Or.inr (Nat.le_refl _)) _).setCell (S := fun b => b = rb) (p := ⟨w.heap.size, 1, none⟩) (Or.inr (Nat.le_refl _)) _).setCell (S := fun b => b = rb) (p := ⟨w.heap.size, 2, none⟩) (Or.inr (Nat.le_refl _)) _
 ·have hci : ¬ ((pk E n).kind : Int) = (k : Int) := by omega
  have hv : aF E k n = .bad 3 (pk E n).at_ := by unfold aF; rw [if_neg hc]; rfl
  rw [hv]
  clear h h1 hb1 hs0 hv hk hc
  unfold bL
  simp only
  generalize mkT (pk E n).text = T at *
  go_enter Tryz.func115, Tryz.ntmps115
  have hf := aV
  go_wp2_with (go_at_call 153; refine HI.out.mono ?_; rintro e w1 ⟨rfl, hb2⟩)
  refine (dC 3 w1 (H1.out.fresh hb2)).mono ?_
  rintro e w2 ht
  have ht2 := ht.after ((HB1.out.trans (hb2.mono HB1.out.size)).mono (Nat.le_of_lt H0.out.lt))
  obtain ⟨b, rfl, _⟩ := ht
  exact ⟨rfl, ht2⟩
def aO (E : Env) (t : B) (n : Nat) : Nat := if (pk E n).text = t then n + 1 else n
theorem cX (x : ByteArray) (hx : x.data.toList ≠ []) (w : World) (h : RdAt w rb tv E n d) : Calls Tryz.prog 203 #[.pointer (some ⟨rb, 0, none⟩), .string x] w fun e w' =>
  e = .returned (.bool (decide ((pk E n).text = x.data.toList))) /\ RdAt w' rb tv E (aO E x.data.toList n) d /\ Keeps (fun b => b = rb) w w' := by
 have HI := zz (fP x _ h)
 have H0 := zz h
 by_cases hc : (pk E n).text = x.data.toList
 ·have hn := d8 hc hx
  rw [decide_eq_true hc] at HI ⊢
  have hv : aO E x.data.toList n = n + 1 := by unfold aO; rw [if_pos hc]
  rw [hv]
  have HN := zz hn
  clear h hv hx hc hn
  have HSK : Hid (∀ W, RdAt W rb tv E n d -> Calls Tryz.prog 159 #[.pointer (some ⟨rb, 0, none⟩)] W fun e w' => e = .returned (aR (pk E n)) /\ RdAt w' rb tv E (n + 1) d /\ Keeps (fun b => b = rb) W w') := zz fun W hW => bF W hW HN.out
  go_enter Tryz.func203, Tryz.ntmps203
  go_wp2_with (go_at_call 110; refine HI.out.mono ?_; rintro e w1 ⟨rfl, hb2⟩)
  refine (HSK.out w1 (H0.out.fresh hb2)).mono ?_
  rintro e w2 ⟨rfl, hr2, hk2⟩
  go_wp2_with fail
  go_ret
  exact ⟨rfl, hr2, (Keeps.of_new hb2).trans hk2⟩
 ·rw [decide_eq_false hc] at HI ⊢
  have hv : aO E x.data.toList n = n := by unfold aO; rw [if_neg hc]
  rw [hv]
  clear h hv hx hc
  go_enter Tryz.func203, Tryz.ntmps203
  go_wp2_with (go_at_call 110; refine HI.out.mono ?_; rintro e w1 ⟨rfl, hb2⟩)
  go_ret
  exact ⟨rfl, H0.out.fresh hb2, Keeps.of_new hb2⟩
theorem fV (a m : Nat) (w : World) (h : RdAt w rb tv E n d) : Calls Tryz.prog 111 #[.pointer (some ⟨rb, 0, none⟩), .int .i64 a, .int .i64 m] w fun e w' =>
  if m <= a then Threw w w' rb 4 (pk E n).at_ e else e = .returned (.tuple #[]) /\ w = w' := by
 have HF := zz (dC 4 w h)
 clear h
 by_cases hc : m <= a
 ·have hi : (m : Int) <= (a : Int) := by omega
  simp only [if_pos hc]
  go_enter Tryz.func111, Tryz.ntmps111
  go_wp2_with fail
  refine HF.out.mono ?_
  rintro e w2 ht
  have ht2 := ht
  obtain ⟨b, rfl, _⟩ := ht
  exact ⟨rfl, ht2⟩
 ·have hi : ¬ (m : Int) <= (a : Int) := by omega
  simp only [if_neg hc]
  go_enter Tryz.func111, Tryz.ntmps111
  go_wp2_with fail
  go_end0
  exact ⟨rfl, rfl⟩
theorem oZ (s : ByteArray) (w : World) (hS : lB w) : Calls Tryz.prog 313 #[.string s] w fun e w' => e = .returned (.int .i64 (opV s.data.toList : Nat)) /\ w = w' := by
 have H := zz (IC s w hS)
 rw [<- Lib.toList_data]
 unfold opV
 clear hS
 generalize g8 s.toList 16 1 = R at *
 by_cases h1 : s.toList = [38, 38]
 ·rw [if_pos h1]
  have b1 : (s.toList == [38, 38]) = true := beq_iff_eq.2 h1
  clear h1
  go_enter Tryz.func313, Tryz.ntmps313
  go_wp2_with fail
  go_ret
  exact ⟨rfl, rfl⟩
 ·rw [if_neg h1]
  have b1 : (s.toList == [38, 38]) = false := beq_eq_false_iff_ne.2 h1
  by_cases h2 : s.toList = [124, 124]
  ·rw [if_pos h2]
   have b2 : (s.toList == [124, 124]) = true := beq_iff_eq.2 h2
   clear h1 h2
   go_enter Tryz.func313, Tryz.ntmps313
   go_wp2_with fail
   all_goals
    go_ret
    exact ⟨rfl, rfl⟩
  ·rw [if_neg h2]
   have b2 : (s.toList == [124, 124]) = false := beq_eq_false_iff_ne.2 h2
   clear h1 h2
   go_enter Tryz.func313, Tryz.ntmps313
   go_wp2_with (go_at_call 319; refine H.out.mono ?_; rintro e w1 ⟨rfl, rfl⟩)
   go_ret
   exact ⟨rfl, rfl⟩
theorem oG (op : Nat) (w : World) : Calls Tryz.prog 186 #[.int .i64 op] w fun e w' => e = .returned (.int .i64 (bN op : Nat)) /\ w = w' := by
 go_enter Tryz.func186, Tryz.ntmps186
 go_wp2_with fail
 all_goals
  go_ret
  refine ⟨nB ?_, rfl⟩
  simp only [beq_iff_eq, beq_eq_false_iff_ne, ne_eq] at *
  unfold bN
  (repeat' split) <;> omega
theorem uL (l m : B) : (m == l) = decide (l = m) := by
 by_cases h : l = m
 ·rw [decide_eq_true h, h]; exact beq_iff_eq.2 rfl
 ·rw [decide_eq_false h]; exact beq_eq_false_iff_ne.2 (fun e => h e.symm)
def gG : List (List UInt8) := [[], [105, 110, 116], [98, 111, 111, 108], [99, 104, 97, 110]]
def mM (w : World) : Prop := ∀ n : Nat, n < 4 -> w.cell? ⟨2, n, none⟩ = some (.string ⟨(gG.getD n []).toArray⟩)
theorem yL (s : ByteArray) (w : World) (hK : mM w) : Calls Tryz.prog 204 #[.string s] w fun e w' => e = .returned (.int .i64 (kindV s.data.toList : Nat)) /\ w = w' := by
 have k1 := hK 1 (by decide)
 have k2 := hK 2 (by decide)
 have k3 := hK 3 (by decide)
 have e1 : ((⟨(gG.getD 1 []).toArray⟩ : ByteArray)).toList = [105, 110, 116] := by rw [Lib.toList_data]; rfl
 have e2 : ((⟨(gG.getD 2 []).toArray⟩ : ByteArray)).toList = [98, 111, 111, 108] := by rw [Lib.toList_data]; rfl
 have e3 : ((⟨(gG.getD 3 []).toArray⟩ : ByteArray)).toList = [99, 104, 97, 110] := by rw [Lib.toList_data]; rfl
 clear hK
 generalize (⟨(gG.getD 1 []).toArray⟩ : ByteArray) = A1 at *
 generalize (⟨(gG.getD 2 []).toArray⟩ : ByteArray) = A2 at *
 generalize (⟨(gG.getD 3 []).toArray⟩ : ByteArray) = A3 at *
 rw [<- Lib.toList_data]
 have b1 : (A1.toList == s.toList) = decide (s.toList = J8) := by rw [e1]; exact uL _ _
 have b2 : (A2.toList == s.toList) = decide (s.toList = EN) := by rw [e2]; exact uL _ _
 have b3 : (A3.toList == s.toList) = decide (s.toList = EO) := by rw [e3]; exact uL _ _
 clear e1 e2 e3
 unfold kindV
 by_cases h1 : s.toList = J8
 ·rw [decide_eq_true h1] at b1
  rw [if_pos h1]
  clear h1 b2 b3
  go_enter Tryz.func204, Tryz.ntmps204
  go_wp2_with fail
  refine wp_loop_rounds 1 ?_
  rw [rounds_succ]
  go_wp2_with fail
  go_ret
  exact ⟨rfl, rfl⟩
 ·rw [decide_eq_false h1] at b1
  rw [if_neg h1]
  by_cases h2 : s.toList = EN
  ·rw [decide_eq_true h2] at b2
   rw [if_pos h2]
   clear h1 h2 b3
   go_enter Tryz.func204, Tryz.ntmps204
   go_wp2_with fail
   refine wp_loop_rounds 2 ?_
   rw [rounds_succ]
   go_wp2_with fail
   rw [rounds_succ]
   go_wp2_with fail
   go_ret
   exact ⟨rfl, rfl⟩
  ·rw [decide_eq_false h2] at b2
   rw [if_neg h2]
   by_cases h3 : s.toList = EO
   ·rw [decide_eq_true h3] at b3
    rw [if_pos h3]
    clear h1 h2 h3
    go_enter Tryz.func204, Tryz.ntmps204
    go_wp2_with fail
    refine wp_loop_rounds 3 ?_
    rw [rounds_succ]
    go_wp2_with fail
    rw [rounds_succ]
    go_wp2_with fail
    rw [rounds_succ]
    go_wp2_with fail
    go_ret
    exact ⟨rfl, rfl⟩
   ·rw [decide_eq_false h3] at b3
    rw [if_neg h3]
    clear h1 h2 h3
    go_enter Tryz.func204, Tryz.ntmps204
    go_wp2_with fail
    refine wp_loop_rounds 4 ?_
    rw [rounds_succ]
    go_wp2_with fail
    rw [rounds_succ]
    go_wp2_with fail
    rw [rounds_succ]
    go_wp2_with fail
    rw [rounds_succ]
    go_wp2_with fail
    go_ret
    exact ⟨rfl, rfl⟩
theorem vU (w : World) (h : RdAt w rb tv E n d) (hK : mM w) (hg : 2 < w.heap.size) : Calls Tryz.prog 157 #[.pointer (some ⟨rb, 0, none⟩)] w fun e w' =>
  e = .returned (.int .i64 (kindV (pk E n).text : Nat)) /\ RdAt w' rb tv E (if kindV (pk E n).text = 0 then n else n + 1) d /\ Keeps (fun b => b = rb) w w' := by
 have HP := zz (aN w h)
 have H0 := zz h
 have HKO : Hid (∀ W, Below w.heap.size w W -> Calls Tryz.prog 204 #[.string (mkT (pk E n).text)] W fun e w' => e = .returned (.int .i64 (kindV (pk E n).text : Nat)) /\ W = w') := zz fun W hb => yL (mkT (pk E n).text) W fun k hk => by
  rw [hb.cell (p := ⟨2, k, none⟩) hg]; exact hK k hk
 have hlt : kindV (pk E n).text ≠ 0 -> n < E.toks.length := fun hc => d8 rfl (fun e => hc (by rw [e]; rfl))
 have HSK : Hid (kindV (pk E n).text ≠ 0 -> ∀ W, RdAt W rb tv E n d -> Calls Tryz.prog 159 #[.pointer (some ⟨rb, 0, none⟩)] W fun e w' => e = .returned (aR (pk E n)) /\ RdAt w' rb tv E (n + 1) d /\ Keeps (fun b => b = rb) W w') := zz fun hc W hW => bF W hW (hlt hc)
 unfold aR at HP
 clear h hK hg hlt
 have hf := aY
 generalize mkT (pk E n).text = T at *
 generalize kindV (pk E n).text = kd at *
 by_cases hc : kd = 0
 ·subst hc
  go_enter Tryz.func157, Tryz.ntmps157
  go_wp2_with (first | (go_at_call 153; refine HP.out.mono ?_; rintro e w1 ⟨rfl, hb1⟩) | (go_at_call 204; refine (HKO.out _ hb1).mono ?_; rintro e w2 ⟨rfl, rfl⟩))
  go_ret
  exact ⟨rfl, H0.out.fresh hb1, Keeps.of_new hb1⟩
 ·have hci : ¬ (kd : Int) = 0 := by omega
  have HC := zz hc
  rw [if_neg hc]
  clear hc
  go_enter Tryz.func157, Tryz.ntmps157
  go_wp2_with (first | (go_at_call 153; refine HP.out.mono ?_; rintro e w1 ⟨rfl, hb1⟩) | (go_at_call 204; refine (HKO.out _ hb1).mono ?_; rintro e w2 ⟨rfl, rfl⟩))
  refine (HSK.out HC.out w1 (H0.out.fresh hb1)).mono ?_
  rintro e w2 ⟨rfl, hr2, hk2⟩
  go_wp2_with fail
  go_ret
  exact ⟨rfl, hr2, (Keeps.of_new hb1).trans hk2⟩
end Go.Proofs.YtnpapppipccdbaaGreatDoor
namespace Go.Proofs.YtnpapppipccdbaaGreatDoor
open Go.RowKit Lx Tr
variable {w w' : World} {rb n d dd : Nat} {tv : Value} {E : Env}
structure TEnv (rb : Nat) (E : Env) (w : World) : Prop where
 signs : lB w
 kinds : mM w
 b1 : 7 < rb
 b2 : 2 < rb
 nums : ∀ t ∈ E.toks, t.kind = 3 -> Lib.atoiAll t.text = .ok (dY t.text : Nat) /\ t.text.length <= 4000
theorem TEnv.keeps {S : Nat -> Prop} (h : TEnv rb E w) (hk : Keeps S w w') (hs : ∀ b, S b -> rb <= b) : TEnv rb E w' := by
 have h1 := h.b1
 have h2 := h.b2
 exact ⟨fun k hk' => hk.cell_of (h.signs k hk') (fun e => Nat.lt_irrefl _ (Nat.lt_of_lt_of_le h1 (hs _ e))), fun k hk' => hk.cell_of (h.kinds k hk') (fun e => Nat.lt_irrefl _ (Nat.lt_of_lt_of_le h2 (hs _ e))), h1, h2, h.nums⟩
theorem TEnv.fresh (h : TEnv rb E w) (hb : Below w.heap.size w w') : TEnv rb E w' := h.keeps (S := fun _ => False) (Keeps.of_new hb) (fun _ e => e.elim)
theorem TEnv.own (h : TEnv rb E w) (hk : Keeps (fun b => b = rb) w w') : TEnv rb E w' := h.keeps hk (fun _ e => Nat.le_of_eq e.symm)
def ExV (w w' : World) (x : Ex) (v : Value) : Prop := ExIn w' (fun b => w.heap.size <= b) v x
theorem vV (w : World) (code at_ m : Nat) (name : B) (t : TypeId) {F : Nat -> Prop} (hF : F w.heap.size) :
    ExIn (w.alloc (.cells #[.int .i64 code, .int .i64 at_, .int .i64 m, .string (mkT name), .int .i64 0, .pointer none, .pointer none, .slice none 0 0] t)) F (.pointer (some ⟨w.heap.size, 0, none⟩)) (leaf code at_ m name) := by
  have hc : ∀ (j : Nat) (v : Value), (#[Value.int .i64 code, .int .i64 at_, .int .i64 m, .string (mkT name), .int .i64 0, .pointer none, .pointer none, .slice none 0 0] : Array Value)[j]? = some v ->
      (w.alloc (.cells #[.int .i64 code, .int .i64 at_, .int .i64 m, .string (mkT name), .int .i64 0, .pointer none, .pointer none, .slice none 0 0] t)).cell? ⟨w.heap.size, j, none⟩ = some v := fun j v h => by
    rw [World.cell?_alloc_at _ _ _ _ rfl]; exact h
  refine ⟨w.heap.size, .pointer none, .pointer none, .slice none 0 0, rfl, hF, hc 0 _ rfl, hc 1 _ rfl, hc 2 _ rfl, hc 3 _ rfl, hc 4 _ rfl, hc 5 _ rfl, hc 6 _ rfl, hc 7 _ rfl, rfl, rfl, Or.inl ⟨rfl, rfl⟩, fun g m cap e => by cases e⟩
theorem yM (w : World) (h : RdAt w rb tv E n d) (hE : TEnv rb E w) (hk : (pk E n).kind = 3) : Calls Tryz.prog 316 #[.pointer (some ⟨rb, 0, none⟩)] w fun e w' =>
  bL ExV w w' rb tv E d (.ok (leaf 1 (pk E n).at_ (dY (pk E n).text) []) (n + 1)) e := by
 have hn := E4 hk (by decide)
 have hmem : pk E n ∈ E.toks := by
  unfold pk
  rw [List.getElem?_eq_getElem hn]
  exact List.getElem_mem hn
 obtain ⟨hat, hlen⟩ := hE.nums _ hmem hk
 have HTK := zz (aX 3 (by decide) w h)
 have hv : aF E 3 n = .ok (pk E n) (n + 1) := by unfold aF; rw [if_pos hk]
 rw [hv] at HTK
 have H0 := zz h
 have HAT : Hid (∀ W, Calls Tryz.prog 320 #[.string (mkT (pk E n).text)] W fun e w' => e = .returned (.tuple #[.int .i64 (dY (pk E n).text : Nat), .nilIface]) /\ Below W.heap.size W w') := zz fun W => by
  refine (Tryz.strconv_Atoi_ok (mkT (pk E n).text) (by rw [eI]; omega) _ hat W).mono ?_
  rintro e w' ⟨rfl, hw⟩
  refine ⟨rfl, ?_⟩
  rcases hw with rfl | ⟨t, rfl⟩
  ·exact Below.refl _ _
  ·exact Lib.bytesWorld_below _ _ _
 clear h hE hk hn hmem hat hlen hv
 unfold bL jL aR at HTK
 simp only at HTK
 unfold bL
 simp only
 generalize dY (pk E n).text = N at *
 generalize mkT (pk E n).text = T at *
 generalize (pk E n).at_ = A at *
 generalize (pk E n).kind = K at *
 go_enter Tryz.func316, Tryz.ntmps316
 go_wp2_with fail
 refine HTK.out.mono ?_
 rintro e w1 ⟨v, rfl, rfl, hr1, hk1⟩
 have HR1 := zz hr1
 have HK1 := zz hk1
 clear hr1 hk1
 go_wp2_with (go_at_call 320; refine (HAT.out _).mono ?_; rintro e w2 ⟨rfl, hb2⟩; have p2 := ((eZ w1 K A T 110).fresh hb2).c2)
 have HB2 := zz hb2
 clear hb2
 go_ret
 have hb12 : Below w1.heap.size w1 w2 := ((Below.refl _ _).alloc (Nat.le_refl _) _).trans (HB2.out.mono (by simp))
 exact ⟨_, rfl, vV w2 1 A N [] _ (Nat.le_trans HK1.out.size hb12.size), (HR1.out.fresh hb12).fresh ((Below.refl _ _).alloc (Nat.le_refl _) _), (HK1.out.trans (Keeps.of_new hb12)).alloc _⟩
def kY (rb : Nat) (tv : Value) (E : Env) (dep d : Nat) : Prop :=
 ∀ (n : Nat) (w : World), RdAt w rb tv E n dep -> TEnv rb E w -> Calls Tryz.prog 291 #[.pointer (some ⟨rb, 0, none⟩), .int .i64 (d : Nat)] w fun e w' => ∃ r, Ev (fun f => dJ E f d n) r /\ bL ExV w w' rb tv E dep r e
def oH (rb : Nat) (tv : Value) (E : Env) (dep d : Nat) : Prop :=
 ∀ (n : Nat) (w : World), RdAt w rb tv E n dep -> TEnv rb E w -> Calls Tryz.prog 311 #[.pointer (some ⟨rb, 0, none⟩), .int .i64 (d : Nat)] w fun e w' => ∃ r, Ev (fun f => one E f d n) r /\ bL ExV w w' rb tv E dep r e
def E5 (rb : Nat) (tv : Value) (E : Env) (dep least d : Nat) : Prop :=
 ∀ (n : Nat) (w : World), RdAt w rb tv E n dep -> TEnv rb E w -> Calls Tryz.prog 306 #[.pointer (some ⟨rb, 0, none⟩), .int .i64 (least : Nat), .int .i64 (d : Nat)] w fun e w' => ∃ r, Ev (fun f => tied E f least d n) r /\ bL ExV w w' rb tv E dep r e
theorem ExV.on {w1 w2 : World} {x : Ex} {v : Value} (h : ExV w w1 x v) (hlt : rb < w.heap.size) (hk : Keeps (fun b => b = rb) w1 w2) : ExV w w2 x v :=
 ExIn.keeps h hk (fun b hb e => by omega)
theorem ExV.of {w1 w2 : World} {x : Ex} {v : Value} (h : ExV w1 w2 x v) (hs : w.heap.size <= w1.heap.size) : ExV w w2 x v := ExIn.mono (fun _ _ hb => Nat.le_trans hs hb) _ _ h
theorem Threw.own {a : World} {k p : Nat} {e : Ending} (h : Threw w w' rb k p e) (hlt : rb < a.heap.size) (hk : Keeps (fun b => b = rb) a w) : Threw a w' rb k p e :=
 h.after (hk.below (Nat.le_of_lt hlt) (fun _ _ e => Nat.le_of_eq e.symm))
theorem aB {k p : Nat} {e : Ending} (h : Threw w w' rb k p e) : ∃ b, e = .panicked [{ v := .iface 145 (.pointer (some ⟨b, 0, none⟩)), recovered := false }] := by
 obtain ⟨b, h1, _⟩ := h; exact ⟨b, h1⟩
theorem gZ (hX : kY rb tv E d (dd + 1)) (hdd : dd <= 20) (w : World) (h : RdAt w rb tv E n d) (hE : TEnv rb E w) : Calls Tryz.prog 290 #[.pointer (some ⟨rb, 0, none⟩), .int .i64 (dd : Nat)] w fun e w' =>
  ∃ r, Ev (fun f => bracketed E f dd n) r /\ bL ExV w w' rb tv E d r e := by
 have HX := zz hX
 have H0 := zz h
 have HE := zz hE
 have HTK := zz (bM ⟨#[40]⟩ (by decide) w h)
 have hlt := zz h.lt
 have e40 : (⟨#[40]⟩ : ByteArray).data.toList = tLp := rfl
 have e41 : (⟨#[41]⟩ : ByteArray).data.toList = tRp := rfl
 rw [e40] at HTK
 have hw : IntKind.i64.wrap ((dd : Int) + 1) = (dd : Int) + 1 := IntWalk.i64_in _ (by omega)
 clear hX h hE
 cases ht : take E tLp n with
 | out => exact absurd ht (cZ E _ _)
 | bad k a =>
  rw [ht] at HTK
  have HEV : Hid (Ev (fun f => bracketed E f dd n) (.bad k a)) := zz (Ev.now (fun e => by cases e) fun f => by rw [bX, ht]; rfl)
  clear ht
  go_enter Tryz.func290, Tryz.ntmps290
  go_wp2_with fail
  refine HTK.out.mono ?_
  rintro e w1 hth
  obtain ⟨b, rfl⟩ := aB hth
  exact ⟨rfl, _, HEV.out, hth⟩
 | ok t n1 =>
  rw [ht] at HTK
  have HT := zz ht
  clear ht
  go_enter Tryz.func290, Tryz.ntmps290
  go_wp2_with fail
  refine HTK.out.mono ?_
  rintro e w1 ⟨v, rfl, _, hr1, hk1⟩
  have HR1 := zz hr1
  have HK1 := zz hk1
  clear hr1 hk1
  go_wp2_with fail
  refine (HX.out n1 w1 HR1.out (HE.out.own HK1.out)).mono ?_
  rintro e w2 ⟨r, hev, hsay⟩
  cases r with
  | out => exact hsay.elim
  | bad k a =>
   have hsay' : Threw w1 w2 rb k a e := hsay
   obtain ⟨b, rfl⟩ := aB hsay'
   refine ⟨rfl, .bad k a, ?_, hsay'.own hlt.out HK1.out⟩
   exact Ev.step (h := fun f => (tied E f 1 (dd + 1) n1).bind fun x n2 => (take E tRp n2).bind fun _ n3 => .ok x n3) (fun f => by rw [bX, HT.out]; rfl) (Ev.bad hev)
  | ok x n2 =>
   obtain ⟨v2, rfl, hx, hr2, hk2⟩ := hsay
   have HEV := zz hev
   have HXV := zz hx
   have HR2 := zz hr2
   have HK2 := zz hk2
   clear hev hx hr2 hk2
   have HTK2 := zz (bM ⟨#[41]⟩ (by decide) w2 HR2.out)
   rw [e41] at HTK2
   go_wp2_with fail
   cases ht2 : take E tRp n2 with
   | out => exact absurd ht2 (cZ E _ _)
   | bad k a =>
    rw [ht2] at HTK2
    refine HTK2.out.mono ?_
    rintro e w3 hth
    obtain ⟨b, rfl⟩ := aB hth
    refine ⟨rfl, .bad k a, ?_, Threw.own hth hlt.out (HK1.out.trans HK2.out)⟩
    refine Ev.step (h := fun f => (tied E f 1 (dd + 1) n1).bind fun x n2 => (take E tRp n2).bind fun _ n3 => .ok x n3) (fun f => by rw [bX, HT.out]; rfl) (Ev.then HEV.out (Ev.pure (fun e => by cases e) fun f => ?_))
    show (take E tRp n2).bind _ = _
    rw [ht2]; rfl
   | ok t2 n3 =>
    rw [ht2] at HTK2
    have HT2 := zz ht2
    clear ht2
    refine HTK2.out.mono ?_
    rintro e w3 ⟨v3, rfl, _, hr3, hk3⟩
    have HR3 := zz hr3
    have HK3 := zz hk3
    clear hr3 hk3
    go_wp2_with fail
    go_ret
    refine ⟨.ok x n3, ?_, _, rfl, (HXV.out.of HK1.out.size).on hlt.out HK3.out, HR3.out, (HK1.out.trans HK2.out).trans HK3.out⟩
    refine Ev.step (h := fun f => (tied E f 1 (dd + 1) n1).bind fun x n2 => (take E tRp n2).bind fun _ n3 => .ok x n3) (fun f => by rw [bX, HT.out]; rfl) (Ev.then HEV.out (Ev.pure (fun e => by cases e) fun f => ?_))
    show (take E tRp n2).bind _ = _
    rw [HT2.out]; rfl
end Go.Proofs.YtnpapppipccdbaaGreatDoor
