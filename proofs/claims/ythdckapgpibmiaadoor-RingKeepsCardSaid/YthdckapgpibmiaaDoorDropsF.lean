/-
  What RingDrops hands to Drop: it notes what it is asked.
-/
import Derived.Test.YthdckapgpibmiaaDoorBox
import Derived.Test.YthdckapgpibmiaaDoorOwnI
namespace Go.Proofs.YthdckapgpibmiaaDoor
open Go.RowKit

set_option maxRecDepth 100000 in
set_option maxHeartbeats 1600000 in
theorem dropsF_any (x most : Int) (w : World) (a m B : Nat) (va : Value) (A : List Int) (hO : OwnI w B va A) (ha : Box w a va) (hm : Box w m (.int .i64 most)) (haB : a < B) (hmB : m < B) (ham : a ≠ m) (hl : A.length ≤ 1000) (hB : B ≤ w.heap.size) :
    Calls Tryd.prog 18 #[.int .i64 x, .pointer (some ⟨a, 0, none⟩), .pointer (some ⟨m, 0, none⟩)] w fun e w' => e = .returned (.bool (decide (x < most))) ∧
      ∃ va', OwnI w' B va' (A ++ [x]) ∧ Box w' a va' ∧ Box w' m (.int .i64 most) ∧ Keeps (fun k => k = a ∨ va.ownBlock = some k) w w' ∧ (∀ k, va'.ownBlock = some k → va.ownBlock = some k ∨ w.heap.size ≤ k) := by
  have HO := Lib.hid hO
  obtain ⟨aa, ca, hva⟩ := hO.slice
  subst hva
  have HA := Lib.hid ha
  have HM := Lib.hid hm
  have c1 := ha.cell
  have offA : ¬ (Value.slice aa A.length ca).ownBlock = some a := fun e => by have := hO.le _ e; omega
  have offM : ¬ (Value.slice aa A.length ca).ownBlock = some m := fun e => by have := hO.le _ e; omega
  have HOA := Lib.hid offA
  have HOM := Lib.hid offM
  clear ha hm hO offA offM
  go_enter Tryd.func18, Tryd.ntmps18
  go_wp2_with (at_builtin; go_loud (refine wpList_appendI rfl _ _ rfl _ B _ A x HO.out rfl rfl (by omega) hB ?_; intro a4 c4 w4 hO4 hK4 hN4; have HO4 := Lib.hid hO4; have HK4 := Lib.hid hK4; have HN4 := Lib.hid hN4; have c4a := (HA.out.keeps hK4 HOA.out).cell; have z4a := (HA.out.keeps hK4 HOA.out).free; have c4m := (((HM.out.keeps hK4 HOM.out).keeps (keeps_set w4 a (.slice a4 (A.length + 1) c4)) (fun e => ham e.symm))).cell; clear hO4 hK4 hN4))
  go_ret
  have hk5 := keeps_set w4 a (.slice a4 (A.length + 1) c4)
  refine ⟨rfl, _, HO4.out.keeps hk5 (HO4.out.off fun k e => by omega), (HA.out.keeps HK4.out HOA.out).set _, (HM.out.keeps HK4.out HOM.out).keeps hk5 (fun e => ham e.symm), (HK4.out.mono fun _ _ e => Or.inr e).trans (hk5.mono fun _ _ e => Or.inl e), HN4.out⟩
end Go.Proofs.YthdckapgpibmiaaDoor
