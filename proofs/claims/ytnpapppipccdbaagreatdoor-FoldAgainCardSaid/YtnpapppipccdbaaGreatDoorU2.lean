/-
  Texts of one proof, in build order: TreeR5 TreeOk FoldW1 FoldW2 FoldW3 ArithM ArithB FoldM2 FoldW4 Args OwnI FoldW5 FoldW6 FoldW7 FoldM3 FoldW8 TreeR8 TreeR9 TreeR6 TreeR7 TreeRB
-/
import Derived.Test.YtnpapppipccdbaaGreatDoorU1
import Derived.Test.YtnpapppipccdbaaGreatDoorRows
import Derived.WalkKit
import Derived.ProofKit
import Derived.Below
import Derived.Carry
import Derived.Deep.SlicePairs
import Derived.Maps.AppendAt
import Derived.Lib.Hide
import Derived.Deep.RegionHeld
set_option maxRecDepth 100000
set_option maxHeartbeats 12800000
namespace Go.Proofs.YtnpapppipccdbaaGreatDoor
open Go.RowKit in
theorem ra {P : Program} {ops : Array Oper} {Q : Exit -> Act -> World -> Prop} {md : Region.Mode} {S : World -> Prop} (i : Nat) (d : Option Nat) {op : Op} {ty : TypeId} {pos : String} {after : Array Edge} {guard : Option (Nat × Bool)} {fuel : Nat} {listed : Array Bool} {a : Act} {w : World}
 (ho : ops[i]? = some { dst := d, op := op, type := ty, pos := pos, after := after, guard := guard })
 (h : ∀ K' : Act -> World -> Prop, Shut (∀ a w, S w -> (S w -> wpAnyH P md ops Q S fuel (listed.setIfInBounds i true) a w) -> K' a w) -> if Region.wanted { dst := d, op := op, type := ty, pos := pos, after := after, guard := guard } (yielded ops a.tmps) = true then Oper.wp P { dst := d, op := op, type := ty, pos := pos, after := after, guard := guard } a w K' Q else K' (a.put d undef) w)
 (hr : Region.ready md ops listed = [i] := by kernel_rfl) : wpAnyH P md ops Q S (fuel + 1) listed a w :=
 wpAnyH_ready hr (by simp) (AllReadyH.cons ho h AllReadyH.nil)
theorem sA {α : Type} (l : List α) (i : Nat) (a : α) : l.toArray.setIfInBounds i a = (l.set i a).toArray := List.setIfInBounds_toArray ..
theorem sB {α : Type} (a b : α) (l : List α) : (a :: l).set 0 b = b :: l := rfl
theorem sC {α : Type} (a b : α) (n : Nat) (l : List α) : (a :: l).set (n + 1) b = a :: l.set n b := rfl
open Go.RowKit in
theorem tk {P : Program} {ops : Array Oper} {Q : Exit -> Act -> World -> Prop} {md : Region.Mode} {S : World -> Prop} (i d : Nat) (v : Value) {op : Op} {ty : TypeId} {pos : String} {after : Array Edge} {guard : Option (Nat × Bool)} {fuel : Nat} {listed : Array Bool} {a : Act} {w : World}
 (hi : ops[i]? = some { dst := some d, op := op, type := ty, pos := pos, after := after, guard := guard }) (hy : YieldsIf P ops S { dst := some d, op := op, type := ty, pos := pos, after := after, guard := guard } v a) (hS : S w) (h : wpAnyH P md ops Q S fuel (listed.setIfInBounds i true) (a.put (some d) v) w)
 (hs : Region.noSelect ops = true := by kernel_rfl) (hf : Region.free md ops listed i = true := by kernel_rfl) (hr : (Region.ready md ops listed).contains i = true := by kernel_rfl) (hQ : ∀ c a w, Q (.panic c) (a.put (some d) v) w -> Q (.panic c) a w := by exact fun _ _ _ h => h) : wpAnyH P md ops Q S (fuel + 1) listed a w :=
 wpAnyH_take hi hs hf hr hQ hy hS h
end Go.Proofs.YtnpapppipccdbaaGreatDoor
namespace Go.Proofs.YtnpapppipccdbaaGreatDoor
open Go.RowKit Lx Tr
variable {w w' : World} {rb n d dd : Nat} {tv : Value} {E : Env}
def nG (w : World) (rb : Nat) : Nat := (intOf ((w.cell? ⟨rb, 1, none⟩).getD (.int .i64 0))).toNat
theorem RdAt.pos (h : RdAt w rb tv E n d) : nG w rb = n := by simp [nG, h.c1, intOf]
theorem uC : opV [] = 0 := by decide
theorem CT : bN 0 = 0 := by decide
theorem aL {F : Nat -> Prop} {v : Value} {x : Ex} (h : ExIn w F v x) : ∃ o, v = .pointer o := by
 cases x with
 | nil => exact ⟨_, h⟩
 | mk => obtain ⟨b, _, _, _, e, _⟩ := h; exact ⟨_, e⟩
structure TL (w wr : World) (rb : Nat) (tv : Value) (E : Env) (dep least d n : Nat) (v : Value) (x : Ex) (m : Nat) : Prop where
 rd : RdAt wr rb tv E m dep
 ex : ExV w wr x v
 kp : Keeps (fun b => b = rb) w wr
 env : TEnv rb E wr
 ev : ∀ r, Ev (fun f => tloop E f least d x m) r -> Ev (fun f => tied E f least d n) r
theorem jZ {least dep : Nat} (hl : least <= 6) (h1 : 1 <= least) (hO : least = 6 -> oH rb tv E dep dd) (hT : least ≠ 6 -> E5 rb tv E dep (least + 1) dd) : E5 rb tv E dep least dd := by
  intro n w h hE
  have H0 := zz h
  have HE := zz hE
  have hlt := zz h.lt
  clear h hE
  by_cases h6 : least = 6
  · subst h6
    have HO := zz (hO rfl n w H0.out HE.out)
    clear hO hT
    go_enter Tryz.func306, Tryz.ntmps306
    go_wp2_with fail
    refine HO.out.mono ?_
    rintro e w1 ⟨r, hev, hsay⟩
    have HEV : Hid (Ev (fun f => tied E f 6 dd n) r) := zz (Ev.step (fun f => by rw [iT, if_pos rfl]) hev)
    cases r with
    | out => exact hsay.elim
    | bad k a =>
      have hsay' : Threw w w1 rb k a e := hsay
      obtain ⟨b, rfl⟩ := aB hsay'
      exact ⟨rfl, _, HEV.out, hsay'⟩
    | ok x m =>
      obtain ⟨v, rfl, hx, hr, hk⟩ := hsay
      go_wp2_with fail
      go_ret
      exact ⟨_, HEV.out, v, rfl, hx, hr, hk⟩
  · have HT := zz (hT h6)
    have h6i : ¬ (least : Int) = 6 := by omega
    have hw : IntKind.i64.wrap ((least : Int) + 1) = (least : Int) + 1 := IntWalk.i64_in _ (by omega)
    have HC := zz (HT.out n w H0.out HE.out)
    rw [Int.natCast_add] at HC
    clear hO hT
    go_enter Tryz.func306, Tryz.ntmps306
    go_wp2_with fail
    refine HC.out.mono ?_
    rintro e w1 ⟨r, hev, hsay⟩
    cases r with
    | out => exact hsay.elim
    | bad k a =>
      have hsay' : Threw w w1 rb k a e := hsay
      obtain ⟨b, rfl⟩ := aB hsay'
      exact ⟨rfl, .bad k a, Ev.step (h := fun f => (tied E f (least + 1) dd n).bind fun x m => tloop E f least dd x m) (fun f => by rw [iT, if_neg h6]) (Ev.bad hev), hsay'⟩
    | ok x m =>
      obtain ⟨v, rfl, hx, hr, hk⟩ := hsay
      have HI : Hid (TL w w1 rb tv E dep least dd n v x m) := zz ⟨hr, hx, hk, HE.out.own hk, fun r h => Ev.step (h := fun f => (tied E f (least + 1) dd n).bind fun x m => tloop E f least dd x m) (fun f => by rw [iT, if_neg h6]) (Ev.then hev h)⟩
      have H6 := zz h6
      clear hr hx hk hev HC h6
      go_wp2_with fail
      go_loopw [7] (fun v wr => ∃ x m, TL w wr rb tv E dep least dd n v x m) (fun _ wr => E.toks.length - nG wr rb)
      case atStart => exact ⟨x, m, HI.out⟩
      case round =>
        obtain ⟨x, m, htl⟩ := hrel
        obtain ⟨o1, rfl⟩ := aL htl.ex
        have HL := zz htl
        have HP := zz (aN wr htl.rd)
        have HTW : Hid (∀ W, Below wr.heap.size wr W -> Calls Tryz.prog 313 #[.string (mkT (pk E m).text)] W fun e w' => e = .returned (.int .i64 (opV (pk E m).text : Nat)) /\ W = w') := zz fun W hb => oZ (mkT (pk E m).text) W (HL.out.env.fresh hb).signs
        have HLV : Hid (∀ W, Calls Tryz.prog 186 #[.int .i64 (opV (pk E m).text : Nat)] W fun e w' => e = .returned (.int .i64 (bN (opV (pk E m).text) : Nat)) /\ W = w') := zz fun W => oG _ W
        have HTW2 : Hid (∀ W, TEnv rb E W -> Calls Tryz.prog 313 #[.string (mkT (pk E m).text)] W fun e w' => e = .returned (.int .i64 (opV (pk E m).text : Nat)) /\ W = w') := zz fun W hW => oZ (mkT (pk E m).text) W hW.signs
        unfold aR at HP
        clear htl
        have hf := aY
        by_cases hc : bN (opV (pk E m).text) = least
        · have hci : (bN (opV (pk E m).text) : Int) = (least : Int) := by omega
          have hne : (pk E m).text ≠ [] := fun e => by rw [e, uC, CT] at hc; omega
          have hmlt := d8 rfl hne
          have HM := zz hmlt
          have HCC := zz hc
          have HSK : Hid (∀ W, RdAt W rb tv E m dep -> Calls Tryz.prog 159 #[.pointer (some ⟨rb, 0, none⟩)] W fun e w' => e = .returned (aR (pk E m)) /\ RdAt w' rb tv E (m + 1) dep /\ Keeps (fun b => b = rb) W w') := zz fun W hW => bF W hW hmlt
          have HNX : Hid (∀ W, RdAt W rb tv E (m + 1) dep -> TEnv rb E W -> Calls Tryz.prog 306 #[.pointer (some ⟨rb, 0, none⟩), .int .i64 ((least : Int) + 1), .int .i64 (dd : Nat)] W fun e w' => ∃ r, Ev (fun f => tied E f (least + 1) dd (m + 1)) r /\ bL ExV W w' rb tv E dep r e) := zz fun W h1 h2 => HT.out (m + 1) W h1 h2
          have HLO : Hid (∀ r, Ev (fun f => (tied E f (least + 1) dd (m + 1)).bind fun y m' => tloop E f least dd (.mk 5 (pk E m).at_ 0 (opV (pk E m).text) [] x y .nil) m') r -> Ev (fun f => tied E f least dd n) r) := zz fun r h => HL.out.ev r (Ev.step (fun f => by rw [hM, if_pos hc]) h)
          unfold aR at HSK
          clear hc hne hmlt
          generalize bN (opV (pk E m).text) = lv at *
          generalize opV (pk E m).text = ov at *
          generalize mkT (pk E m).text = T at *
          generalize (pk E m).at_ = A at *
          generalize (pk E m).kind = K at *
          go_wp2_with (first | (go_at_call 153; refine HP.out.mono ?_; rintro e w2 ⟨rfl, hb2⟩) | (go_at_call 313; refine (HTW.out _ hb2).mono ?_; rintro e w3 ⟨rfl, rfl⟩) | (go_at_call 186; refine (HLV.out _).mono ?_; rintro e w4 ⟨rfl, rfl⟩))
          refine (HSK.out _ (HL.out.rd.fresh hb2)).mono ?_
          rintro e w5 ⟨rfl, hr5, hk5⟩
          have HR5 := zz hr5
          have HK5 : Hid (Keeps (fun b => b = rb) wr w5) := zz ((Keeps.of_new hb2).trans hk5)
          clear hr5 hk5 hb2
          go_wp2_with fail
          have hb6 : Below w5.heap.size w5 (w5.alloc (.cells #[.int .i64 K, .string T, .int .i64 A] 110)) := (Below.refl _ _).alloc (Nat.le_refl _) _
          have HTC := zz (eZ w5 K A T 110)
          have HR6 := zz (HR5.out.fresh hb6)
          have HK6 : Hid (Keeps (fun b => b = rb) wr (w5.alloc (.cells #[.int .i64 K, .string T, .int .i64 A] 110))) := zz (HK5.out.trans (Keeps.of_new hb6))
          have hgt : w5.heap.size < (w5.alloc (.cells #[.int .i64 K, .string T, .int .i64 A] 110)).heap.size := by simp
          have HGT := zz hgt
          clear hb6 hgt
          generalize w5.alloc (.cells #[.int .i64 K, .string T, .int .i64 A] 110) = w6 at *
          have hne5 : w5.heap.size ≠ rb := fun e => by have h1 := HK5.out.size; have h2 := HL.out.rd.lt; omega
          have HNE := zz hne5
          generalize w5.heap.size = pb at *
          refine (HNX.out w6 HR6.out (HL.out.env.own HK6.out)).mono ?_
          rintro e w7 ⟨r, hev, hsay⟩
          cases r with
          | out => exact hsay.elim
          | bad k a =>
            have hsay' : Threw w6 w7 rb k a e := hsay
            obtain ⟨b, rfl⟩ := aB hsay'
            exact ⟨rfl, .bad k a, HLO.out _ (Ev.bad hev), hsay'.own hlt.out (HL.out.kp.trans HK6.out)⟩
          | ok y m' =>
            obtain ⟨v7, rfl, hy, hr7, hk7⟩ := hsay
            obtain ⟨o2, rfl⟩ := aL hy
            have HEV := zz hev
            have HY := zz hy
            have HR7 := zz hr7
            have HK7 := zz hk7
            have ht7 := HTC.out.keeps hk7 hne5
            have t1 := ht7.c1
            have t2 := ht7.c2
            clear hev hy hr7 hk7 ht7 hne5
            have HT2 : Calls Tryz.prog 313 #[.string T] w7.drew fun e w' => e = .returned (.int .i64 (ov : Nat)) /\ w' = w7.drew := (HTW2.out w7.drew (((HL.out.env.own HK6.out).own HK7.out).fresh ((Below.refl _ _).drew))).mono fun _ _ h => ⟨h.1, h.2.symm⟩
            have HT3 := zz HT2
            clear HT2
            go_wp2_with fail
            refine wp_region_still_tail 7 (by kernel_rfl) (by kernel_rfl) ?_
            simp only [List.take_succ_cons, List.take_zero, List.drop_succ_cons, List.drop_zero]
            repeat still_step
            still_call HT3.out
            repeat still_step
            refine wpStill_nil ?_
            change wpList _ _ _ _ _ w7.drew
            go_wp2_with fail
            have hon := pX HEV.out
            have hb8 : Below w7.heap.size w7 (w7.alloc (.cells #[.int .i64 5, .int .i64 A, .int .i64 0, .string ⟨#[]⟩, .int .i64 ov, .pointer o1, .pointer o2, .slice none 0 0] 64)).drew := ((Below.refl _ _).alloc (Nat.le_refl _) _).drew
            have hr8 := HR7.out.fresh hb8
            have hk8 : Keeps (fun b => b = rb) wr w7 := HK6.out.trans HK7.out
            have hs8 : w.heap.size <= w7.heap.size := Nat.le_trans HL.out.kp.size hk8.size
            refine ⟨⟨.mk 5 A 0 ov [] x y .nil, m', hr8, ?_, (HL.out.kp.trans hk8).trans (Keeps.of_new hb8), ((HL.out.env.own hk8).fresh hb8), fun r h => HLO.out r (Ev.then HEV.out h)⟩, ?_⟩
            · have hc : ∀ (j : Nat) (v : Value), (#[Value.int .i64 5, .int .i64 A, .int .i64 0, .string ⟨#[]⟩, .int .i64 ov, .pointer o1, .pointer o2, .slice none 0 0] : Array Value)[j]? = some v ->
                  (w7.alloc (.cells #[.int .i64 5, .int .i64 A, .int .i64 0, .string ⟨#[]⟩, .int .i64 ov, .pointer o1, .pointer o2, .slice none 0 0] 64)).drew.cell? ⟨w7.heap.size, j, none⟩ = some v := fun j v h => by
                show (w7.alloc _).cell? _ = _
                rw [World.cell?_alloc_at _ _ _ _ rfl]; exact h
              refine ⟨w7.heap.size, .pointer o1, .pointer o2, .slice none 0 0, rfl, hs8, hc 0 _ rfl, hc 1 _ rfl, hc 2 _ rfl, hc 3 _ rfl, hc 4 _ rfl, hc 5 _ rfl, hc 6 _ rfl, hc 7 _ rfl, ?_, ?_, Or.inl ⟨rfl, rfl⟩, fun g m cap e => by cases e⟩
              · exact (HL.out.ex.on hlt.out hk8).on hlt.out (Keeps.of_new hb8)
              · exact (HY.out.of (Nat.le_trans HL.out.kp.size HK6.out.size)).on hlt.out (Keeps.of_new hb8)
            · rw [hr8.pos, HL.out.rd.pos]
              have := HM.out
              omega
        · have hci : ¬ (bN (opV (pk E m).text) : Int) = (least : Int) := by omega
          have HEV : Hid (Ev (fun f => tied E f least dd n) (.ok x m)) := zz (HL.out.ev _ (Ev.now (fun e => by cases e) fun f => by rw [hM, if_neg hc]))
          clear hc
          generalize bN (opV (pk E m).text) = lv at *
          generalize opV (pk E m).text = ov at *
          generalize mkT (pk E m).text = T at *
          go_wp2_with (first | (go_at_call 153; refine HP.out.mono ?_; rintro e w2 ⟨rfl, hb2⟩) | (go_at_call 313; refine (HTW.out _ hb2).mono ?_; rintro e w3 ⟨rfl, rfl⟩) | (go_at_call 186; refine (HLV.out _).mono ?_; rintro e w4 ⟨rfl, rfl⟩))
          go_ret
          exact ⟨_, HEV.out, _, rfl, HL.out.ex.on hlt.out (Keeps.of_new hb2), HL.out.rd.fresh hb2, HL.out.kp.trans (Keeps.of_new hb2)⟩
end Go.Proofs.YtnpapppipccdbaaGreatDoor
namespace Go.Proofs.YtnpapppipccdbaaGreatDoor
open Lx Tr
mutual
def bB : Ex -> Prop
 | .nil => True
 | .mk _ _ n _ _ l r args => n <= 9223372036854775807 /\ bB l /\ bB r /\ kZ args
def kZ : Exs -> Prop
 | .nil => True
 | .cons x xs => bB x /\ kZ xs
end
mutual
def qC : St -> Prop
 | .mk _ _ _ dst val thn els cases => bB dst /\ bB val /\ eV thn /\ eV els /\ mE cases
def eV : Sts -> Prop
 | .nil => True
 | .cons x xs => qC x /\ eV xs
def vW : Ca -> Prop
 | .mk _ _ _ dst val body => bB dst /\ bB val /\ eV body
def mE : Cas -> Prop
 | .nil => True
 | .cons x xs => vW x /\ mE xs
end
end Go.Proofs.YtnpapppipccdbaaGreatDoor
namespace Go.Proofs.YtnpapppipccdbaaGreatDoor
open Go.RowKit Lx Tr
variable {w w' : World}
theorem ExIn.grow {B : Nat} {v : Value} {x : Ex} (h : ExIn w (fun b => B <= b) v x) (hb : Below w.heap.size w w') : ExIn w' (fun b => B <= b) v x :=
 ExIn.mono (fun _ _ e => e.1) _ _ (ExIn.keeps (ExIn.mono (G := fun b => B <= b /\ b < w.heap.size) (fun _ h1 h2 => ⟨h2, h1⟩) _ _ h) (Keeps.of_below (S := fun k => w.heap.size <= k) hb (fun _ _ e => e)) (fun b e e2 => by have h9 : w.heap.size <= b := e2; have := e.2; omega))
theorem cU (w : World) (xs : Array Value) (e : TypeId) : Below w.heap.size w (w.alloc (.cells xs e)) := ((Keeps.refl (fun _ => False) w).alloc _).below (Nat.le_refl _) (fun _ _ e => e.elim)
def bI (B : Nat) (w : World) (f : FuncId) (args : Array Value) (y : Ex) : Prop := Calls Tryz.prog f args w fun e w' => ∃ v, e = .returned v /\ ExIn w' (fun b => B <= b) v y /\ Below w.heap.size w w'
theorem KJ {n : Nat} : ((n : Int) != 0) = (n != 0) := by
 by_cases h : n = 0
 ·subst h; rfl
 ·rw [bne_iff_ne.2 h, bne_iff_ne.2 (by omega)]
theorem lW {F : Nat -> Prop} (x : Ex) (w : World) (v : Value) (hx : ExIn w F v x) : Calls Tryz.prog 176 #[v] w fun e w' => e = .returned (.tuple #[.bool ((cD x).getD false), .bool (cD x).isSome]) /\ w = w' := by
 cases x with
 | nil =>
  have e : v = .pointer none := hx
  subst e
  clear hx
  go_enter Tryz.func176, Tryz.ntmps176
  go_wp2_with fail
  go_ret2
  exact ⟨rfl, rfl⟩
 | mk c a n op nm l r zs =>
  obtain ⟨bk, lv, rv, av, rfl, _, c0, _, c2, _⟩ := hx
  by_cases h2 : c = 2
  ·subst h2
   have ht : cD (.mk 2 a n op nm l r zs) = some ((n : Int) != 0) := by rw [KJ]; rfl
   rw [ht, Option.getD_some, Option.isSome_some]
   go_enter Tryz.func176, Tryz.ntmps176
   go_wp2_with fail
   go_ret2
   exact ⟨rfl, rfl⟩
  ·have ht : cD (.mk c a n op nm l r zs) = none := if_neg h2
   rw [ht, Option.getD_none, Option.isSome_none]
   have e2 : ((c : Int) != 2) = true := bne_iff_ne.2 (by omega)
   clear ht h2
   go_enter Tryz.func176, Tryz.ntmps176
   go_wp2_with fail
   go_ret2
   exact ⟨rfl, rfl⟩
theorem nH {F : Nat -> Prop} (x : Ex) (hok : bB x) (w : World) (v : Value) (hx : ExIn w F v x) : Calls Tryz.prog 217 #[v] w fun e w' => e = .returned (.tuple #[.int .i64 ((bH x).getD 0), .bool (bH x).isSome]) /\ w = w' := by
 cases x with
 | nil =>
  have e : v = .pointer none := hx
  subst e
  clear hx hok
  go_enter Tryz.func217, Tryz.ntmps217
  go_wp2_with fail
  go_ret2
  exact ⟨rfl, rfl⟩
 | mk c a n op nm l r zs =>
  obtain ⟨bk, lv, rv, av, rfl, _, c0, _, c2, _, c4, c5, _, _, hl, _⟩ := hx
  have hol : bB l := hok.2.1
  by_cases h1 : c = 1
  ·subst h1
   have hk : bH (.mk 1 a n op nm l r zs) = some (n : Int) := if_pos rfl
   rw [hk, Option.getD_some, Option.isSome_some]
   clear hk hl hok hol
   go_enter Tryz.func217, Tryz.ntmps217
   go_wp2_with fail
   go_ret2
   exact ⟨rfl, rfl⟩
  have e1 : ((c : Int) == 1) = false := beq_eq_false_iff_ne.2 (by omega)
  by_cases h6 : c = 6
  ·subst h6
   by_cases h17 : op = 17
   ·subst h17
    cases l with
    | nil =>
     have e : lv = .pointer none := hl
     subst e
     have hk : bH (.mk 6 a n 17 nm .nil r zs) = none := by rw [gR, if_neg (by decide), if_neg (fun e => absurd e.2.2.1 (by decide))]
     rw [hk, Option.getD_none, Option.isSome_none]
     clear hk hl hok hol h1 e1
     go_enter Tryz.func217, Tryz.ntmps217
     go_wp2_with fail
     go_ret2
     exact ⟨rfl, rfl⟩
    | mk c' a' n' op' nm' l' r' zs' =>
     obtain ⟨bl, lv', rv', av', rfl, _, d0, _, d2, _⟩ := hl
     by_cases h1' : c' = 1
     ·subst h1'
      by_cases hn : 0 < n'
      ·have hk : bH (.mk 6 a n 17 nm (.mk 1 a' n' op' nm' l' r' zs') r zs) = some (-(n' : Int)) := by rw [gR, if_neg (by decide), if_pos ⟨rfl, rfl, rfl, hn⟩]; rfl
       rw [hk, Option.getD_some, Option.isSome_some]
       have hm : n' <= 9223372036854775807 := hol.1
       have hw : IntKind.i64.wrap (-(n' : Int)) = -(n' : Int) := IntWalk.i64_in _ (by omega)
       have hgt : decide (0 < n') = true := decide_eq_true hn
       clear hk hok hol h1 e1 hn hm
       go_enter Tryz.func217, Tryz.ntmps217
       go_wp2_with fail
       go_ret2
       exact ⟨rfl, rfl⟩
      ·have hk : bH (.mk 6 a n 17 nm (.mk 1 a' n' op' nm' l' r' zs') r zs) = none := by rw [gR, if_neg (by decide), if_neg (fun e => hn e.2.2.2)]
       rw [hk, Option.getD_none, Option.isSome_none]
       obtain rfl : n' = 0 := by omega
       clear hk hok hol h1 e1 hn
       go_enter Tryz.func217, Tryz.ntmps217
       go_wp2_with fail
       go_ret2
       exact ⟨rfl, rfl⟩
     ·have hk : bH (.mk 6 a n 17 nm (.mk c' a' n' op' nm' l' r' zs') r zs) = none := by rw [gR, if_neg (by decide), if_neg (fun e => h1' e.2.2.1)]
      rw [hk, Option.getD_none, Option.isSome_none]
      have e3 : ((c' : Int) == 1) = false := beq_eq_false_iff_ne.2 (by omega)
      clear hk hok hol h1 e1 h1'
      go_enter Tryz.func217, Tryz.ntmps217
      go_wp2_with fail
      go_ret2
      exact ⟨rfl, rfl⟩
   ·have hk : bH (.mk 6 a n op nm l r zs) = none := by rw [gR, if_neg (by decide), if_neg (fun e => h17 e.2.1)]
    rw [hk, Option.getD_none, Option.isSome_none]
    have e3 : ((op : Int) == 17) = false := beq_eq_false_iff_ne.2 (by omega)
    clear hk hl hok hol h1 e1 h17
    go_enter Tryz.func217, Tryz.ntmps217
    go_wp2_with fail
    go_ret2
    exact ⟨rfl, rfl⟩
  ·have hk : bH (.mk c a n op nm l r zs) = none := by rw [gR, if_neg h1, if_neg (fun e => h6 e.1)]
   rw [hk, Option.getD_none, Option.isSome_none]
   have e3 : ((c : Int) == 6) = false := beq_eq_false_iff_ne.2 (by omega)
   clear hk hl hok hol h1 h6
   go_enter Tryz.func217, Tryz.ntmps217
   go_wp2_with fail
   go_ret2
   exact ⟨rfl, rfl⟩
theorem CU {F : Nat -> Prop} {b c a n : Nat} (hF : F b) (c0 : w.cell? ⟨b, 0, none⟩ = some (.int .i64 (c : Nat))) (c1 : w.cell? ⟨b, 1, none⟩ = some (.int .i64 (a : Nat))) (c2 : w.cell? ⟨b, 2, none⟩ = some (.int .i64 (n : Nat))) (c3 : w.cell? ⟨b, 3, none⟩ = some (.string (mkT [])))
  (c4 : w.cell? ⟨b, 4, none⟩ = some (.int .i64 0)) (c5 : w.cell? ⟨b, 5, none⟩ = some (.pointer none)) (c6 : w.cell? ⟨b, 6, none⟩ = some (.pointer none)) (c7 : w.cell? ⟨b, 7, none⟩ = some (.slice none 0 0)) : ExIn w F (.pointer (some ⟨b, 0, none⟩)) (.mk c a n 0 [] .nil .nil .nil) :=
 ⟨b, .pointer none, .pointer none, .slice none 0 0, rfl, hF, c0, c1, c2, c3, c4, c5, c6, c7, rfl, rfl, Or.inl ⟨rfl, rfl⟩, fun _ _ _ e => by cases e⟩
theorem kF {F : Nat -> Prop} {b c a n : Nat} (hF : F b) (h : w.heap[b]? = some (.cells #[.int .i64 (c : Nat), .int .i64 (a : Nat), .int .i64 (n : Nat), .string ⟨#[]⟩, .int .i64 0, .pointer none, .pointer none, .slice none 0 0] 64)) : ExIn w F (.pointer (some ⟨b, 0, none⟩)) (.mk c a n 0 [] .nil .nil .nil) :=
 CU hF (by rw [Lib.cell_of_heap h]; rfl) (by rw [Lib.cell_of_heap h]; rfl) (by rw [Lib.cell_of_heap h]; rfl) (by rw [Lib.cell_of_heap h]; rfl) (by rw [Lib.cell_of_heap h]; rfl) (by rw [Lib.cell_of_heap h]; rfl) (by rw [Lib.cell_of_heap h]; rfl) (by rw [Lib.cell_of_heap h]; rfl)
theorem nI {B : Nat} (so : Bool) (a : Nat) (w : World) (hB : B <= w.heap.size) : bI B w 218 #[.bool so, .int .i64 (a : Nat)] (k9 so a) := by
 unfold bI
 have HB := zz hB
 clear hB
 cases so with
 | false =>
  go_enter Tryz.func218, Tryz.ntmps218
  go_wp2_with fail
  go_ret
  exact ⟨_, rfl, kF (n := 0) HB.out (heap_alloc_new w _), cU w _ _⟩
 | true =>
  go_enter Tryz.func218, Tryz.ntmps218
  go_wp2_with fail
  go_ret
  exact ⟨_, rfl, kF (n := 1) HB.out (heap_alloc_new w _), cU w _ _⟩
theorem sJ {B bk : Nat} {c a n op : Nat} {nm : Lx.B} {l r : Ex} {zs : Exs} (m : Int) (h1 : -9223372036854775808 <= m) (h2 : m <= 9223372036854775807) (w : World) (hB : B <= w.heap.size) (hx : ExIn w (fun b => B <= b) (.pointer (some ⟨bk, 0, none⟩)) (.mk c a n op nm l r zs)) :
  bI B w 219 #[.pointer (some ⟨bk, 0, none⟩), .int .i64 m] (eT (.mk c a n op nm l r zs) m) := by
 unfold bI
 have HX := zz hx
 have HB := zz hB
 obtain ⟨bk', lv, rv, av, e, _, _, c1, _⟩ := hx
 cases e
 by_cases hm : m = -9223372036854775808
 ·subst hm
  have HE : Hid (eT (.mk c a n op nm l r zs) (-9223372036854775808) = .mk c a n op nm l r zs) := zz (if_pos rfl)
  rw [HE.out]
  clear h1 h2 hB
  go_enter Tryz.func219, Tryz.ntmps219
  go_wp2_with fail
  go_ret
  exact ⟨_, rfl, HX.out, Below.refl _ _⟩
 ·have e1 : (m == -9223372036854775808) = false := beq_eq_false_iff_ne.2 hm
  by_cases h0 : m < 0
  ·have hw : IntKind.i64.wrap (-m) = -m := IntWalk.i64_in _ (by omega)
   have hn : ((-m).toNat : Int) = -m := by omega
   have HN := zz hn
   have HE : Hid (eT (.mk c a n op nm l r zs) m = .mk 6 a 0 17 [] (.mk 1 a (-m).toNat 0 [] .nil .nil .nil) .nil .nil) := zz (by unfold eT lF; rw [if_neg hm, if_pos h0]; rfl)
   rw [HE.out]
   clear h1 h2 hB hn
   go_enter Tryz.func219, Tryz.ntmps219
   have d1 : ∀ o : Obj, (w.alloc o).cell? ⟨bk, 1, none⟩ = some (.int .i64 (a : Nat)) := fun o => by rw [World.cell?_alloc_lt _ _ ⟨bk, 1, none⟩ (block_lt_of_cell c1)]; exact c1
   go_wp2_with fail
   go_region
   go_wp2_with fail
   go_ret
   have hz : (w.alloc (.cells #[.int .i64 1, .int .i64 (a : Nat), .int .i64 (-m), .string ⟨#[]⟩, .int .i64 0, .pointer none, .pointer none, .slice none 0 0] 64)).heap.size = w.heap.size + 1 := by simp
   have k1 : ((w.alloc (.cells #[.int .i64 1, .int .i64 (a : Nat), .int .i64 (-m), .string ⟨#[]⟩, .int .i64 0, .pointer none, .pointer none, .slice none 0 0] 64)).alloc (.cells #[.int .i64 6, .int .i64 (a : Nat), .int .i64 0, .string ⟨#[]⟩, .int .i64 17, .pointer (some ⟨w.heap.size, 0, none⟩), .pointer none, .slice none 0 0] 64)).drew.heap[w.heap.size + 1]? = some (.cells #[.int .i64 6, .int .i64 (a : Nat), .int .i64 0, .string ⟨#[]⟩, .int .i64 17, .pointer (some ⟨w.heap.size, 0, none⟩), .pointer none, .slice none 0 0] 64) := by rw [<- hz]; exact heap_alloc_new _ _
   have k0 : ((w.alloc (.cells #[.int .i64 1, .int .i64 (a : Nat), .int .i64 (-m), .string ⟨#[]⟩, .int .i64 0, .pointer none, .pointer none, .slice none 0 0] 64)).alloc (.cells #[.int .i64 6, .int .i64 (a : Nat), .int .i64 0, .string ⟨#[]⟩, .int .i64 17, .pointer (some ⟨w.heap.size, 0, none⟩), .pointer none, .slice none 0 0] 64)).drew.heap[w.heap.size]? = some (.cells #[.int .i64 1, .int .i64 (a : Nat), .int .i64 (-m), .string ⟨#[]⟩, .int .i64 0, .pointer none, .pointer none, .slice none 0 0] 64) := (heap_alloc_old _ _ (by rw [hz]; omega)).trans (heap_alloc_new _ _)
   rw [<- HN.out] at k0
   have hF : B <= w.heap.size := HB.out
   refine ⟨_, rfl, ⟨w.heap.size + 1, .pointer (some ⟨w.heap.size, 0, none⟩), .pointer none, .slice none 0 0, rfl, Nat.le_succ_of_le hF, by rw [Lib.cell_of_heap k1]; rfl, by rw [Lib.cell_of_heap k1]; rfl, by rw [Lib.cell_of_heap k1]; rfl, by rw [Lib.cell_of_heap k1]; rfl, by rw [Lib.cell_of_heap k1]; rfl, by rw [Lib.cell_of_heap k1]; rfl, by rw [Lib.cell_of_heap k1]; rfl, by rw [Lib.cell_of_heap k1]; rfl, ?_, rfl, Or.inl ⟨rfl, rfl⟩, fun _ _ _ e => by cases e⟩, ?_⟩
   ·rw [<- HN.out]; exact kF hF k0
   ·exact (((Keeps.refl (fun _ => False) w).alloc _).alloc _).drew.below (Nat.le_refl _) (fun _ _ e => e.elim)
  ·have hn : (m.toNat : Int) = m := by omega
   have HN := zz hn
   have HE : Hid (eT (.mk c a n op nm l r zs) m = .mk 1 a m.toNat 0 [] .nil .nil .nil) := zz (by unfold eT lF; rw [if_neg hm, if_neg h0]; rfl)
   rw [HE.out]
   clear h1 h2 hB hn
   go_enter Tryz.func219, Tryz.ntmps219
   go_wp2_with fail
   go_ret
   refine ⟨_, rfl, kF HB.out ?_, cU w _ _⟩
   rw [HN.out]
   exact heap_alloc_new w _
theorem CV (op : Nat) (h1 : 1 <= op) (h2 : op <= 16) (n : Int) (w : World) : Calls Tryz.prog 266 #[.int .i64 (op : Nat), .int .i64 n] w fun e w' => e = .returned (.bool (AU (op : Int) n)) /\ w = w' := by
 have hop : op = 1 \/ op = 2 \/ op = 3 \/ op = 4 \/ op = 5 \/ op = 6 \/ op = 7 \/ op = 8 \/ op = 9 \/ op = 10 \/ op = 11 \/ op = 12 \/ op = 13 \/ op = 14 \/ op = 15 \/ op = 16 := by omega
 clear h1 h2
 rcases hop with rfl | rfl | rfl | rfl | rfl | rfl | rfl | rfl | rfl | rfl | rfl | rfl | rfl | rfl | rfl | rfl
 all_goals
  go_enter Tryz.func266, Tryz.ntmps266
  go_wp2_with fail
  go_ret
  exact ⟨rfl, rfl⟩
theorem CW (op : Nat) (h1 : 1 <= op) (h2 : op <= 16) (n : Int) (w : World) : Calls Tryz.prog 267 #[.int .i64 (op : Nat), .int .i64 n] w fun e w' => e = .returned (.bool (AV (op : Int) n)) /\ w = w' := by
 have hop : op = 1 \/ op = 2 \/ op = 3 \/ op = 4 \/ op = 5 \/ op = 6 \/ op = 7 \/ op = 8 \/ op = 9 \/ op = 10 \/ op = 11 \/ op = 12 \/ op = 13 \/ op = 14 \/ op = 15 \/ op = 16 := by omega
 clear h1 h2
 rcases hop with rfl | rfl | rfl | rfl | rfl | rfl | rfl | rfl | rfl | rfl | rfl | rfl | rfl | rfl | rfl | rfl
 all_goals
  go_enter Tryz.func267, Tryz.ntmps267
  go_wp2_with fail
  go_ret
  exact ⟨rfl, rfl⟩
theorem KK {B bk : Nat} {c a n op : Nat} {nm : Lx.B} {l r : Ex} {zs : Exs} (m : Int) (h1 : -9223372036854775808 <= m) (h2 : m <= 9223372036854775807) (w : World) (hB : B <= w.heap.size) (hx : ExIn w (fun b => B <= b) (.pointer (some ⟨bk, 0, none⟩)) (.mk c a n op nm l r zs)) :
  bI B w 265 #[.pointer (some ⟨bk, 0, none⟩), .int .i64 m] (kX (.mk c a n op nm l r zs) m) := by
 have HNO := zz (sJ m h1 h2 w hB hx)
 have HNT := zz (nI (m != 0) a w hB)
 have HK := zz (CD (op : Int) w)
 unfold bI at HNO HNT ⊢
 obtain ⟨bk', lv, rv, av, e, _, _, c1, _, _, c4, _⟩ := hx
 cases e
 by_cases hk : lE (op : Int) = 2
 ·have HE : Hid (kX (.mk c a n op nm l r zs) m = k9 (m != 0) a) := zz (if_pos hk)
  rw [HE.out]
  rw [hk] at HK
  clear h1 h2 hB hk
  go_enter Tryz.func265, Tryz.ntmps265
  go_wp2_with fail
  refine HK.out.mono ?_
  rintro e w1 ⟨rfl, rfl⟩
  go_wp2_with fail
  refine HNT.out.mono ?_
  rintro e w2 ⟨v, rfl, hv, hb⟩
  go_wp2_with fail
  go_ret
  exact ⟨_, rfl, hv, hb⟩
 ·have HE : Hid (kX (.mk c a n op nm l r zs) m = eT (.mk c a n op nm l r zs) m) := zz (if_neg hk)
  rw [HE.out]
  have e1 : (lE (op : Int) == 2) = false := beq_eq_false_iff_ne.2 hk
  generalize lE (op : Int) = mk at *
  clear h1 h2 hB hk
  go_enter Tryz.func265, Tryz.ntmps265
  go_wp2_with fail
  refine HK.out.mono ?_
  rintro e w1 ⟨rfl, rfl⟩
  go_wp2_with fail
  refine HNO.out.mono ?_
  rintro e w2 ⟨v, rfl, hv, hb⟩
  go_wp2_with fail
  go_ret
  exact ⟨_, rfl, hv, hb⟩
theorem vX {B bk : Nat} (through : Bool) {c a n op : Nat} {nm : Lx.B} {l r : Ex} {zs : Exs} (w : World) (hx : ExIn w (fun b => B <= b) (.pointer (some ⟨bk, 0, none⟩)) (.mk c a n op nm l r zs)) :
  bI B w 215 #[.pointer (some ⟨bk, 0, none⟩), .bool through] (dM (.mk c a n op nm l r zs) through) := by
 unfold bI
 have HX := zz hx
 obtain ⟨bk', lv, rv, av, e, _, c0, c1, _, _, c4, c5, c6, _, hl, hr, _⟩ := hx
 cases e
 have HTL := zz (lW l w lv hl)
 have HTR := zz (lW r w rv hr)
 have HL := zz hl
 have HR := zz hr
 obtain ⟨ql, rfl⟩ := aL hl
 obtain ⟨qr, rfl⟩ := aL hr
 clear hl hr
 cases ht : cD l with
 | some b =>
  rw [ht, Option.getD_some, Option.isSome_some] at HTL
  have HE : Hid (dM (.mk c a n op nm l r zs) through = if b = through then r else l) := zz (by show (match cD l with | some b => if b = through then r else l | none => _) = _; rw [ht])
  rw [HE.out]
  clear ht
  cases b <;> cases through
  ·rw [if_pos rfl]
   go_enter Tryz.func215, Tryz.ntmps215
   go_wp2_with fail
   refine HTL.out.mono ?_
   rintro e w1 ⟨rfl, rfl⟩
   go_wp2_with fail
   go_ret
   exact ⟨_, rfl, HR.out, Below.refl _ _⟩
  ·rw [if_neg (by decide)]
   go_enter Tryz.func215, Tryz.ntmps215
   go_wp2_with fail
   refine HTL.out.mono ?_
   rintro e w1 ⟨rfl, rfl⟩
   go_wp2_with fail
   go_ret
   exact ⟨_, rfl, HL.out, Below.refl _ _⟩
  ·rw [if_neg (by decide)]
   go_enter Tryz.func215, Tryz.ntmps215
   go_wp2_with fail
   refine HTL.out.mono ?_
   rintro e w1 ⟨rfl, rfl⟩
   go_wp2_with fail
   go_ret
   exact ⟨_, rfl, HL.out, Below.refl _ _⟩
  ·rw [if_pos rfl]
   go_enter Tryz.func215, Tryz.ntmps215
   go_wp2_with fail
   refine HTL.out.mono ?_
   rintro e w1 ⟨rfl, rfl⟩
   go_wp2_with fail
   go_ret
   exact ⟨_, rfl, HR.out, Below.refl _ _⟩
 | none =>
  rw [ht, Option.getD_none, Option.isSome_none] at HTL
  cases hr : cD r with
  | none =>
   rw [hr, Option.getD_none, Option.isSome_none] at HTR
   have HE : Hid (dM (.mk c a n op nm l r zs) through = .mk c a n op nm l r zs) := zz (by show (match cD l with | some b => if b = through then r else l | none => match cD r with | some b => if b = through then l else _ | none => _) = _; rw [ht, hr])
   rw [HE.out]
   clear ht hr
   go_enter Tryz.func215, Tryz.ntmps215
   go_wp2_with fail
   refine HTL.out.mono ?_
   rintro e w1 ⟨rfl, rfl⟩
   go_wp2_with fail
   refine HTR.out.mono ?_
   rintro e w2 ⟨rfl, rfl⟩
   go_wp2_with fail
   go_ret
   exact ⟨_, rfl, HX.out, Below.refl _ _⟩
  | some b =>
   rw [hr, Option.getD_some, Option.isSome_some] at HTR
   have HE : Hid (dM (.mk c a n op nm l r zs) through = if b = through then l else .mk c a n op nm l r zs) := zz (by show (match cD l with | some b => if b = through then r else l | none => match cD r with | some b => if b = through then l else _ | none => _) = _; rw [ht, hr])
   rw [HE.out]
   clear ht hr
   cases b <;> cases through
   ·rw [if_pos rfl]
    go_enter Tryz.func215, Tryz.ntmps215
    go_wp2_with fail
    refine HTL.out.mono ?_
    rintro e w1 ⟨rfl, rfl⟩
    go_wp2_with fail
    refine HTR.out.mono ?_
    rintro e w2 ⟨rfl, rfl⟩
    go_wp2_with fail
    go_ret
    exact ⟨_, rfl, HL.out, Below.refl _ _⟩
   ·rw [if_neg (by decide)]
    go_enter Tryz.func215, Tryz.ntmps215
    go_wp2_with fail
    refine HTL.out.mono ?_
    rintro e w1 ⟨rfl, rfl⟩
    go_wp2_with fail
    refine HTR.out.mono ?_
    rintro e w2 ⟨rfl, rfl⟩
    go_wp2_with fail
    go_ret
    exact ⟨_, rfl, HX.out, Below.refl _ _⟩
   ·rw [if_neg (by decide)]
    go_enter Tryz.func215, Tryz.ntmps215
    go_wp2_with fail
    refine HTL.out.mono ?_
    rintro e w1 ⟨rfl, rfl⟩
    go_wp2_with fail
    refine HTR.out.mono ?_
    rintro e w2 ⟨rfl, rfl⟩
    go_wp2_with fail
    go_ret
    exact ⟨_, rfl, HX.out, Below.refl _ _⟩
   ·rw [if_pos rfl]
    go_enter Tryz.func215, Tryz.ntmps215
    go_wp2_with fail
    refine HTL.out.mono ?_
    rintro e w1 ⟨rfl, rfl⟩
    go_wp2_with fail
    refine HTR.out.mono ?_
    rintro e w2 ⟨rfl, rfl⟩
    go_wp2_with fail
    go_ret
    exact ⟨_, rfl, HL.out, Below.refl _ _⟩
theorem vY {x : Ex} {k : Int} (hok : bB x) (h : bH x = some k) : -9223372036854775807 <= k /\ k <= 9223372036854775807 := by
 cases x with
 | nil => unfold bH at h; rw [if_neg (by decide), if_neg (fun e => absurd e.1 (by decide))] at h; cases h
 | mk c a n op nm l r zs =>
  have h1 : n <= 9223372036854775807 := hok.1
  have h2 : bB l := hok.2.1
  unfold bH at h
  split at h
  ·have := Option.some.inj h
   have h3 : ((Ex.mk c a n op nm l r zs).n : Int) = n := rfl
   omega
  ·split at h
   ·have h4 := Option.some.inj h
    have h5 : l.n <= 9223372036854775807 := by
     cases l with
     | nil => exact Nat.zero_le _
     | mk c' a' n' _ _ _ _ _ => exact h2.1
    have h3 : (Ex.mk c a n op nm l r zs).l = l := rfl
    rw [h3] at h4
    omega
   ·cases h
end Go.Proofs.YtnpapppipccdbaaGreatDoor
namespace Go.Proofs.YtnpapppipccdbaaGreatDoor
open Go.RowKit
def I64 (n : Int) : Prop := -9223372036854775808 <= n /\ n <= 9223372036854775807
theorem mN (n : Int) : I64 (wrap64 n) := by unfold wrap64 I64; omega
abbrev B64 (n : Int) : BitVec 64 := BitVec.ofInt 64 n
theorem o0 (n : Int) : wrap64 n = (B64 n).toInt := by
 rw [BitVec.toInt_ofInt]
 unfold wrap64 Int.bmod
 have : ((2 ^ 64 : Nat) : Int) = 18446744073709551616 := by decide
 rw [this]
 dsimp only
 split <;> omega
theorem CX (x : BitVec 64) : B64 x.toInt = x := BitVec.ofInt_toInt
theorem sK (x : BitVec 64) : I64 x.toInt := by rw [<- CX x, <- o0]; exact mN _
theorem mO (x : BitVec 64) : IntKind.i64.wrap (x.toNat : Int) = x.toInt := by
 have : wrap64 (x.toNat : Int) = x.toInt := by
  rw [o0]; congr 1
  apply BitVec.eq_of_toNat_eq
  rw [BitVec.toNat_ofInt]
  have := x.isLt
  omega
 rw [<- this, IntKind.wrap_i64]; unfold wrap64; rfl
theorem E6 (a b : Int) : bits .and .i64 a b = (B64 a &&& B64 b).toInt := mO _
theorem IX (a b : Int) : bits .or .i64 a b = (B64 a ||| B64 b).toInt := mO _
theorem vZ (a b : Int) : bits .xor .i64 a b = (B64 a ^^^ B64 b).toInt := mO _
end Go.Proofs.YtnpapppipccdbaaGreatDoor
namespace Go.Proofs.YtnpapppipccdbaaGreatDoor
open Go.RowKit Lx Tr
theorem E7 {a : Int} (b : Int) (ha : I64 a) : I64 (a.tmod b) := by
 have h1 := Int.natAbs_tmod a b
 have h2 := Nat.mod_le a.natAbs b.natAbs
 unfold I64 at ha ⊢
 by_cases h0 : 0 <= a
 ·have h3 := Int.tmod_nonneg b h0
  omega
 ·have h4 : a.tmod b = -((-a).tmod b) := by rw [Int.neg_tmod, Int.neg_neg]
  have h5 := Int.tmod_nonneg b (show 0 <= -a by omega)
  omega
theorem IY {a : Int} (k : Nat) (ha : I64 a) : I64 (a / 2 ^ k) := by
 have hd : (0 : Int) < 2 ^ k := Int.pow_pos (by decide)
 unfold I64 at ha ⊢
 by_cases h0 : 0 <= a
 ·have h1 := Int.ediv_nonneg h0 (Int.le_of_lt hd)
  have h2 := Int.ediv_le_self (2 ^ k) h0
  omega
 ·have h1 : a <= a / 2 ^ k := (Int.le_ediv_iff_mul_le hd).2 (by
   have h3 : a * 2 ^ k <= a * 1 := Int.mul_le_mul_of_nonpos_left (by omega) (by omega)
   omega)
  have h2 : a / 2 ^ k < 0 := Int.ediv_neg_of_neg_of_pos (by omega) hd
  omega
theorem AZ {c : Prop} [Decidable c] {x y : Int} (hx : I64 x) (hy : I64 y) : I64 (if c then x else y) := by split <;> assumption
theorem v8 (c : Bool) : I64 (rJ c) := by unfold rJ I64; split <;> omega
theorem wA (op : Int) {a : Int} (b : Int) (ha : I64 a) : I64 (pF op a b) := by
 have h0 : I64 0 := by unfold I64; omega
 unfold pF cT
 rw [E6, IX, vZ]
 repeat' first | exact mN _ | exact E7 _ ha | exact sK _ | exact IY _ ha | exact v8 _ | exact h0 | refine AZ ?_ ?_
theorem A0 (op a : Int) : I64 (unV op a) := by
 have h0 : I64 0 := by unfold I64; omega
 unfold unV
 rw [vZ]
 repeat' first | exact mN _ | exact sK _ | exact v8 _ | exact h0 | refine AZ ?_ ?_
end Go.Proofs.YtnpapppipccdbaaGreatDoor
namespace Go.Proofs.YtnpapppipccdbaaGreatDoor
open Go.RowKit Lx Tr
variable {w w' : World}
theorem yN {B bk : Nat} {c a n op : Nat} {nm : Lx.B} {l r : Ex} {zs : Exs} (h1 : 1 <= op) (h2 : op <= 16) (hok : bB (.mk c a n op nm l r zs)) (w : World) (hB : B <= w.heap.size) (hx : ExIn w (fun b => B <= b) (.pointer (some ⟨bk, 0, none⟩)) (.mk c a n op nm l r zs)) :
  bI B w 216 #[.pointer (some ⟨bk, 0, none⟩)] (lG (.mk c a n op nm l r zs)) := by
 have HX := zz hx
 have HB := zz hB
 have hol : bB l := hok.2.1
 have hor : bB r := hok.2.2.1
 obtain ⟨bk', lv, rv, av, e, _, c0, c1, _, _, c4, c5, c6, _, hl, hr, _⟩ := hx
 cases e
 have HNL := zz (nH l hol w lv hl)
 have HNR := zz (nH r hor w rv hr)
 have HL := zz hl
 have HR := zz hr
 obtain ⟨ql, rfl⟩ := aL hl
 obtain ⟨qr, rfl⟩ := aL hr
 have hdef : lG (.mk c a n op nm l r zs) = match bH l, bH r with
  | some a', some b' => if lD (op : Int) b' = 0 then kX (.mk c a n op nm l r zs) (pF (op : Int) a' b') else .mk c a n op nm l r zs
  | none, some b' => if AU (op : Int) b' then l else .mk c a n op nm l r zs
  | some a', none => if AV (op : Int) a' then r else .mk c a n op nm l r zs
  | none, none => .mk c a n op nm l r zs := rfl
 have HD := zz hdef
 have HRG : Hid (∀ k, bH l = some k -> I64 k) := zz fun k hk => by have := vY hol hk; unfold I64; omega
 unfold bI
 clear hl hr hol hor hB hok hdef
 cases hkl : bH l with
 | none =>
  rw [hkl, Option.getD_none, Option.isSome_none] at HNL
  cases hkr : bH r with
  | none =>
   rw [hkr, Option.getD_none, Option.isSome_none] at HNR
   rw [HD.out, hkl, hkr]
   clear hkl hkr h1 h2
   go_enter Tryz.func216, Tryz.ntmps216
   go_wp2_with fail
   refine HNL.out.mono ?_
   rintro e w1 ⟨rfl, rfl⟩
   go_wp2_with fail
   refine HNR.out.mono ?_
   rintro e w2 ⟨rfl, rfl⟩
   go_wp2_with fail
   go_ret
   exact ⟨_, rfl, HX.out, Below.refl _ _⟩
  | some b' =>
   rw [hkr, Option.getD_some, Option.isSome_some] at HNR
   have HI := zz (CV op h1 h2 b' w)
   cases hi : AU (op : Int) b' with
   | true =>
    rw [HD.out, hkl, hkr]
    simp only [hi, if_true]
    rw [hi] at HI
    clear hkl hkr h1 h2 hi
    go_enter Tryz.func216, Tryz.ntmps216
    go_wp2_with fail
    refine HNL.out.mono ?_
    rintro e w1 ⟨rfl, rfl⟩
    go_wp2_with fail
    refine HNR.out.mono ?_
    rintro e w2 ⟨rfl, rfl⟩
    go_wp2_with fail
    refine HI.out.mono ?_
    rintro e w3 ⟨rfl, rfl⟩
    go_wp2_with fail
    go_ret
    exact ⟨_, rfl, HL.out, Below.refl _ _⟩
   | false =>
    rw [HD.out, hkl, hkr]
    simp only [hi, Bool.false_eq_true, if_false]
    rw [hi] at HI
    clear hkl hkr h1 h2 hi
    go_enter Tryz.func216, Tryz.ntmps216
    go_wp2_with fail
    refine HNL.out.mono ?_
    rintro e w1 ⟨rfl, rfl⟩
    go_wp2_with fail
    refine HNR.out.mono ?_
    rintro e w2 ⟨rfl, rfl⟩
    go_wp2_with fail
    refine HI.out.mono ?_
    rintro e w3 ⟨rfl, rfl⟩
    go_wp2_with fail
    go_ret
    exact ⟨_, rfl, HX.out, Below.refl _ _⟩
 | some a' =>
  rw [hkl, Option.getD_some, Option.isSome_some] at HNL
  cases hkr : bH r with
  | none =>
   rw [hkr, Option.getD_none, Option.isSome_none] at HNR
   have HI := zz (CW op h1 h2 a' w)
   cases hi : AV (op : Int) a' with
   | true =>
    rw [HD.out, hkl, hkr]
    simp only [hi, if_true]
    rw [hi] at HI
    clear hkl hkr h1 h2 hi
    go_enter Tryz.func216, Tryz.ntmps216
    go_wp2_with fail
    refine HNL.out.mono ?_
    rintro e w1 ⟨rfl, rfl⟩
    go_wp2_with fail
    refine HNR.out.mono ?_
    rintro e w2 ⟨rfl, rfl⟩
    go_wp2_with fail
    refine HI.out.mono ?_
    rintro e w3 ⟨rfl, rfl⟩
    go_wp2_with fail
    go_ret
    exact ⟨_, rfl, HR.out, Below.refl _ _⟩
   | false =>
    rw [HD.out, hkl, hkr]
    simp only [hi, Bool.false_eq_true, if_false]
    rw [hi] at HI
    clear hkl hkr h1 h2 hi
    go_enter Tryz.func216, Tryz.ntmps216
    go_wp2_with fail
    refine HNL.out.mono ?_
    rintro e w1 ⟨rfl, rfl⟩
    go_wp2_with fail
    refine HNR.out.mono ?_
    rintro e w2 ⟨rfl, rfl⟩
    go_wp2_with fail
    refine HI.out.mono ?_
    rintro e w3 ⟨rfl, rfl⟩
    go_wp2_with fail
    go_ret
    exact ⟨_, rfl, HX.out, Below.refl _ _⟩
  | some b' =>
   rw [hkr, Option.getD_some, Option.isSome_some] at HNR
   have HBN := zz (iO9 (op : Int) a' b' w)
   have hr64 := wA (op : Int) b' (HRG.out a' hkl)
   unfold I64 at hr64
   have HM := zz (KK (pF (op : Int) a' b') hr64.1 hr64.2 w HB.out HX.out)
   unfold bI at HM
   by_cases hw : lD (op : Int) b' = 0
   ·rw [HD.out, hkl, hkr]
    simp only [hw, if_true]
    rw [hw] at HBN
    clear hkl hkr h1 h2 hw hr64
    generalize pF (op : Int) a' b' = m at *
    go_enter Tryz.func216, Tryz.ntmps216
    go_wp2_with fail
    refine HNL.out.mono ?_
    rintro e w1 ⟨rfl, rfl⟩
    go_wp2_with fail
    refine HNR.out.mono ?_
    rintro e w2 ⟨rfl, rfl⟩
    go_wp2_with fail
    refine HBN.out.mono ?_
    rintro e w3 ⟨rfl, rfl⟩
    go_wp2_with fail
    refine HM.out.mono ?_
    rintro e w4 ⟨v, rfl, hv, hb⟩
    go_wp2_with fail
    go_ret
    exact ⟨_, rfl, hv, hb⟩
   ·rw [HD.out, hkl, hkr]
    simp only [hw, if_false]
    have e1 : (lD (op : Int) b' == 0) = false := beq_eq_false_iff_ne.2 hw
    clear hkl hkr h1 h2 hw hr64
    generalize pF (op : Int) a' b' = m at *
    generalize lD (op : Int) b' = wy at *
    go_enter Tryz.func216, Tryz.ntmps216
    go_wp2_with fail
    refine HNL.out.mono ?_
    rintro e w1 ⟨rfl, rfl⟩
    go_wp2_with fail
    refine HNR.out.mono ?_
    rintro e w2 ⟨rfl, rfl⟩
    go_wp2_with fail
    refine HBN.out.mono ?_
    rintro e w3 ⟨rfl, rfl⟩
    go_wp2_with fail
    go_ret
    exact ⟨_, rfl, HX.out, Below.refl _ _⟩
theorem LD {B bk : Nat} {c a n op : Nat} {nm : Lx.B} {l r : Ex} {zs : Exs} (hok : bB (.mk c a n op nm l r zs)) (w : World) (hB : B <= w.heap.size) (hx : ExIn w (fun b => B <= b) (.pointer (some ⟨bk, 0, none⟩)) (.mk c a n op nm l r zs)) :
  bI B w 172 #[.pointer (some ⟨bk, 0, none⟩)] (p6 (.mk c a n op nm l r zs)) := by
 have hdef : p6 (.mk c a n op nm l r zs) = if op = 30 then dM (.mk c a n op nm l r zs) true else if op = 31 then dM (.mk c a n op nm l r zs) false else if 1 <= op /\ op <= 16 then lG (.mk c a n op nm l r zs) else .mk c a n op nm l r zs := rfl
 rw [hdef]
 have HX := zz hx
 obtain ⟨bk', lv, rv, av, e, _, c0, c1, _, _, c4, c5, c6, _, hl, hr, _⟩ := hx
 cases e
 unfold bI
 by_cases h30 : op = 30
 ·subst h30
  rw [if_pos rfl]
  have HC := zz (vX true w HX.out)
  unfold bI at HC
  clear hl hr hB hok hdef
  go_enter Tryz.func172, Tryz.ntmps172
  go_wp2_with fail
  refine HC.out.mono ?_
  rintro e w4 ⟨v, rfl, hv, hb⟩
  go_wp2_with fail
  go_ret
  exact ⟨_, rfl, hv, hb⟩
 by_cases h31 : op = 31
 ·subst h31
  rw [if_neg (by decide), if_pos rfl]
  have HC := zz (vX false w HX.out)
  unfold bI at HC
  clear hl hr hB hok hdef h30
  go_enter Tryz.func172, Tryz.ntmps172
  go_wp2_with fail
  refine HC.out.mono ?_
  rintro e w4 ⟨v, rfl, hv, hb⟩
  go_wp2_with fail
  go_ret
  exact ⟨_, rfl, hv, hb⟩
 have e1 : ((op : Int) == 30) = false := beq_eq_false_iff_ne.2 (by omega)
 have e2 : ((op : Int) == 31) = false := beq_eq_false_iff_ne.2 (by omega)
 rw [if_neg h30, if_neg h31]
 by_cases hr1 : 1 <= op /\ op <= 16
 ·rw [if_pos hr1]
  have HC := zz (yN hr1.1 hr1.2 hok w hB HX.out)
  unfold bI at HC
  have e3 : decide ((1 : Int) <= (op : Int)) = true := by simp; omega
  have e4 : decide ((op : Int) <= 16) = true := by simp; omega
  clear hl hr hB hok hdef h30 h31 hr1
  go_enter Tryz.func172, Tryz.ntmps172
  go_wp2_with fail
  refine HC.out.mono ?_
  rintro e w4 ⟨v, rfl, hv, hb⟩
  go_wp2_with fail
  go_ret
  exact ⟨_, rfl, hv, hb⟩
 ·rw [if_neg hr1]
  by_cases h0 : 1 <= op
  ·have e3 : decide ((1 : Int) <= (op : Int)) = true := by simp; omega
   have e4 : decide ((op : Int) <= 16) = false := by simp; omega
   clear hl hr hB hok hdef h30 h31 hr1 h0
   go_enter Tryz.func172, Tryz.ntmps172
   go_wp2_with fail
   go_ret
   exact ⟨_, rfl, HX.out, Below.refl _ _⟩
  ·have e3 : decide ((1 : Int) <= (op : Int)) = false := by simp; omega
   clear hl hr hB hok hdef h30 h31 hr1 h0
   go_enter Tryz.func172, Tryz.ntmps172
   go_wp2_with fail
   go_ret
   exact ⟨_, rfl, HX.out, Below.refl _ _⟩
theorem LE {B bk : Nat} {c a n op : Nat} {nm : Lx.B} {l r : Ex} {zs : Exs} (hok : bB (.mk c a n op nm l r zs)) (w : World) (hB : B <= w.heap.size) (hx : ExIn w (fun b => B <= b) (.pointer (some ⟨bk, 0, none⟩)) (.mk c a n op nm l r zs)) :
  bI B w 173 #[.pointer (some ⟨bk, 0, none⟩)] (oB (.mk c a n op nm l r zs)) := by
 have hdef : oB (.mk c a n op nm l r zs) = if (bH (.mk c a n op nm l r zs)).isSome then .mk c a n op nm l r zs else match cD l with
  | some b => k9 (!b) a
  | none => match bH l with
   | some k => eT (.mk c a n op nm l r zs) (unV (op : Int) k)
   | none => .mk c a n op nm l r zs := rfl
 rw [hdef]
 have HX := zz hx
 have HB := zz hB
 have hol : bB l := hok.2.1
 have HNX := zz (nH _ hok w _ hx)
 obtain ⟨bk', lv, rv, av, e, _, c0, c1, _, _, c4, c5, c6, _, hl, hr, _⟩ := hx
 cases e
 have HNL := zz (nH l hol w lv hl)
 have HTL := zz (lW l w lv hl)
 obtain ⟨ql, rfl⟩ := aL hl
 unfold bI
 clear hl hr hB hok hdef hol
 cases hkx : bH (.mk c a n op nm l r zs) with
 | some k =>
  rw [hkx, Option.getD_some, Option.isSome_some] at HNX
  rw [Option.isSome_some, if_pos rfl]
  clear hkx
  go_enter Tryz.func173, Tryz.ntmps173
  go_wp2_with fail
  refine HNX.out.mono ?_
  rintro e w1 ⟨rfl, rfl⟩
  go_wp2_with fail
  go_ret
  exact ⟨_, rfl, HX.out, Below.refl _ _⟩
 | none =>
  rw [hkx, Option.getD_none, Option.isSome_none] at HNX
  rw [Option.isSome_none, if_neg (by decide)]
  clear hkx
  cases ht : cD l with
  | some b =>
   rw [ht, Option.getD_some, Option.isSome_some] at HTL
   have HT := zz (nI (!b) a w HB.out)
   unfold bI at HT
   clear ht
   go_enter Tryz.func173, Tryz.ntmps173
   go_wp2_with fail
   refine HNX.out.mono ?_
   rintro e w1 ⟨rfl, rfl⟩
   go_wp2_with fail
   refine HTL.out.mono ?_
   rintro e w2 ⟨rfl, rfl⟩
   go_wp2_with fail
   refine HT.out.mono ?_
   rintro e w4 ⟨v, rfl, hv, hb⟩
   go_wp2_with fail
   go_ret
   exact ⟨_, rfl, hv, hb⟩
  | none =>
   rw [ht, Option.getD_none, Option.isSome_none] at HTL
   clear ht
   cases hk : bH l with
   | some k =>
    rw [hk, Option.getD_some, Option.isSome_some] at HNL
    have hr64 := A0 (op : Int) k
    unfold I64 at hr64
    have HU := zz (KI (op : Int) k w)
    have HN := zz (sJ (unV (op : Int) k) hr64.1 hr64.2 w HB.out HX.out)
    unfold bI at HN
    clear hk hr64
    go_enter Tryz.func173, Tryz.ntmps173
    go_wp2_with fail
    refine HNX.out.mono ?_
    rintro e w1 ⟨rfl, rfl⟩
    go_wp2_with fail
    refine HTL.out.mono ?_
    rintro e w2 ⟨rfl, rfl⟩
    go_wp2_with fail
    refine HNL.out.mono ?_
    rintro e w3 ⟨rfl, rfl⟩
    go_wp2_with fail
    refine HU.out.mono ?_
    rintro e w5 ⟨rfl, rfl⟩
    go_wp2_with fail
    refine HN.out.mono ?_
    rintro e w4 ⟨v, rfl, hv, hb⟩
    go_wp2_with fail
    go_ret
    exact ⟨_, rfl, hv, hb⟩
   | none =>
    rw [hk, Option.getD_none, Option.isSome_none] at HNL
    clear hk
    go_enter Tryz.func173, Tryz.ntmps173
    go_wp2_with fail
    refine HNX.out.mono ?_
    rintro e w1 ⟨rfl, rfl⟩
    go_wp2_with fail
    refine HTL.out.mono ?_
    rintro e w2 ⟨rfl, rfl⟩
    go_wp2_with fail
    refine HNL.out.mono ?_
    rintro e w3 ⟨rfl, rfl⟩
    go_wp2_with fail
    go_ret
    exact ⟨_, rfl, HX.out, Below.refl _ _⟩
end Go.Proofs.YtnpapppipccdbaaGreatDoor
namespace Go.Proofs.YtnpapppipccdbaaGreatDoor
open Go.RowKit Go.ChangeShapes Go.WideShapes Go.ChangeAt
end Go.Proofs.YtnpapppipccdbaaGreatDoor
namespace Go.Proofs.YtnpapppipccdbaaGreatDoor
open Go.RowKit
theorem eQ {w w' : World} {o : Obj} {v : Value} {S : Nat -> Prop} (hg : (w.alloc o).grownBy w' v.ownBlock) (hs : ∀ k, v.ownBlock = some k -> S k) : Keeps S w w' :=
 ((Keeps.refl S w).alloc o).trans' (Keeps.of_grownBy hg fun k _ e => hs k e) fun _ _ e => e
end Go.Proofs.YtnpapppipccdbaaGreatDoor
namespace Go.Proofs.YtnpapppipccdbaaGreatDoor
open Go.RowKit Lx Tr
variable {w w' : World}
mutual
def szE : Ex -> Nat
 | .nil => 1
 | .mk _ _ _ _ _ l r zs => 1 + szE l + szE r + jJ zs
def jJ : Exs -> Nat
 | .nil => 0
 | .cons x xs => szE x + jJ xs
end
theorem nJ (x : Ex) : 1 <= szE x := by cases x <;> simp only [szE] <;> omega
theorem wB : ∀ xs : Exs, xs.len <= jJ xs
 | .nil => Nat.zero_le _
 | .cons x xs => by
  have := nJ x
  have := wB xs
  show xs.len + 1 <= _
  rw [jJ]; omega
def ArgsX (w : World) (F : Nat -> Prop) (av : Value) (zs : Exs) : Prop :=
 ((av = .slice none 0 0 /\ zs.len = 0) \/ ∃ g cap, av = .slice (some ⟨g, 0, none⟩) zs.len cap /\ zs.len <= cap /\ cap <= maxLen /\ 0 < zs.len /\ F g) /\ ∀ g n cap, av = .slice (some ⟨g, 0, none⟩) n cap -> ExsIn w F g 0 zs
theorem ArgsX.form {F : Nat -> Prop} {av : Value} {zs : Exs} (h : ArgsX w F av zs) : ∃ ao cap, av = .slice ao zs.len cap := by
 rcases h.1 with ⟨e, e0⟩ | ⟨g, cap, e, _⟩
 ·exact ⟨none, 0, by rw [e, e0]⟩
 ·exact ⟨_, _, e⟩
theorem JZ {F : Nat -> Prop} {g : Nat} : ∀ (xs : Exs) (i : Nat), ExsIn w F g i xs -> ∀ (j : Nat) (x : Ex), xs.toList[j]? = some x -> ∃ v, w.cell? ⟨g, (i + j : Nat), none⟩ = some v /\ ExIn w F v x
 | .nil, _, _, j, x, h => by simp [Exs.toList] at h
 | .cons y ys, i, ⟨h1, h2⟩, 0, x, h => by
  obtain ⟨v, a1, a2⟩ := h1
  have e : y = x := by simpa [Exs.toList] using h
  subst e
  exact ⟨v, a1, a2⟩
 | .cons y ys, i, ⟨h1, h2⟩, j + 1, x, h => by
  obtain ⟨v, a1, a2⟩ := JZ ys (i + 1) h2 j x (by simpa [Exs.toList] using h)
  exact ⟨v, by rw [show i + (j + 1) = i + 1 + j by omega]; exact a1, a2⟩
theorem nK : ∀ (xs : Exs), xs.toList.length = xs.len
 | .nil => rfl
 | .cons _ xs => congrArg (· + 1) (nK xs)
theorem ArgsX.at {F : Nat -> Prop} {ao : Option Addr} {n cap k : Nat} {zs : Exs} {x : Ex} (h : ArgsX w F (.slice ao n cap) zs) (hk : zs.toList[k]? = some x) : ∃ g v, ao = some ⟨g, 0, none⟩ /\ w.cell? ⟨g, k, none⟩ = some v /\ ExIn w F v x := by
 rcases h.1 with ⟨e, e0⟩ | ⟨g, cp, e, _⟩
 ·have h1 := (List.getElem?_eq_some_iff.1 hk).1
  rw [nK, e0] at h1
  exact absurd h1 (Nat.not_lt_zero _)
 ·obtain ⟨v, h1, h2⟩ := JZ zs 0 (h.2 g _ _ e) k x hk
  rw [Nat.zero_add] at h1
  injection e with e1 _ _
  exact ⟨g, v, e1, h1, h2⟩
theorem lK : ∀ xs : Exs, (aU xs).toList = xs.toList.map aK
 | .nil => by rw [aU]; rfl
 | .cons x xs => by rw [aU]; show aK x :: (aU xs).toList = _; rw [lK xs]; rfl
def ValsL (W : World) (F : Nat -> Prop) (vs : List Value) (xs : List Ex) : Prop := vs.length = xs.length /\ ∀ (i : Nat) (v : Value) (x : Ex), vs[i]? = some v -> xs[i]? = some x -> ExIn W F v x
theorem ValsL.keeps {F S : Nat -> Prop} {vs : List Value} {xs : List Ex} (h : ValsL w F vs xs) (hk : Keeps S w w') (hF : ∀ b, F b -> ¬ S b) : ValsL w' F vs xs := ⟨h.1, fun i v x h1 h2 => (h.2 i v x h1 h2).keeps hk hF⟩
theorem ValsL.mono {F G : Nat -> Prop} (hF : ∀ b, b < w.heap.size -> F b -> G b) {vs : List Value} {xs : List Ex} (h : ValsL w F vs xs) : ValsL w G vs xs := ⟨h.1, fun i v x h1 h2 => ExIn.mono hF _ _ (h.2 i v x h1 h2)⟩
theorem ValsL.snoc {F : Nat -> Prop} {vs : List Value} {xs : List Ex} {v : Value} {x : Ex} (h : ValsL w F vs xs) (hx : ExIn w F v x) : ValsL w F (vs ++ [v]) (xs ++ [x]) := by
 refine ⟨by rw [List.length_append, List.length_append, h.1]; rfl, fun i u y h1 h2 => ?_⟩
 by_cases hi : i < vs.length
 ·rw [List.getElem?_append_left hi] at h1
  rw [List.getElem?_append_left (by rw [<- h.1]; exact hi)] at h2
  exact h.2 i u y h1 h2
 ·rw [List.getElem?_append_right (by omega)] at h1
  rw [List.getElem?_append_right (by rw [<- h.1]; omega), <- h.1] at h2
  by_cases hz : i - vs.length = 0
  ·rw [hz] at h1 h2
   cases h1; cases h2; exact hx
  ·obtain ⟨z, hz⟩ : ∃ z, i - vs.length = z + 1 := ⟨i - vs.length - 1, by omega⟩
   rw [hz] at h1; cases h1
theorem qD {F : Nat -> Prop} {g : Nat} : ∀ (xs : Exs) (vs : List Value) (i : Nat), ValsL w F vs xs.toList -> (∀ j v, vs[j]? = some v -> w.cell? ⟨g, i + j, none⟩ = some v) -> ExsIn w F g i xs
 | .nil, _, _, _, _ => trivial
 | .cons x xs, [], _, h, _ => absurd h.1 (by simp [Exs.toList])
 | .cons x xs, v :: vs, i, h, hc => ⟨⟨v, hc 0 v rfl, h.2 0 v x rfl rfl⟩, qD xs vs (i + 1) ⟨Nat.succ.inj h.1, fun j u y h1 h2 => h.2 (j + 1) u y h1 h2⟩ (fun j u hj => by rw [show i + 1 + j = i + (j + 1) by omega]; exact hc (j + 1) u hj)⟩
theorem CY {B : Nat} {v : Value} {vs : List Value} {zs : Exs} (hown : w.ownsRow B 60 1 v zs.len vs) (hv : ValsL w (fun b => B <= b) vs zs.toList) (h0 : zs.len = 0 -> v = .slice none 0 0) : ArgsX w (fun b => B <= b) v zs := by
 by_cases hz : zs.len = 0
 ·refine ⟨Or.inl ⟨h0 hz, hz⟩, fun g n cap e => ?_⟩
  rw [h0 hz] at e; cases e
 ·have hc := hown
  rcases hown.2 with ⟨_, e⟩ | ⟨g, cap, cur, rfl, hb, hg, h3, h4, _⟩
  ·exact absurd e hz
  ·refine ⟨Or.inr ⟨g, cap, rfl, h3, h4, by omega, hb⟩, fun g' n' cap' e => ?_⟩
   cases e
   refine qD zs vs 0 hv (fun j u hj => ?_)
   rw [Nat.zero_add, World.ownsRow.cellAt hc j (by have := (List.getElem?_eq_some_iff.1 hj).1; have := hc.1; omega)]
   exact hj
theorem yO : (Tryz.prog.info? 60).map (fun i => (i.zero, i.size, i.bytes)) = some (some (.pointer none), 1, 8) := by kernel_rfl
theorem qE {ops : Array Oper} {rest : List Oper} {o : Oper} {a : Act} {Q : Exit -> Act -> World -> Prop} (hgd : o.guard = none) (s x : Operand)
  (ho : o.op = .call { callee := .builtin .append, args := #[s, x], argTypes := #[62, 62] }) (w : World) (B : Nat) (v : Value) (n : Nat) (xs : List Value) (u : Option Addr) (hown : w.ownsRow B 60 1 v n xs) (hs : a.eval s = v)
  (hx : a.eval x = .slice (some ⟨w.heap.size, 0, none⟩) 1 1) (hl : n <= 1000000) (hB : B <= w.heap.size)
  (h : ∀ ao' cap' w', w'.ownsRow B 60 1 (.slice ao' (n + 1) cap') (n + 1) (xs ++ [.pointer u]) -> Keeps (fun b => v.ownBlock = some b) w w' -> (∀ k, (Value.slice ao' (n + 1) cap').ownBlock = some k -> v.ownBlock = some k \/ w.heap.size <= k) ->
   wpList Tryz.prog ops Q rest (a.put o.dst (.slice ao' (n + 1) cap')) w') : wpList Tryz.prog ops Q (o :: rest) a (w.alloc (.cells #[.pointer u] 60)) := by
 obtain ⟨i0, hi, hz0, hz1, hz2⟩ := info_parts yO
 refine wpList_append_own_at _ hgd s x 62 ho B 60 i0 (.pointer none) 1 8 Tryz.underlying62 hi hz0 hz1 hz2 rfl (by decide) v n xs hs (World.ownsRow.alloc hown _) ⟨w.heap.size, 0, none⟩ 1 1 [.pointer u] hx rfl
  (cell_one_new _ _ _) (fun u hu => by simp at hu; subst hu; rfl) (by unfold maxLen; omega) (by omega) (by simp; omega) ?_
 intro v' w' h1 h2 _ h4
 have hv' : ∃ ao' cap', v' = .slice ao' (n + 1) cap' := by
  rcases h1.2 with ⟨_, h0⟩ | ⟨g, cap', cur, rfl, _⟩
  ·omega
  ·exact ⟨_, _, rfl⟩
 obtain ⟨ao', cap', rfl⟩ := hv'
 refine h ao' cap' w' h1 (eQ h2 (fun k e => e)) (fun k e => ?_)
 rcases h4 with h5 | h5
 ·exact Or.inl (h5 ▸ e)
 ·rw [h5] at e
  have := Option.some.inj e
  exact Or.inr (by simp at this; omega)
def eJ (x : Ex) : Prop := ∀ (F : Nat -> Prop) (w : World) (v : Value), ExIn w F v x -> bI w.heap.size w 124 #[v] (aK x)
theorem yP {x : Ex} (h : eJ x) {F : Nat -> Prop} (w : World) (v : Value) (hx : ExIn w F v x) : Calls Tryz.prog 171 #[v] w fun e w' => ∃ u, e = .returned (.tuple #[.pointer u, .bool true]) /\ ExIn w' (fun b => w.heap.size <= b) (.pointer u) (aK x) /\ Below w.heap.size w w' := by
 have HC := zz (h F w v hx)
 unfold bI at HC
 clear h hx
 go_enter Tryz.func171, Tryz.ntmps171
 go_wp2_with fail
 refine HC.out.mono ?_
 rintro e w1 ⟨v1, rfl, hv, hb⟩
 obtain ⟨u, rfl⟩ := aL hv
 have HV := zz hv
 have HB := zz hb
 clear hv hb
 go_wp2_with fail
 go_ret2
 exact ⟨u, rfl, HV.out, HB.out⟩
theorem CZ {zs : Exs} (hA : ∀ x ∈ zs.toList, eJ x) (hsz : jJ zs <= 1000000) {F : Nat -> Prop} (w : World) (av : Value) (hx : ArgsX w F av zs) (hF : ∀ b, F b -> b < w.heap.size) :
  Calls Tryz.prog 170 #[av, .func (.func 171) #[] #[]] w fun e w' => ∃ sv, e = .returned sv /\ ArgsX w' (fun b => w.heap.size <= b) sv (aU zs) /\ Below w.heap.size w w' := by
 obtain ⟨ao, cap, rfl⟩ := hx.form
 have hlen := wB zs
 have HA := zz hA
 have HX := zz hx
 have HN : Hid (zs.len <= 1000000) := zz (by omega)
 have hLL := nK zs
 have HLL := zz hLL
 have HB0 : Hid (∀ W, Below w.heap.size w W -> ArgsX W F (.slice ao zs.len cap) zs) := zz fun W hb => by
  have hk : Keeps (fun k => w.heap.size <= k) w W := Keeps.of_below (S := fun k => w.heap.size <= k) hb (fun _ _ e => e)
  refine ⟨hx.1, fun g n c e => ?_⟩
  rcases hx.1 with ⟨e2, _⟩ | ⟨g', c', e2, _, _, _, hg⟩
  ·rw [e] at e2; cases e2
  ·rw [e] at e2; cases e2
   exact ExsIn.keeps hk (fun b hb e3 => by have h9 : w.heap.size <= b := e3; have := hF b hb; omega) g hg 0 zs (hx.2 g _ _ e)
 clear hA hx hlen hLL hF
 go_enter Tryz.func170, Tryz.ntmps170
 go_wp2_with fail
 go_loopw [5, 12] (fun v i wr => ∃ (k : Nat) (vals : List Value), k <= zs.len /\ i = .int .i64 k /\ wr.ownsRow w.heap.size 60 1 v k vals /\ ValsL wr (fun b => w.heap.size <= b /\ v.ownBlock ≠ some b) vals ((zs.toList.take k).map aK) /\ Below w.heap.size w wr /\ (k = 0 -> v = .slice none 0 0)) (fun _ i _ => zs.len - (intOf i).toNat)
 case atStart => exact ⟨0, [], Nat.zero_le _, rfl, World.ownsRow_nil _ _ _ _, ⟨rfl, fun i v x h1 _ => by cases h1⟩, Below.refl _ _, fun _ => rfl⟩
 case round =>
  obtain ⟨k, vals, hk, rfl, hown, hvals, hb, h0⟩ := hrel
  obtain ⟨ao1, cap1, hform⟩ : ∃ ao1 cap1, u5 = .slice ao1 k cap1 := by
   rcases hown.2 with ⟨e1, e2⟩ | ⟨g, c, cur, e1, _⟩
   ·exact ⟨none, 0, by rw [e1, e2]⟩
   ·exact ⟨_, _, e1⟩
  subst hform
  have HOW := zz hown
  have HVL := zz hvals
  have HBL := zz hb
  have H0 := zz h0
  have hn := HN.out
  clear hown hvals hb h0
  by_cases hlt : k < zs.len
  ·obtain ⟨x, hkx⟩ : ∃ x, zs.toList[k]? = some x := ⟨_, List.getElem?_eq_getElem (by rw [HLL.out]; exact hlt)⟩
   obtain ⟨g, v, rfl, hcell, hxin⟩ := (HB0.out wr HBL.out).at hkx
   have hki : (k : Int) < (zs.len : Int) := by omega
   have hkii : (0 : Int) <= (k : Int) /\ (k : Int) < (zs.len : Int) := by omega
   have hw : IntKind.i64.wrap ((k : Int) + 1) = (k : Int) + 1 := IntWalk.i64_in _ (by omega)
   have hmem : x ∈ zs.toList := List.mem_of_getElem? hkx
   have HE := zz (yP (HA.out x hmem) wr v hxin)
   have HTK : Hid ((zs.toList.take (k + 1)).map aK = (zs.toList.take k).map aK ++ [aK x]) := zz (by rw [List.take_add_one, hkx, List.map_append]; rfl)
   have hlo := World.ownsRow.lt HOW.out
   have HLO := zz hlo
   clear hkx hxin hmem hlo
   go_wp2_with fail
   refine HE.out.mono ?_
   rintro e w2 ⟨u, rfl, hv, hb2⟩
   have HB2 := zz (HBL.out.trans (hb2.mono HBL.out.size))
   have HK2 : Hid (Keeps (fun b => wr.heap.size <= b) wr w2) := zz (Keeps.of_below (S := fun k => wr.heap.size <= k) hb2 (fun _ _ e => e))
   have hOW2 : w2.ownsRow w.heap.size 60 1 (.slice ao1 k cap1) k vals := HK2.out.row HOW.out (fun b e e2 => by have := (HLO.out b e).2; have h9 : wr.heap.size <= b := e2; omega)
   have HOW2 := zz hOW2
   have HV := zz hv
   have HSZ : Hid (w.heap.size <= w2.heap.size) := zz HB2.out.size
   clear hb2 hv hOW2
   go_wp2_with (at_builtin; refine qE rfl _ _ rfl _ w.heap.size _ k vals u HOW2.out rfl rfl (by omega) HSZ.out ?_; intro ao' cap' w3 hO3 hK3 hN3)
   have HO3 := zz hO3
   have HK3 := zz hK3
   have HN3 := zz hN3
   clear hO3 hK3 hN3
   go_wp2_with fail
   go_roundw
   case rel =>
    refine ⟨k + 1, vals ++ [.pointer u], by omega, by go_num, HO3.out, ?_, ?_, fun e => absurd e (by omega)⟩
    ·rw [HTK.out]
     have hsz2 := HK2.out.size
     have hblw := HBL.out.size
     refine ValsL.snoc ?_ ?_
     ·have h1 : ValsL w2 (fun b => w.heap.size <= b /\ (Value.slice ao1 k cap1).ownBlock ≠ some b /\ b < wr.heap.size) vals ((zs.toList.take k).map aK) := ValsL.keeps (ValsL.mono (fun b hb e => ⟨e.1, e.2, hb⟩) HVL.out) HK2.out (fun b e e2 => by have h9 : wr.heap.size <= b := e2; omega)
      exact ValsL.mono (fun b _ e => ⟨e.1, fun e4 => by
       rcases HN3.out b e4 with h | h
       ·exact e.2.1 h
       ·omega⟩) (ValsL.keeps h1 HK3.out (fun b e e2 => e.2.1 e2))
     ·have h1 : ExIn w2 (fun b => wr.heap.size <= b /\ b < w2.heap.size) (.pointer u) (aK x) := ExIn.mono (fun b hb e => ⟨e, hb⟩) _ _ HV.out
      exact ExIn.mono (fun b _ e => ⟨by have := e.1; omega, fun e4 => by
       rcases HN3.out b e4 with h | h
       ·have := (HLO.out b h).2; have := e.1; omega
       ·have := e.2; omega⟩) _ _ (h1.keeps HK3.out (fun b e e2 => by have := (HLO.out b e2).2; have := e.1; omega))
    ·exact HB2.out.trans (HK3.out.below HSZ.out (fun b _ e => by have := (HLO.out b e).1; omega))
   case measure => simp [intOf]; omega
  ·have hki : ¬ (k : Int) < (zs.len : Int) := by omega
   have hkk : k = zs.len := by omega
   subst hkk
   go_wp2_with fail
   go_ret
   refine ⟨_, rfl, ?_, HBL.out⟩
   have hfl : (aU zs).len = zs.len := by rw [<- nK, lK, List.length_map, HLL.out]
   refine CY (vs := vals) (by rw [hfl]; exact HOW.out) ?_ (fun e => H0.out (by rw [<- hfl]; exact e))
   rw [lK]
   have h1 := HVL.out
   rw [List.take_of_length_le (by rw [HLL.out]; exact Nat.le_refl _)] at h1
   exact ValsL.mono (fun b _ e => e.1) h1
theorem mF {k o : Nat} {v : Value} : Keeps (fun b => b = k) w (w.setCell ⟨k, o, none⟩ v) := (Keeps.refl (fun b : Nat => b = k) w).setCell (S := fun b : Nat => b = k) (p := ⟨k, o, none⟩) (Or.inl rfl) _
theorem fW {k o o' : Nat} {v v' : Value} : Keeps (fun b => b = k) w ((w.setCell ⟨k, o, none⟩ v).setCell ⟨k, o', none⟩ v') := mF.trans mF
theorem C0 : eJ .nil := by
 intro F w v hx
 have e : v = .pointer none := hx
 subst e
 clear hx
 unfold bI
 go_enter Tryz.func124, Tryz.ntmps124
 go_wp2_with fail
 go_ret
 exact ⟨_, rfl, by rw [aK]; rfl, Below.refl _ _⟩
theorem E8 {F : Nat -> Prop} {fb c a n op : Nat} {nm : Lx.B} {l r : Ex} {zs : Exs} {lv rv sv : Value} (hF : F fb) (d0 : w.cell? ⟨fb, 0, none⟩ = some (.int .i64 (c : Nat))) (d1 : w.cell? ⟨fb, 1, none⟩ = some (.int .i64 (a : Nat))) (d2 : w.cell? ⟨fb, 2, none⟩ = some (.int .i64 (n : Nat))) (d3 : w.cell? ⟨fb, 3, none⟩ = some (.string (mkT nm)))
  (d4 : w.cell? ⟨fb, 4, none⟩ = some (.int .i64 (op : Nat))) (d5 : w.cell? ⟨fb, 5, none⟩ = some lv) (d6 : w.cell? ⟨fb, 6, none⟩ = some rv) (d7 : w.cell? ⟨fb, 7, none⟩ = some sv) (hl : ExIn w F lv l) (hr : ExIn w F rv r) (hs : ArgsX w F sv zs) : ExIn w F (.pointer (some ⟨fb, 0, none⟩)) (.mk c a n op nm l r zs) :=
 ⟨fb, lv, rv, sv, rfl, hF, d0, d1, d2, d3, d4, d5, d6, d7, hl, hr, hs.1, hs.2⟩
theorem ArgsX.keeps {F S : Nat -> Prop} {av : Value} {zs : Exs} (h : ArgsX w F av zs) (hk : Keeps S w w') (hF : ∀ b, F b -> ¬ S b) : ArgsX w' F av zs := by
 refine ⟨h.1, fun g n c e => ?_⟩
 rcases h.1 with ⟨e2, _⟩ | ⟨g', c', e2, _, _, _, hg⟩
 ·rw [e] at e2; cases e2
 ·rw [e] at e2; cases e2
  exact ExsIn.keeps hk hF g hg 0 zs (h.2 g _ _ e)
theorem ArgsX.mono {F G : Nat -> Prop} (hF : ∀ b, b < w.heap.size -> F b -> G b) {av : Value} {zs : Exs} (h : ArgsX w F av zs) : ArgsX w G av zs := by
 refine ⟨?_, fun g n c e => ExsIn.mono hF g 0 zs (h.2 g n c e)⟩
 rcases h.1 with h1 | ⟨g, c, e, h1, h2, h3, hg⟩
 ·exact Or.inl h1
 ·refine Or.inr ⟨g, c, e, h1, h2, h3, hF g ?_ hg⟩
  cases zs with
  | nil => exact absurd h3 (Nat.lt_irrefl _)
  | cons x xs =>
   obtain ⟨⟨u, hc, _⟩, _⟩ := h.2 g _ _ e
   exact block_lt_of_cell hc
theorem E9 {c a n op : Nat} {nm : Lx.B} {l r : Ex} {zs : Exs} (hok : bB (.mk c a n op nm (aK l) (aK r) (aU zs))) (hL : eJ l) (hR : eJ r) (hA : ∀ x ∈ zs.toList, eJ x) (hsz : jJ zs <= 1000000) : eJ (.mk c a n op nm l r zs) := by
 intro F w v hx0
 have hx : ExIn w (fun b => b < w.heap.size) v (.mk c a n op nm l r zs) := ExIn.mono (fun b hb _ => hb) _ _ hx0
 clear hx0
 obtain ⟨bk, lv, rv, av, rfl, hbk, c0, c1, c2, c3, c4, c5, c6, c7, hl, hr, ha, has⟩ := hx
 obtain ⟨ql, rfl⟩ := aL hl
 obtain ⟨qr, rfl⟩ := aL hr
 have harg : ArgsX w (fun b => b < w.heap.size) av zs := ⟨ha, has⟩
 obtain ⟨ao, cap, rfl⟩ := harg.form
 have hbk' : bk < w.heap.size := hbk
 have HW : Hid (∀ W, Below w.heap.size w W -> ExIn W (fun b => b < w.heap.size) (.pointer ql) l /\ ExIn W (fun b => b < w.heap.size) (.pointer qr) r /\ ArgsX W (fun b => b < w.heap.size) (.slice ao zs.len cap) zs /\ W.cell? ⟨bk, 0, none⟩ = some (.int .i64 (c : Nat)) /\ W.cell? ⟨bk, 5, none⟩ = some (.pointer ql) /\ W.cell? ⟨bk, 6, none⟩ = some (.pointer qr) /\ W.cell? ⟨bk, 7, none⟩ = some (.slice ao zs.len cap)) := zz fun W hb => by
  have hk : Keeps (fun k => w.heap.size <= k) w W := Keeps.of_below (S := fun k => w.heap.size <= k) hb (fun _ _ e => e)
  have hn : ∀ b, b < w.heap.size -> ¬ w.heap.size <= b := fun b h1 h2 => by omega
  exact ⟨hl.keeps hk hn, hr.keeps hk hn, harg.keeps hk hn, hk.cell_of c0 (hn _ hbk'), hk.cell_of c5 (hn _ hbk'), hk.cell_of c6 (hn _ hbk'), hk.cell_of c7 (hn _ hbk')⟩
 have HL := zz hL
 have HR := zz hR
 have HA := zz hA
 have HSZ := zz hsz
 have HOK := zz hok
 have HBK := zz hbk'
 obtain ⟨w1, hw1⟩ : ∃ W, W = w.alloc (.cells #[.int .i64 (c : Nat), .int .i64 (a : Nat), .int .i64 (n : Nat), .string (mkT nm), .int .i64 (op : Nat), .pointer ql, .pointer qr, .slice ao zs.len cap] 64) := ⟨_, rfl⟩
 have HW1 := zz hw1
 have hz1 : w1.heap.size = w.heap.size + 1 := by rw [hw1]; simp
 have HZ1 := zz hz1
 have hB1 : Below w.heap.size w w1 := by rw [hw1]; exact cU w _ _
 have HB1 := zz hB1
 have HFB : Hid (w1.heap[w.heap.size]? = some (.cells #[.int .i64 (c : Nat), .int .i64 (a : Nat), .int .i64 (n : Nat), .string (mkT nm), .int .i64 (op : Nat), .pointer ql, .pointer qr, .slice ao zs.len cap] 64)) := zz (by rw [hw1]; exact heap_alloc_new w _)
 clear hl hr ha has harg hL hR hA hsz hok hbk hbk' hz1 hB1 hw1
 unfold bI
 have hfold : aK (.mk c a n op nm l r zs) = jQ (.mk c a n op nm (aK l) (aK r) (aU zs)) := by rw [aK]
 rw [hfold]
 clear hfold
 go_enter Tryz.func124, Tryz.ntmps124
 go_wp2_with fail
 rw [<- HW1.out]
 have b5 : w1.cell? ⟨bk, 5, none⟩ = some (.pointer ql) := (HW.out w1 HB1.out).2.2.2.2.1
 have b6 : w1.cell? ⟨bk, 6, none⟩ = some (.pointer qr) := (HW.out w1 HB1.out).2.2.2.2.2.1
 have hbd : Below w1.heap.size w1 w1.drew := Below.drew (Below.refl _ w1)
 have HE1 := zz (HL.out _ w1.drew _ (HW.out _ (HB1.out.trans (hbd.mono HB1.out.size))).1)
 unfold bI at HE1
 have HBD := zz hbd
 clear hbd c0 c1 c2 c3 c4 c5 c6 c7
 refine wp_region_held_drew (S := (fun W' : World => W'.cell? ⟨bk, 5, none⟩ = some (.pointer ql) /\ W'.cell? ⟨bk, 6, none⟩ = some (.pointer qr))) (by kernel_rfl) ⟨by simp only [World.cell?_drew]; assumption, by simp only [World.cell?_drew]; assumption⟩ (fun hHeld => ?_)
 refine tk 0 9 (.pointer (some ⟨bk, 0, none⟩)) rfl (.inl ⟨by rfl, ?_⟩) hHeld ?_
 ·intro W9 hSW; (try dsimp only at hSW); go_simp
 try simp only [Act.put, sA, sB, sC]
 refine tk 1 10 (.pointer (some ⟨bk, 0, none⟩)) rfl (.inl ⟨by rfl, ?_⟩) hHeld ?_
 ·intro W9 hSW; (try dsimp only at hSW); go_simp
 try simp only [Act.put, sA, sB, sC]
 refine tk 2 11 (.pointer (some ⟨bk, 5, none⟩)) rfl (.inl ⟨by rfl, ?_⟩) hHeld ?_
 ·intro W9 hSW; (try dsimp only at hSW); go_simp
 try simp only [Act.put, sA, sB, sC]
 refine tk 3 12 (.pointer ql) rfl (.inl ⟨by rfl, ?_⟩) hHeld ?_
 ·intro W9 hSW; (try dsimp only at hSW); go_simp
 try simp only [Act.put, sA, sB, sC]
 refine tk 5 14 (.pointer (some ⟨bk, 0, none⟩)) rfl (.inl ⟨by rfl, ?_⟩) hHeld ?_
 ·intro W9 hSW; (try dsimp only at hSW); go_simp
 try simp only [Act.put, sA, sB, sC]
 refine tk 6 15 (.pointer (some ⟨bk, 0, none⟩)) rfl (.inl ⟨by rfl, ?_⟩) hHeld ?_
 ·intro W9 hSW; (try dsimp only at hSW); go_simp
 try simp only [Act.put, sA, sB, sC]
 refine tk 7 16 (.pointer (some ⟨bk, 6, none⟩)) rfl (.inl ⟨by rfl, ?_⟩) hHeld ?_
 ·intro W9 hSW; (try dsimp only at hSW); go_simp
 try simp only [Act.put, sA, sB, sC]
 refine tk 8 17 (.pointer qr) rfl (.inl ⟨by rfl, ?_⟩) hHeld ?_
 ·intro W9 hSW; (try dsimp only at hSW); go_simp
 try simp only [Act.put, sA, sB, sC]
 refine ra 4 (some 13) rfl fun K hK => ?_
 go_simp
 go_at_call 124
 refine HE1.out.mono ?_
 rintro e w2 ⟨v1, rfl, hv1, hb2⟩
 obtain ⟨u1, rfl⟩ := aL hv1
 have HB2 : Hid (Below w1.heap.size w1 w2) := zz (HBD.out.trans (hb2.mono HBD.out.size))
 have HBW2 := zz (HB1.out.trans (HB2.out.mono HB1.out.size))
 have HV1 : Hid (ExIn w2 (fun b => w1.heap.size <= b) (.pointer u1) (aK l)) := zz hv1
 have d5 := (HW.out w2 HBW2.out).2.2.2.2.1
 have d6 := (HW.out w2 HBW2.out).2.2.2.2.2.1
 have HE2 := zz (HR.out _ w2 _ (HW.out w2 HBW2.out).2.1)
 unfold bI at HE2
 clear hv1 hb2 b5 b6
 refine hK.out _ _ ⟨d5, d6⟩ (fun hHeld => ?_)
 clear hK K
 refine ra 9 (some 18) rfl fun K hK => ?_
 go_simp
 go_at_call 124
 refine HE2.out.mono ?_
 rintro e w3 ⟨v2, rfl, hv2, hb3⟩
 obtain ⟨u2, rfl⟩ := aL hv2
 have HB3 : Hid (Below w1.heap.size w1 w3) := zz (HB2.out.trans (hb3.mono HB2.out.size))
 have HBW3 := zz (HB1.out.trans (HB3.out.mono HB1.out.size))
 have HV2 : Hid (ExIn w3 (fun b => w1.heap.size <= b) (.pointer u2) (aK r)) := zz (ExIn.mono (fun b _ e => Nat.le_trans HB2.out.size e) _ _ hv2)
 have HV1' : Hid (ExIn w3 (fun b => w1.heap.size <= b) (.pointer u1) (aK l)) := zz (ExIn.mono (fun _ _ e => e.1) _ _ (ExIn.keeps (ExIn.mono (G := fun b => w1.heap.size <= b /\ b < w2.heap.size) (fun b h1 h2 => ⟨h2, h1⟩) _ _ HV1.out) (Keeps.of_below (S := fun k => w2.heap.size <= k) hb3 (fun _ _ e => e)) (fun b e e2 => by have h9 : w2.heap.size <= b := e2; have := e.2; omega)))
 have f5 := (HW.out w3 HBW3.out).2.2.2.2.1
 have f6 := (HW.out w3 HBW3.out).2.2.2.2.2.1
 have hfb : w3.heap[w.heap.size]? = w1.heap[w.heap.size]? := HB3.out.block w.heap.size (by rw [HZ1.out]; omega)
 rw [HFB.out] at hfb
 have HFB3 := zz hfb
 have g5 : w3.cell? ⟨w.heap.size, 5, none⟩ = some (.pointer ql) := by rw [Lib.cell_of_heap hfb]; rfl
 have g6 : w3.cell? ⟨w.heap.size, 6, none⟩ = some (.pointer qr) := by rw [Lib.cell_of_heap hfb]; rfl
 have z5 : w3.frozen? ⟨w.heap.size, 5, none⟩ = false := by rw [HB3.out.frozen (p := ⟨w.heap.size, 5, none⟩) (by rw [HZ1.out]; exact Nat.lt_succ_self _), HW1.out]; exact World.frozen?_alloc_new _ _ _ _
 have z6 : w3.frozen? ⟨w.heap.size, 6, none⟩ = false := by rw [HB3.out.frozen (p := ⟨w.heap.size, 6, none⟩) (by rw [HZ1.out]; exact Nat.lt_succ_self _), HW1.out]; exact World.frozen?_alloc_new _ _ _ _
 clear hv2 hb3 hfb
 refine hK.out _ _ ⟨f5, f6⟩ (fun hHeld => ?_)
 clear hK K
 have hbk1 := HBK.out
 have n5 : (⟨w.heap.size, 5, none⟩ : Addr).block ≠ (⟨bk, 5, none⟩ : Addr).block := fun e => by have h9 : w.heap.size = bk := e; omega
 have n5b : (⟨w.heap.size, 5, none⟩ : Addr).block ≠ (⟨bk, 6, none⟩ : Addr).block := fun e => by have h9 : w.heap.size = bk := e; omega
 have n6 : (⟨w.heap.size, 6, none⟩ : Addr).block ≠ (⟨bk, 5, none⟩ : Addr).block := fun e => by have h9 : w.heap.size = bk := e; omega
 have n6b : (⟨w.heap.size, 6, none⟩ : Addr).block ≠ (⟨bk, 6, none⟩ : Addr).block := fun e => by have h9 : w.heap.size = bk := e; omega
 clear hbk1
 refine tk 10 19 (.pointer (some ⟨w.heap.size, 5, none⟩)) rfl (.inl ⟨by rfl, ?_⟩) hHeld ?_
 ·intro W9 hSW; (try dsimp only at hSW); go_simp
 try simp only [Act.put, sA, sB, sC]
 refine ra 11 none rfl fun K hK => ?_
 go_simp
 have s5 : (w3.setCell ⟨w.heap.size, 5, none⟩ (.pointer u1)).cell? ⟨bk, 5, none⟩ = some (.pointer ql) := by rw [World.cell?_setCell_far _ _ _ _ n5]; exact f5
 have s6 : (w3.setCell ⟨w.heap.size, 5, none⟩ (.pointer u1)).cell? ⟨bk, 6, none⟩ = some (.pointer qr) := by rw [World.cell?_setCell_far _ _ _ _ n5b]; exact f6
 have t6 : (w3.setCell ⟨w.heap.size, 5, none⟩ (.pointer u1)).cell? ⟨w.heap.size, 6, none⟩ = some (.pointer qr) := by rw [World.cell?_setCell_other _ _ _ _ (fun e => by injection e with _ e _; cases e)]; exact g6
 refine hK.out _ _ ⟨s5, s6⟩ (fun hHeld => ?_)
 clear hK K
 refine tk 12 20 (.pointer (some ⟨w.heap.size, 6, none⟩)) rfl (.inl ⟨by rfl, ?_⟩) hHeld ?_
 ·intro W9 hSW; (try dsimp only at hSW); go_simp
 try simp only [Act.put, sA, sB, sC]
 refine ra 13 none rfl fun K hK => ?_
 go_simp
 refine hK.out _ _ ⟨by rw [World.cell?_setCell_far _ _ _ _ n6]; exact s5, by rw [World.cell?_setCell_far _ _ _ _ n6b]; exact s6⟩ (fun hHeld => ?_)
 clear hK K
 refine wpAnyH_done (by kernel_rfl) ?_ _
 obtain ⟨w4, hw4⟩ : ∃ W, W = (w3.setCell ⟨w.heap.size, 5, none⟩ (.pointer u1)).setCell ⟨w.heap.size, 6, none⟩ (.pointer u2) := ⟨_, rfl⟩
 rw [<- hw4]
 have hk4 : Keeps (fun b => b = w.heap.size) w3 w4 := by rw [hw4]; exact fW
 have hB4 : Below w.heap.size w w4 := HBW3.out.trans (hk4.below (by have := HBW3.out.size; omega) (fun k _ e => by have h9 : k = w.heap.size := e; omega))
 have HBW4 := zz hB4
 have hz4 : w.heap.size < w4.heap.size := Nat.lt_of_lt_of_le (by rw [HZ1.out]; exact Nat.lt_succ_self _) (Nat.le_trans HB3.out.size hk4.size)
 have m5 : w4.cell? ⟨w.heap.size, 5, none⟩ = some (.pointer u1) := by rw [hw4, World.cell?_setCell_other _ _ _ _ (fun e => by injection e with _ e _; cases e)]; exact World.cell?_setCell_same _ _ _ g5
 have m6 : w4.cell? ⟨w.heap.size, 6, none⟩ = some (.pointer u2) := by rw [hw4]; exact World.cell?_setCell_same _ _ _ t6
 have ho : ∀ (o : Nat) (v : Value), o ≠ 5 -> o ≠ 6 -> w3.cell? ⟨w.heap.size, o, none⟩ = some v -> w4.cell? ⟨w.heap.size, o, none⟩ = some v := fun o v h1 h2 h => by
  rw [hw4, World.cell?_setCell_other _ _ _ _ (fun e => by injection e with _ e _; exact h2 e.symm), World.cell?_setCell_other _ _ _ _ (fun e => by injection e with _ e _; exact h1 e.symm)]; exact h
 have hc3 : ∀ (o : Nat), w3.cell? ⟨w.heap.size, o, none⟩ = (#[Value.int .i64 (c : Nat), .int .i64 (a : Nat), .int .i64 (n : Nat), .string (mkT nm), .int .i64 (op : Nat), .pointer ql, .pointer qr, .slice ao zs.len cap] : Array Value)[o]? := fun o => Lib.cell_of_heap HFB3.out o
 have m0 := ho 0 _ (by decide) (by decide) (hc3 0)
 have m1 := ho 1 _ (by decide) (by decide) (hc3 1)
 have m2 := ho 2 _ (by decide) (by decide) (hc3 2)
 have m3 := ho 3 _ (by decide) (by decide) (hc3 3)
 have m4 := ho 4 _ (by decide) (by decide) (hc3 4)
 have m7 := ho 7 _ (by decide) (by decide) (hc3 7)
 have z7 : w4.frozen? ⟨w.heap.size, 7, none⟩ = false := by
  rw [hw4, World.frozen?_setCell, World.frozen?_setCell, HB3.out.frozen (p := ⟨w.heap.size, 7, none⟩) (by rw [HZ1.out]; exact Nat.lt_succ_self _), HW1.out]; exact World.frozen?_alloc_new _ _ _ _
 have HM : Hid (w4.cell? ⟨w.heap.size, 0, none⟩ = some (.int .i64 (c : Nat)) /\ w4.cell? ⟨w.heap.size, 1, none⟩ = some (.int .i64 (a : Nat)) /\ w4.cell? ⟨w.heap.size, 2, none⟩ = some (.int .i64 (n : Nat)) /\ w4.cell? ⟨w.heap.size, 3, none⟩ = some (.string (mkT nm)) /\ w4.cell? ⟨w.heap.size, 4, none⟩ = some (.int .i64 (op : Nat)) /\ w4.cell? ⟨w.heap.size, 5, none⟩ = some (.pointer u1) /\ w4.cell? ⟨w.heap.size, 6, none⟩ = some (.pointer u2)) := zz ⟨m0, m1, m2, m3, m4, m5, m6⟩
 have hv14 : ExIn w4 (fun b => w1.heap.size <= b) (.pointer u1) (aK l) := HV1'.out.keeps hk4 (fun b e e2 => by have h9 : b = w.heap.size := e2; have h8 : w1.heap.size <= b := e; have := HZ1.out; omega)
 have hv24 : ExIn w4 (fun b => w1.heap.size <= b) (.pointer u2) (aK r) := HV2.out.keeps hk4 (fun b e e2 => by have h9 : b = w.heap.size := e2; have h8 : w1.heap.size <= b := e; have := HZ1.out; omega)
 have HX14 := zz hv14
 have HX24 := zz hv24
 have HZ4 := zz hz4
 have x7 := (HW.out w4 hB4).2.2.2.2.2.2
 have HEA := zz (CZ HA.out HSZ.out w4 _ (HW.out w4 hB4).2.2.1 (fun b hb => Nat.lt_of_lt_of_le hb hB4.size))
 have HM7 := zz m7
 have HZ7 := zz z7
 clear hw4 hk4 hB4 hz4 m0 m1 m2 m3 m4 m5 m6 m7 z7 ho hc3 hv14 hv24 s5 s6 t6 n5 n5b n6 n6b f5 f6 g5 g6 z5 z6 hHeld d5 d6
 go_wp2_with fail
 refine HEA.out.mono ?_
 rintro e w5 ⟨sv, rfl, hsv, hb5⟩
 obtain ⟨so, sc, rfl⟩ := hsv.form
 have y7 : w5.cell? ⟨w.heap.size, 7, none⟩ = some (.slice ao zs.len cap) := by rw [hb5.cell (p := ⟨w.heap.size, 7, none⟩) HZ4.out]; exact HM7.out
 have yz : w5.frozen? ⟨w.heap.size, 7, none⟩ = false := by rw [hb5.frozen (p := ⟨w.heap.size, 7, none⟩) HZ4.out]; exact HZ7.out
 have HB5 := zz hb5
 have HSV := zz hsv
 have HBW5 := zz (HBW4.out.trans (hb5.mono HBW4.out.size))
 clear hb5 hsv
 have hks : Keeps (fun b => b = w.heap.size) w5 (w5.setCell ⟨w.heap.size, 7, none⟩ (.slice so (aU zs).len sc)) := mF
 have hB6 : Below w.heap.size w (w5.setCell ⟨w.heap.size, 7, none⟩ (.slice so (aU zs).len sc)) := HBW5.out.trans (hks.below (by have := HBW5.out.size; omega) (fun k _ e => by have h9 : k = w.heap.size := e; omega))
 have q0 := (HW.out _ hB6).2.2.2.1
 have hm5 : ∀ (o : Nat) (v : Value), o ≠ 7 -> w4.cell? ⟨w.heap.size, o, none⟩ = some v -> (w5.setCell ⟨w.heap.size, 7, none⟩ (.slice so (aU zs).len sc)).cell? ⟨w.heap.size, o, none⟩ = some v := fun o v h1 h => by
  rw [World.cell?_setCell_other _ _ _ _ (fun e => by injection e with _ e _; exact h1 e.symm), HB5.out.cell (p := ⟨w.heap.size, o, none⟩) HZ4.out]; exact h
 have hup : ∀ (v : Value) (x : Ex), ExIn w4 (fun b => w1.heap.size <= b) v x -> ExIn (w5.setCell ⟨w.heap.size, 7, none⟩ (.slice so (aU zs).len sc)) (fun b => w.heap.size <= b) v x := fun v x h =>
  ExIn.mono (fun b _ e => by have h8 : w1.heap.size <= b := e; have := HZ1.out; omega) _ _ (ExIn.keeps (h.grow HB5.out) hks (fun b e e2 => by have h9 : b = w.heap.size := e2; have h8 : w1.heap.size <= b := e; have := HZ1.out; omega))
 have hnode : ExIn (w5.setCell ⟨w.heap.size, 7, none⟩ (.slice so (aU zs).len sc)) (fun b => w.heap.size <= b) (.pointer (some ⟨w.heap.size, 0, none⟩)) (.mk c a n op nm (aK l) (aK r) (aU zs)) :=
  E8 (Nat.le_refl _) (hm5 0 _ (by decide) HM.out.1) (hm5 1 _ (by decide) HM.out.2.1) (hm5 2 _ (by decide) HM.out.2.2.1) (hm5 3 _ (by decide) HM.out.2.2.2.1) (hm5 4 _ (by decide) HM.out.2.2.2.2.1) (hm5 5 _ (by decide) HM.out.2.2.2.2.2.1) (hm5 6 _ (by decide) HM.out.2.2.2.2.2.2) (World.cell?_setCell_same _ _ _ y7)
   (hup _ _ HX14.out) (hup _ _ HX24.out) (ArgsX.mono (fun b _ e => Nat.le_trans (Nat.le_of_lt HZ4.out) e) (HSV.out.keeps hks (fun b e e2 => by have h9 : b = w.heap.size := e2; have h8 : w4.heap.size <= b := e; have := HZ4.out; omega)))
 have HND := zz hnode
 have HB6 := zz hB6
 have hsz6 : w.heap.size <= (w5.setCell ⟨w.heap.size, 7, none⟩ (.slice so (aU zs).len sc)).heap.size := hB6.size
 by_cases h5 : c = 5
 ·subst h5
  have HT := zz (LD HOK.out _ hsz6 hnode)
  unfold bI at HT
  have HE : Hid (jQ (.mk 5 a n op nm (aK l) (aK r) (aU zs)) = p6 (.mk 5 a n op nm (aK l) (aK r) (aU zs))) := zz (if_pos rfl)
  clear hnode hB6 hsz6 hup hm5 hks
  go_wp2_with fail
  refine HT.out.mono ?_
  rintro e w7 ⟨v7, rfl, hv7, hb7⟩
  go_wp2_with fail
  go_ret
  exact ⟨_, rfl, by rw [HE.out]; exact hv7, HB6.out.trans (hb7.mono HB6.out.size)⟩
 have e5 : ((c : Int) == 5) = false := beq_eq_false_iff_ne.2 (by omega)
 by_cases h6 : c = 6
 ·subst h6
  have HT := zz (LE HOK.out _ hsz6 hnode)
  unfold bI at HT
  have HE : Hid (jQ (.mk 6 a n op nm (aK l) (aK r) (aU zs)) = oB (.mk 6 a n op nm (aK l) (aK r) (aU zs))) := zz rfl
  clear hnode hB6 hsz6 hup hm5 hks h5
  go_wp2_with fail
  refine HT.out.mono ?_
  rintro e w7 ⟨v7, rfl, hv7, hb7⟩
  go_wp2_with fail
  go_ret
  exact ⟨_, rfl, by rw [HE.out]; exact hv7, HB6.out.trans (hb7.mono HB6.out.size)⟩
 have e6 : ((c : Int) == 6) = false := beq_eq_false_iff_ne.2 (by omega)
 have HE : Hid (jQ (.mk c a n op nm (aK l) (aK r) (aU zs)) = .mk c a n op nm (aK l) (aK r) (aU zs)) := zz (by unfold jQ; exact (if_neg h5).trans (if_neg h6))
 clear hnode hB6 hsz6 hup hm5 hks h5 h6
 go_wp2_with fail
 go_ret
 exact ⟨_, rfl, by rw [HE.out]; exact HND.out, HB6.out⟩
end Go.Proofs.YtnpapppipccdbaaGreatDoor
namespace Go.Proofs.YtnpapppipccdbaaGreatDoor
open Go.RowKit Lx Tr
theorem A4 (b : Bool) (a : Nat) : bB (k9 b a) := by
 unfold k9
 simp only [bB, kZ, and_true]
 split <;> omega
theorem IZ {n : Int} (a : Nat) (h : I64 n) (h0 : n ≠ -9223372036854775808) : bB (lF n a) := by
 unfold I64 at h
 unfold lF
 split <;> simp only [bB, kZ, and_true] <;> omega
theorem wC {x : Ex} (hok : bB x) {n : Int} (h : I64 n) : bB (eT x n) := by
 unfold eT
 split
 ·exact hok
 ·rename_i h0; exact IZ _ h h0
theorem L2 {x : Ex} (h : bB x) : bB x.l := by
 cases x with
 | nil => exact h
 | mk c a n op nm l r zs => exact h.2.1
theorem L3 {x : Ex} (h : bB x) : bB x.r := by
 cases x with
 | nil => exact h
 | mk c a n op nm l r zs => exact h.2.2.1
theorem C1 {x : Ex} {k : Int} (hok : bB x) (h : bH x = some k) : I64 k := by
 unfold I64
 cases x with
 | nil => unfold bH at h; rw [if_neg (by decide), if_neg (fun e => absurd e.1 (by decide))] at h; cases h
 | mk c a n op nm l r zs =>
  have h1 : n <= 9223372036854775807 := hok.1
  have h2 : bB l := hok.2.1
  rw [gR] at h
  split at h
  ·have := Option.some.inj h
   omega
  ·split at h
   ·have h4 := Option.some.inj h
    have h5 : l.n <= 9223372036854775807 := by
     cases l with
     | nil => exact Nat.zero_le _
     | mk c' a' n' _ _ _ _ _ => exact h2.1
    omega
   ·cases h
theorem KL {x : Ex} (hok : bB x) : bB (jQ x) := by
 have hl := L2 hok
 have hr := L3 hok
 unfold jQ
 split
 ·unfold p6 dM lG kX
  split
  ·split
   ·split
    ·exact hr
    ·exact hl
   ·split
    ·split
     ·exact hl
     ·exact hok
    ·exact hok
  ·split
   ·split
    ·split
     ·exact hr
     ·exact hl
    ·split
     ·split
      ·exact hl
      ·exact hok
     ·exact hok
   ·split
    ·split
     ·rename_i a b hka hkb
      split
      ·split
       ·exact A4 _ _
       ·exact wC hok (wA _ _ (C1 hl hka))
      ·exact hok
     ·split
      ·exact hl
      ·exact hok
     ·split
      ·exact hr
      ·exact hok
     ·exact hok
    ·exact hok
 ·split
  ·unfold oB
   split
   ·exact hok
   ·split
    ·exact A4 _ _
    ·split
     ·exact wC hok (A0 _ _)
     ·exact hok
  ·exact hok
mutual
theorem gH : ∀ x : Ex, bB x -> bB (aK x)
 | .nil, h => h
 | .mk c a n op nm l r zs, h => by
  rw [aK]
  exact KL ⟨h.1, gH l h.2.1, gH r h.2.2.1, oI zs h.2.2.2⟩
theorem oI : ∀ xs : Exs, kZ xs -> kZ (aU xs)
 | .nil, h => h
 | .cons x xs, h => by
  rw [aU]
  exact ⟨gH x h.1, oI xs h.2⟩
end
end Go.Proofs.YtnpapppipccdbaaGreatDoor
namespace Go.Proofs.YtnpapppipccdbaaGreatDoor
open Go.RowKit Lx Tr
variable {w w' : World}
mutual
theorem gS : ∀ x : Ex, bB x -> szE x <= 1000000 -> eJ x
 | .nil, _, _ => C0
 | .mk c a n op nm l r zs, h, hz => by
  rw [szE] at hz
  exact E9 ⟨h.1, gH l h.2.1, gH r h.2.2.1, oI zs h.2.2.2⟩ (gS l h.2.1 (by omega)) (gS r h.2.2.1 (by omega)) (qF zs h.2.2.2 (by omega)) (by omega)
theorem qF : ∀ xs : Exs, kZ xs -> jJ xs <= 1000000 -> ∀ x ∈ xs.toList, eJ x
 | .nil, _, _, x, hx => by cases hx
 | .cons y ys, h, hz, x, hx => by
  rw [jJ] at hz
  rcases List.mem_cons.1 hx with e | e
  ·rw [e]; exact gS y h.1 (by omega)
  ·exact qF ys h.2 (by omega) x e
end
end Go.Proofs.YtnpapppipccdbaaGreatDoor
namespace Go.Proofs.YtnpapppipccdbaaGreatDoor
open Go.RowKit Lx Tr
variable {w w' : World} {rb n d dd : Nat} {tv : Value} {E : Env}
theorem FA {dep : Nat} (hT : E5 rb tv E dep 1 dd) : kY rb tv E dep dd := by
 intro n w h hE
 have HT := zz (hT n w h hE)
 clear hT h hE
 go_enter Tryz.func291, Tryz.ntmps291
 go_wp2_with fail
 refine HT.out.mono ?_
 rintro e w1 ⟨r, hev, hsay⟩
 cases r with
 | out => exact hsay.elim
 | bad k a =>
  have hsay' : Threw w w1 rb k a e := hsay
  obtain ⟨b, rfl⟩ := aB hsay'
  exact ⟨rfl, .bad k a, hev, hsay'⟩
 | ok x m =>
  obtain ⟨v, rfl, hx, hr, hk⟩ := hsay
  go_wp2_with fail
  go_ret
  exact ⟨.ok x m, hev, v, rfl, hx, hr, hk⟩
def A5 (rb : Nat) (tv : Value) (E : Env) (dep d : Nat) : Prop :=
 ∀ (t : Tok) (n : Nat) (w : World), RdAt w rb tv E n dep -> TEnv rb E w -> Calls Tryz.prog 292 #[.pointer (some ⟨rb, 0, none⟩), aR t, .int .i64 (d : Nat)] w fun e w' => ∃ r, Ev (fun f => call E f d t n) r /\ bL ExV w w' rb tv E dep r e
theorem C2 {dep : Nat} (hC : A5 rb tv E dep dd) (w : World) (h : RdAt w rb tv E n dep) (hE : TEnv rb E w) (hk : (pk E n).kind = 1) : Calls Tryz.prog 317 #[.pointer (some ⟨rb, 0, none⟩), .int .i64 (dd : Nat)] w fun e w' =>
  ∃ r, Ev (fun f => named E f dd n) r /\ bL ExV w w' rb tv E dep r e := by
 have HTK := zz (aX 1 (by decide) w h)
 have hv : aF E 1 n = .ok (pk E n) (n + 1) := by unfold aF; rw [if_pos hk]
 rw [hv] at HTK
 have H0 := zz h
 have HE := zz hE
 have HC := zz hC
 have HLT := zz h.lt
 have e40 : (⟨#[40]⟩ : ByteArray).data.toList = tLp := rfl
 clear h hE hk hv hC
 unfold bL jL aR at HTK
 simp only at HTK
 obtain ⟨tk, htk⟩ : ∃ tk, tk = pk E n := ⟨_, rfl⟩
 rw [<- htk] at HTK
 have HTKE := zz htk
 clear htk
 have hTK := HTK.out
 obtain ⟨T, hT⟩ : ∃ T, T = mkT tk.text := ⟨_, rfl⟩
 have HTX := zz hT
 rw [<- hT] at hTK
 have HTK2 := zz hTK
 clear hT hTK HTK
 go_enter Tryz.func317, Tryz.ntmps317
 go_wp2_with fail
 refine HTK2.out.mono ?_
 rintro e w1 ⟨v, rfl, rfl, hr1, hk1⟩
 have HR1 := zz hr1
 have HK1 := zz hk1
 clear hr1 hk1
 have hb2 : Below w1.heap.size w1 (w1.alloc (.cells #[.int .i64 tk.kind, .string T, .int .i64 tk.at_] 110)) := (Below.refl _ _).alloc (Nat.le_refl _) _
 have HIS := fP ⟨#[40]⟩ _ (HR1.out.fresh hb2)
 rw [e40] at HIS
 have HI := zz HIS
 have HB2 := zz hb2
 clear HIS hb2
 by_cases hc : (pk E (n + 1)).text = tLp
 ·rw [decide_eq_true hc] at HI
  have HC1 := zz hc
  clear hc
  go_wp2_with (go_at_call 110; refine HI.out.mono ?_; rintro e w3 ⟨rfl, hb3⟩; have p := (eZ w1 tk.kind tk.at_ T 110).fresh hb3; have p0 := p.c0; have p1 := p.c1; have p2 := p.c2; clear p)
  have hr3 := (HR1.out.fresh HB2.out).fresh hb3
  have hk3 : Keeps (fun b => b = rb) w w3 := HK1.out.trans (Keeps.of_new (HB2.out.trans (hb3.mono HB2.out.size)))
  have hcall := HC.out tk (n + 1) w3 hr3 (HE.out.own hk3)
  unfold aR at hcall
  rw [<- HTX.out] at hcall
  refine hcall.mono ?_
  rintro e w4 ⟨r, hev, hsay⟩
  have HEV : Hid (Ev (fun f => named E f dd n) r) := zz (Ev.step (fun f => by rw [hU, if_pos HC1.out, <- HTKE.out]) hev)
  have HK3 := zz hk3
  clear hcall hr3 hk3 hb3 hev p0 p1 p2
  cases r with
  | out => exact hsay.elim
  | bad k a =>
   have hsay' : Threw w3 w4 rb k a e := hsay
   obtain ⟨b, rfl⟩ := aB hsay'
   exact ⟨rfl, .bad k a, HEV.out, hsay'.own HLT.out HK3.out⟩
  | ok x m =>
   obtain ⟨v, rfl, hx, hr, hk⟩ := hsay
   go_wp2_with fail
   go_ret
   exact ⟨.ok x m, HEV.out, v, rfl, hx.of HK3.out.size, hr, HK3.out.trans hk⟩
 ·rw [decide_eq_false hc] at HI
  have HEV : Hid (Ev (fun f => named E f dd n) (.ok (leaf 4 tk.at_ 0 tk.text) (n + 1))) := zz (Ev.now (fun e => by cases e) fun f => by rw [hU, if_neg hc, <- HTKE.out])
  clear hc
  go_wp2_with (go_at_call 110; refine HI.out.mono ?_; rintro e w3 ⟨rfl, hb3⟩; have p := (eZ w1 tk.kind tk.at_ T 110).fresh hb3; have p0 := p.c0; have p1 := p.c1; have p2 := p.c2; clear p)
  go_ret
  have hk3 : Keeps (fun b => b = rb) w w3 := HK1.out.trans (Keeps.of_new (HB2.out.trans (hb3.mono HB2.out.size)))
  refine ⟨_, HEV.out, _, rfl, ?_, (((HR1.out.fresh HB2.out).fresh hb3)).fresh ((Below.refl _ _).alloc (Nat.le_refl _) _), hk3.alloc _⟩
  have hl := vV w3 4 tk.at_ 0 tk.text 64 (F := fun b => w.heap.size <= b) hk3.size
  rw [<- HTX.out] at hl
  exact hl
theorem fQ (f d n : Nat) : Tr.one E (f + 1) d n =
  if 12 < d then fail E 4 n
  else if (pk E n).kind = 3 then .ok (leaf 1 (pk E n).at_ (dY (pk E n).text) []) (n + 1)
  else if (pk E n).kind = 1 then named E f d n
  else if (pk E n).text = tLp then bracketed E f d n
  else if (pk E n).text = [45] \/ (pk E n).text = [94] \/ (pk E n).text = [33] then (Tr.one E f (d + 1) (n + 1)).bind fun x m => .ok (.mk 6 (pk E n).at_ 0 (jP (pk E n).text) [] x .nil .nil) m
  else if (pk E n).text = aM then (Tr.one E f (d + 1) (n + 1)).bind fun x m => .ok (.mk 10 (pk E n).at_ 0 0 [] x .nil .nil) m
  else if (pk E n).text = dZ then (bracketed E f d (n + 1)).bind fun x m => .ok (.mk 8 (pk E n).at_ 0 0 [] x .nil .nil) m
  else if (pk E n).text = iR then (bracketed E f d (n + 1)).bind fun x m => .ok (.mk 9 (pk E n).at_ 0 0 [] x .nil .nil) m
  else if (pk E n).text = eY then .ok (leaf 2 (pk E n).at_ 1 []) (n + 1)
  else if (pk E n).text = cW then .ok (leaf 2 (pk E n).at_ 0 []) (n + 1)
  else if (pk E n).text = iS then .ok (leaf 3 (pk E n).at_ 0 []) (n + 1)
  else fail E 3 n := by rw [Tr.one]
theorem C3 {dep : Nat} (hd : 12 < dd) : oH rb tv E dep dd := by
 intro n w h hE
 have HF := zz (dC 4 w h)
 have hi : ¬ ((dd : Int) <= 12) := by omega
 have hi2 : (12 : Int) < (dd : Int) := by omega
 have HEV : Hid (Ev (fun f => Tr.one E f dd n) (.bad 4 (pk E n).at_)) := zz (Ev.now (fun e => by cases e) fun f => by rw [fQ, if_pos hd]; rfl)
 clear h hE hd
 go_enter Tryz.func311, Tryz.ntmps311
 go_wp2_with fail
 refine HF.out.mono ?_
 rintro e w1 ht
 have ht2 := ht
 obtain ⟨b, rfl⟩ := aB ht
 exact ⟨rfl, _, HEV.out, ht2⟩
theorem FB {dep : Nat} (hd : dd <= 12) (w : World) (h : RdAt w rb tv E n dep) (hE : TEnv rb E w) (hk : (pk E n).kind = 3) : Calls Tryz.prog 311 #[.pointer (some ⟨rb, 0, none⟩), .int .i64 (dd : Nat)] w fun e w' =>
  ∃ r, Ev (fun f => Tr.one E f dd n) r /\ bL ExV w w' rb tv E dep r e := by
 have HP := zz (aN w h)
 have HN : Hid (∀ W, Below w.heap.size w W -> Calls Tryz.prog 316 #[.pointer (some ⟨rb, 0, none⟩)] W fun e w' => bL ExV W w' rb tv E dep (.ok (leaf 1 (pk E n).at_ (dY (pk E n).text) []) (n + 1)) e) :=
  zz fun W hb => yM W (h.fresh hb) (hE.fresh hb) hk
 have HEV : Hid (Ev (fun f => Tr.one E f dd n) (.ok (leaf 1 (pk E n).at_ (dY (pk E n).text) []) (n + 1))) := zz (Ev.now (fun e => by cases e) fun f => by rw [fQ, if_neg (by omega), if_pos hk])
 have hi : (dd : Int) <= 12 := by omega
 have hki : ((pk E n).kind : Int) = 3 := by omega
 clear h hE hk hd
 unfold aR at HP
 rw [hki] at HP
 generalize mkT (pk E n).text = T at *
 have hf := aV
 go_enter Tryz.func311, Tryz.ntmps311
 go_wp2_with (go_at_call 153; refine HP.out.mono ?_; rintro e w1 ⟨rfl, hb1⟩)
 refine (HN.out w1 hb1).mono ?_
 rintro e w2 ⟨v, rfl, hx, hr, hk2⟩
 go_wp2_with fail
 go_ret
 exact ⟨_, HEV.out, v, rfl, hx.of hb1.size, hr, (Keeps.of_new hb1).trans hk2⟩
theorem C4 {dep : Nat} (hd : dd <= 12) (hC : A5 rb tv E dep dd) (w : World) (h : RdAt w rb tv E n dep) (hE : TEnv rb E w) (hk : (pk E n).kind = 1) : Calls Tryz.prog 311 #[.pointer (some ⟨rb, 0, none⟩), .int .i64 (dd : Nat)] w fun e w' =>
  ∃ r, Ev (fun f => Tr.one E f dd n) r /\ bL ExV w w' rb tv E dep r e := by
 have HP := zz (aN w h)
 have HN : Hid (∀ W, Below w.heap.size w W -> Calls Tryz.prog 317 #[.pointer (some ⟨rb, 0, none⟩), .int .i64 (dd : Nat)] W fun e w' => ∃ r, Ev (fun f => named E f dd n) r /\ bL ExV W w' rb tv E dep r e) :=
  zz fun W hb => C2 hC W (h.fresh hb) (hE.fresh hb) hk
 have HEV : Hid (∀ r, Ev (fun f => named E f dd n) r -> Ev (fun f => Tr.one E f dd n) r) := zz fun r hr => Ev.step (fun f => by rw [fQ, if_neg (by omega), if_neg (by omega), if_pos hk]) hr
 have hi : (dd : Int) <= 12 := by omega
 have hki : ((pk E n).kind : Int) = 1 := by omega
 have hlt := zz h.lt
 clear h hE hk hd hC
 unfold aR at HP
 rw [hki] at HP
 generalize mkT (pk E n).text = T at *
 have hf := aV
 go_enter Tryz.func311, Tryz.ntmps311
 go_wp2_with (go_at_call 153; refine HP.out.mono ?_; rintro e w1 ⟨rfl, hb1⟩)
 refine (HN.out w1 hb1).mono ?_
 rintro e w2 ⟨r, hev, hsay⟩
 cases r with
 | out => exact hsay.elim
 | bad k a =>
  have hsay' : Threw w1 w2 rb k a e := hsay
  obtain ⟨b, rfl⟩ := aB hsay'
  exact ⟨rfl, _, HEV.out _ hev, hsay'.own hlt.out (Keeps.of_new hb1)⟩
 | ok x m =>
  obtain ⟨v, rfl, hx, hr, hk2⟩ := hsay
  go_wp2_with fail
  go_ret
  exact ⟨_, HEV.out _ hev, v, rfl, hx.of hb1.size, hr, (Keeps.of_new hb1).trans hk2⟩
def i8 {β : Type} (E : Env) (P : β -> Nat -> Res β -> Prop) (acc : β) (m : Nat) (r : Res β) : Prop :=
 ((pk E m).text = cB /\ P acc (m + 1) r) \/ ((pk E m).text ≠ cB /\ r = (take E tRp m).bind fun _ m2 => .ok acc m2)
def o3 {β : Type} (E : Env) (P : β -> Nat -> Res β -> Prop) (acc : β) (n : Nat) (r : Res β) : Prop :=
 (∃ k a, take E tLp n = .bad k a /\ r = .bad k a) \/ ∃ t n1, take E tLp n = .ok t n1 /\ (((pk E n1).text = tRp /\ r = .ok acc (n1 + 1)) \/ ((pk E n1).text ≠ tRp /\ P acc n1 r))
structure ItemC {β : Type} (w : World) (rb : Nat) (tv : Value) (E : Env) (d : Nat) (F : FuncId) (caps : Array Value) (J : World -> Nat -> β -> Prop) (P : β -> Nat -> Res β -> Prop) : Prop where
 rd : ∀ W m acc, J W m acc -> RdAt W rb tv E m d
 on : ∀ W W' m m' acc, m <= m' -> J W m acc -> Keeps (fun b => b = rb) W W' -> RdAt W' rb tv E m' d -> J W' m' acc
 old : ∀ W m acc, J W m acc -> Below rb w W
 item : ∀ W m acc, J W m acc -> Calls Tryz.prog F caps W fun e W' => (∃ k a, P acc m (.bad k a) /\ Threw W W' rb k a e) \/ (∃ acc' m', m < m' /\ e = .returned (.tuple #[]) /\ J W' m' acc' /\ ∀ r, i8 E P acc' m' r -> P acc m r)
theorem C5 {β : Type} {caps : Array Value} {J : World -> Nat -> β -> Prop} {P : β -> Nat -> Res β -> Prop} (hC : ItemC w rb tv E d 307 caps J P) (acc0 : β) (hJ : J w n acc0) :
  Calls Tryz.prog 155 #[.pointer (some ⟨rb, 0, none⟩), .func (.func 307) #[] caps] w fun e w' => ∃ r : Res β, o3 E P acc0 n r /\ match r with
   | .ok acc m => e = .returned (.tuple #[]) /\ J w' m acc
   | .bad k a => Threw w w' rb k a e
   | .out => False := by
 have HC := zz hC
 have h0 := hC.rd _ _ _ hJ
 have HJ := zz hJ
 have HTK := zz (bM ⟨#[40]⟩ (by decide) w h0)
 have HLT := zz h0.lt
 have e40 : (⟨#[40]⟩ : ByteArray).data.toList = tLp := rfl
 have e41 : (⟨#[41]⟩ : ByteArray).data.toList = tRp := rfl
 have e44 : (⟨#[44]⟩ : ByteArray).data.toList = cB := rfl
 rw [e40] at HTK
 clear hC hJ h0 e40
 cases ht : take E tLp n with
 | out => exact absurd ht (cZ E _ _)
 | bad k a =>
  rw [ht] at HTK
  have HT := zz ht
  clear ht e41 e44
  go_enter Tryz.func155, Tryz.ntmps155
  go_wp2_with fail
  refine HTK.out.mono ?_
  rintro e w1 hth
  obtain ⟨b, rfl⟩ := aB hth
  exact ⟨rfl, .bad k a, Or.inl ⟨k, a, HT.out, rfl⟩, hth⟩
 | ok t n1 =>
  rw [ht] at HTK
  have HT := zz ht
  clear ht
  go_enter Tryz.func155, Tryz.ntmps155
  go_wp2_with fail
  refine HTK.out.mono ?_
  rintro e w1 ⟨v, rfl, _, hr1, hk1⟩
  have HJ1 := zz (HC.out.on _ _ _ _ _ (Nat.le_of_lt (aW HT.out)) HJ.out hk1 hr1)
  have HTI := cX ⟨#[41]⟩ (by decide) w1 hr1
  rw [e41] at HTI
  have HI := zz HTI
  clear HTI hr1 hk1
  go_wp2_with fail
  by_cases hrp : (pk E n1).text = tRp
  ·have hv : aO E tRp n1 = n1 + 1 := by unfold aO; rw [if_pos hrp]
   rw [hv, decide_eq_true hrp] at HI
   have HRP := zz hrp
   clear hv hrp
   refine HI.out.mono ?_
   rintro e w2 ⟨rfl, hr2, hk2⟩
   have HJ2 := zz (HC.out.on _ _ _ _ _ (Nat.le_succ _) HJ1.out hk2 hr2)
   clear hr2 hk2
   go_wp2_with fail
   try simp only [Exit.inBlock, Exit.then]
   refine bodyPost_ret (results_none rfl _ _ _) rfl ?_
   exact ⟨.ok acc0 (n1 + 1), Or.inr ⟨t, n1, HT.out, Or.inl ⟨HRP.out, rfl⟩⟩, rfl, HJ2.out⟩
  ·have hv : aO E tRp n1 = n1 := by unfold aO; rw [if_neg hrp]
   rw [hv, decide_eq_false hrp] at HI
   have HRP := zz hrp
   clear hv hrp
   refine HI.out.mono ?_
   rintro e w2 ⟨rfl, hr2, hk2⟩
   have HJ2 := zz (HC.out.on _ _ _ _ _ (Nat.le_refl _) HJ1.out hk2 hr2)
   clear hr2 hk2
   go_wp2_with fail
   refine (HC.out.item _ _ _ HJ2.out).mono ?_
   rintro e w3 hit
   rcases hit with ⟨k, a, hp, hth⟩ | ⟨acc1, m1, hm1, rfl, hj3, hr⟩
   ·have hth2 := hth.after (HC.out.old _ _ _ HJ2.out)
    obtain ⟨b, rfl⟩ := aB hth
    exact ⟨rfl, .bad k a, Or.inr ⟨t, n1, HT.out, Or.inr ⟨HRP.out, hp⟩⟩, hth2⟩
   ·have HI3 : Hid (∃ acc m, J w3 m acc /\ ∀ r, i8 E P acc m r -> o3 E P acc0 n r) := zz ⟨acc1, m1, hj3, fun r h => Or.inr ⟨t, n1, HT.out, Or.inr ⟨HRP.out, hr r h⟩⟩⟩
    clear hj3 hr hm1
    go_wp2_with fail
    go_loopw [] (fun wr => ∃ acc m, J wr m acc /\ ∀ r, i8 E P acc m r -> o3 E P acc0 n r) (fun wr => E.toks.length - nG wr rb)
    case atStart => exact HI3.out
    case round =>
     obtain ⟨acc, m, hj, hr⟩ := hrel
     have HJ4 := zz hj
     have HR := zz hr
     have HTI := cX ⟨#[44]⟩ (by decide) wr (HC.out.rd _ _ _ hj)
     rw [e44] at HTI
     have HI := zz HTI
     clear HTI hj hr
     by_cases hcm : (pk E m).text = cB
     ·have hv : aO E cB m = m + 1 := by unfold aO; rw [if_pos hcm]
      rw [hv, decide_eq_true hcm] at HI
      have HCM := zz hcm
      clear hv hcm
      go_wp2_with fail
      refine HI.out.mono ?_
      rintro e w5 ⟨rfl, hr5, hk5⟩
      have HJ5 := zz (HC.out.on _ _ _ _ _ (Nat.le_succ _) HJ4.out hk5 hr5)
      clear hr5 hk5
      go_wp2_with fail
      refine (HC.out.item _ _ _ HJ5.out).mono ?_
      rintro e w6 hit
      rcases hit with ⟨k, a, hp, hth⟩ | ⟨acc1, m1, hm1, rfl, hj6, hr6⟩
      ·have hth2 := hth.after (HC.out.old _ _ _ HJ5.out)
       obtain ⟨b, rfl⟩ := aB hth
       exact ⟨rfl, .bad k a, HR.out _ (Or.inl ⟨HCM.out, hp⟩), hth2⟩
      ·go_wp2_with fail
       refine ⟨⟨acc1, m1, hj6, fun r h => HR.out r (Or.inl ⟨HCM.out, hr6 r h⟩)⟩, ?_⟩
       have h1 := HC.out.rd _ _ _ hj6
       have h2 := HC.out.rd _ _ _ HJ4.out
       rw [h1.pos, h2.pos]
       have := h1.hn
       omega
     ·have hv : aO E cB m = m := by unfold aO; rw [if_neg hcm]
      rw [hv, decide_eq_false hcm] at HI
      have HCM := zz hcm
      clear hv hcm
      go_wp2_with fail
      refine HI.out.mono ?_
      rintro e w5 ⟨rfl, hr5, hk5⟩
      have HJ5 := zz (HC.out.on _ _ _ _ _ (Nat.le_refl _) HJ4.out hk5 hr5)
      have HT5 := bM ⟨#[41]⟩ (by decide) w5 hr5
      rw [e41] at HT5
      have HTT := zz HT5
      clear hr5 hk5 HT5
      go_wp2_with fail
      cases ht2 : take E tRp m with
      | out => exact absurd ht2 (cZ E _ _)
      | bad k a =>
       rw [ht2] at HTT
       refine HTT.out.mono ?_
       rintro e w6 hth
       have hth2 := Threw.after hth (HC.out.old _ _ _ HJ5.out)
       obtain ⟨b, rfl⟩ := aB hth
       exact ⟨rfl, .bad k a, HR.out _ (Or.inr ⟨HCM.out, by rw [ht2]; rfl⟩), hth2⟩
      | ok t2 m2 =>
       rw [ht2] at HTT
       refine HTT.out.mono ?_
       rintro e w6 ⟨v6, rfl, _, hr6, hk6⟩
       have HJ6 := zz (HC.out.on _ _ _ _ _ (Nat.le_of_lt (aW ht2)) HJ5.out hk6 hr6)
       have HT2 := zz ht2
       clear hr6 hk6 ht2
       go_wp2_with fail
       go_end0
       exact ⟨.ok acc m2, HR.out _ (Or.inr ⟨HCM.out, by rw [HT2.out]; rfl⟩), rfl, HJ6.out⟩
theorem I0 {β : Type} {caps : Array Value} {J : World -> Nat -> β -> Prop} {P : β -> Nat -> Res β -> Prop} (hC : ItemC w rb tv E d 156 caps J P) (acc0 : β) (hJ : J w n acc0) :
  Calls Tryz.prog 155 #[.pointer (some ⟨rb, 0, none⟩), .func (.func 156) #[] caps] w fun e w' => ∃ r : Res β, o3 E P acc0 n r /\ match r with
   | .ok acc m => e = .returned (.tuple #[]) /\ J w' m acc
   | .bad k a => Threw w w' rb k a e
   | .out => False := by
 have HC := zz hC
 have h0 := hC.rd _ _ _ hJ
 have HJ := zz hJ
 have HTK := zz (bM ⟨#[40]⟩ (by decide) w h0)
 have HLT := zz h0.lt
 have e40 : (⟨#[40]⟩ : ByteArray).data.toList = tLp := rfl
 have e41 : (⟨#[41]⟩ : ByteArray).data.toList = tRp := rfl
 have e44 : (⟨#[44]⟩ : ByteArray).data.toList = cB := rfl
 rw [e40] at HTK
 clear hC hJ h0 e40
 cases ht : take E tLp n with
 | out => exact absurd ht (cZ E _ _)
 | bad k a =>
  rw [ht] at HTK
  have HT := zz ht
  clear ht e41 e44
  go_enter Tryz.func155, Tryz.ntmps155
  go_wp2_with fail
  refine HTK.out.mono ?_
  rintro e w1 hth
  obtain ⟨b, rfl⟩ := aB hth
  exact ⟨rfl, .bad k a, Or.inl ⟨k, a, HT.out, rfl⟩, hth⟩
 | ok t n1 =>
  rw [ht] at HTK
  have HT := zz ht
  clear ht
  go_enter Tryz.func155, Tryz.ntmps155
  go_wp2_with fail
  refine HTK.out.mono ?_
  rintro e w1 ⟨v, rfl, _, hr1, hk1⟩
  have HJ1 := zz (HC.out.on _ _ _ _ _ (Nat.le_of_lt (aW HT.out)) HJ.out hk1 hr1)
  have HTI := cX ⟨#[41]⟩ (by decide) w1 hr1
  rw [e41] at HTI
  have HI := zz HTI
  clear HTI hr1 hk1
  go_wp2_with fail
  by_cases hrp : (pk E n1).text = tRp
  ·have hv : aO E tRp n1 = n1 + 1 := by unfold aO; rw [if_pos hrp]
   rw [hv, decide_eq_true hrp] at HI
   have HRP := zz hrp
   clear hv hrp
   refine HI.out.mono ?_
   rintro e w2 ⟨rfl, hr2, hk2⟩
   have HJ2 := zz (HC.out.on _ _ _ _ _ (Nat.le_succ _) HJ1.out hk2 hr2)
   clear hr2 hk2
   go_wp2_with fail
   try simp only [Exit.inBlock, Exit.then]
   refine bodyPost_ret (results_none rfl _ _ _) rfl ?_
   exact ⟨.ok acc0 (n1 + 1), Or.inr ⟨t, n1, HT.out, Or.inl ⟨HRP.out, rfl⟩⟩, rfl, HJ2.out⟩
  ·have hv : aO E tRp n1 = n1 := by unfold aO; rw [if_neg hrp]
   rw [hv, decide_eq_false hrp] at HI
   have HRP := zz hrp
   clear hv hrp
   refine HI.out.mono ?_
   rintro e w2 ⟨rfl, hr2, hk2⟩
   have HJ2 := zz (HC.out.on _ _ _ _ _ (Nat.le_refl _) HJ1.out hk2 hr2)
   clear hr2 hk2
   go_wp2_with fail
   refine (HC.out.item _ _ _ HJ2.out).mono ?_
   rintro e w3 hit
   rcases hit with ⟨k, a, hp, hth⟩ | ⟨acc1, m1, hm1, rfl, hj3, hr⟩
   ·have hth2 := hth.after (HC.out.old _ _ _ HJ2.out)
    obtain ⟨b, rfl⟩ := aB hth
    exact ⟨rfl, .bad k a, Or.inr ⟨t, n1, HT.out, Or.inr ⟨HRP.out, hp⟩⟩, hth2⟩
   ·have HI3 : Hid (∃ acc m, J w3 m acc /\ ∀ r, i8 E P acc m r -> o3 E P acc0 n r) := zz ⟨acc1, m1, hj3, fun r h => Or.inr ⟨t, n1, HT.out, Or.inr ⟨HRP.out, hr r h⟩⟩⟩
    clear hj3 hr hm1
    go_wp2_with fail
    go_loopw [] (fun wr => ∃ acc m, J wr m acc /\ ∀ r, i8 E P acc m r -> o3 E P acc0 n r) (fun wr => E.toks.length - nG wr rb)
    case atStart => exact HI3.out
    case round =>
     obtain ⟨acc, m, hj, hr⟩ := hrel
     have HJ4 := zz hj
     have HR := zz hr
     have HTI := cX ⟨#[44]⟩ (by decide) wr (HC.out.rd _ _ _ hj)
     rw [e44] at HTI
     have HI := zz HTI
     clear HTI hj hr
     by_cases hcm : (pk E m).text = cB
     ·have hv : aO E cB m = m + 1 := by unfold aO; rw [if_pos hcm]
      rw [hv, decide_eq_true hcm] at HI
      have HCM := zz hcm
      clear hv hcm
      go_wp2_with fail
      refine HI.out.mono ?_
      rintro e w5 ⟨rfl, hr5, hk5⟩
      have HJ5 := zz (HC.out.on _ _ _ _ _ (Nat.le_succ _) HJ4.out hk5 hr5)
      clear hr5 hk5
      go_wp2_with fail
      refine (HC.out.item _ _ _ HJ5.out).mono ?_
      rintro e w6 hit
      rcases hit with ⟨k, a, hp, hth⟩ | ⟨acc1, m1, hm1, rfl, hj6, hr6⟩
      ·have hth2 := hth.after (HC.out.old _ _ _ HJ5.out)
       obtain ⟨b, rfl⟩ := aB hth
       exact ⟨rfl, .bad k a, HR.out _ (Or.inl ⟨HCM.out, hp⟩), hth2⟩
      ·go_wp2_with fail
       refine ⟨⟨acc1, m1, hj6, fun r h => HR.out r (Or.inl ⟨HCM.out, hr6 r h⟩)⟩, ?_⟩
       have h1 := HC.out.rd _ _ _ hj6
       have h2 := HC.out.rd _ _ _ HJ4.out
       rw [h1.pos, h2.pos]
       have := h1.hn
       omega
     ·have hv : aO E cB m = m := by unfold aO; rw [if_neg hcm]
      rw [hv, decide_eq_false hcm] at HI
      have HCM := zz hcm
      clear hv hcm
      go_wp2_with fail
      refine HI.out.mono ?_
      rintro e w5 ⟨rfl, hr5, hk5⟩
      have HJ5 := zz (HC.out.on _ _ _ _ _ (Nat.le_refl _) HJ4.out hk5 hr5)
      have HT5 := bM ⟨#[41]⟩ (by decide) w5 hr5
      rw [e41] at HT5
      have HTT := zz HT5
      clear hr5 hk5 HT5
      go_wp2_with fail
      cases ht2 : take E tRp m with
      | out => exact absurd ht2 (cZ E _ _)
      | bad k a =>
       rw [ht2] at HTT
       refine HTT.out.mono ?_
       rintro e w6 hth
       have hth2 := Threw.after hth (HC.out.old _ _ _ HJ5.out)
       obtain ⟨b, rfl⟩ := aB hth
       exact ⟨rfl, .bad k a, HR.out _ (Or.inr ⟨HCM.out, by rw [ht2]; rfl⟩), hth2⟩
      | ok t2 m2 =>
       rw [ht2] at HTT
       refine HTT.out.mono ?_
       rintro e w6 ⟨v6, rfl, _, hr6, hk6⟩
       have HJ6 := zz (HC.out.on _ _ _ _ _ (Nat.le_of_lt (aW ht2)) HJ5.out hk6 hr6)
       have HT2 := zz ht2
       clear hr6 hk6 ht2
       go_wp2_with fail
       go_end0
       exact ⟨.ok acc m2, HR.out _ (Or.inr ⟨HCM.out, by rw [HT2.out]; rfl⟩), rfl, HJ6.out⟩
def ValsIn (W : World) (F : Nat -> Prop) : List Value -> Exs -> Prop
 | [], .nil => True
 | v :: vs, .cons x xs => ExIn W F v x /\ ValsIn W F vs xs
 | _, _ => False
theorem ValsIn.keeps {W W' : World} {F S : Nat -> Prop} (hk : Keeps S W W') (hF : ∀ b, F b -> ¬ S b) : ∀ (vs : List Value) (xs : Exs), ValsIn W F vs xs -> ValsIn W' F vs xs
 | [], .nil, _ => trivial
 | _ :: _, .cons _ _, h => ⟨h.1.keeps hk hF, ValsIn.keeps hk hF _ _ h.2⟩
 | [], .cons _ _, h => h.elim
 | _ :: _, .nil, h => h.elim
theorem ValsIn.mono {W : World} {F G : Nat -> Prop} (hF : ∀ b, b < W.heap.size -> F b -> G b) : ∀ (vs : List Value) (xs : Exs), ValsIn W F vs xs -> ValsIn W G vs xs
 | [], .nil, _ => trivial
 | _ :: _, .cons _ _, h => ⟨ExIn.mono hF _ _ h.1, ValsIn.mono hF _ _ h.2⟩
 | [], .cons _ _, h => h.elim
 | _ :: _, .nil, h => h.elim
theorem ValsIn.snoc {W : World} {F : Nat -> Prop} {v : Value} {x : Ex} (hx : ExIn W F v x) : ∀ (vs : List Value) (xs : Exs), ValsIn W F vs xs -> ValsIn W F (vs ++ [v]) (xs.snoc x)
 | [], .nil, _ => ⟨hx, trivial⟩
 | _ :: _, .cons _ _, h => ⟨h.1, ValsIn.snoc hx _ _ h.2⟩
 | [], .cons _ _, h => h.elim
 | _ :: _, .nil, h => h.elim
theorem yQ : (Tryz.prog.info? 60).map (fun i => (i.zero, i.size, i.bytes)) = some (some (.pointer none), 1, 8) := by kernel_rfl
theorem kG {ops : Array Oper} {o : Oper} {a : Act} {w : World} {K : Act -> World -> Prop} {Q : Exit -> Act -> World -> Prop} {E : Prop}
    (hg : o.guard = none) (s x : Operand) (hop : o.op = Op.call { callee := Callee.builtin Builtin.append, args := #[s, x], argTypes := #[62, 62] })
    (i : TypeInfo) (h2 : Tryz.prog.info? 60 = some i) (h3 : i.zero = some (.pointer none)) (h4 : i.size = 1) (h5 : i.bytes = 8)
    (base : Nat) (v : Value) (n : Nat) (xs : List Value) (hown : w.ownsRow base 60 1 v n xs) (hn : n <= 10000) (hbase : base <= w.heap.size)
    (ad : Addr) (u : Option Addr) (hc : w.cell? ad = some (.pointer u))
    (hs : a.eval s = v) (hx : a.eval x = .slice (some ad) 1 1)
    (hK : ∀ ao' cap' w', w'.ownsRow base 60 1 (.slice ao' (n + 1) cap') (n + 1) (xs ++ [Value.pointer u]) -> w.grownBy w' v.ownBlock -> ((Value.slice ao' (n + 1) cap').ownBlock = v.ownBlock \/ (Value.slice ao' (n + 1) cap').ownBlock = some w.heap.size) -> K (a.put o.dst (.slice ao' (n + 1) cap')) w') :
    if Region.wanted o (yielded ops a.tmps) = true then Oper.wp Tryz.prog o a w K Q else E := by
  have hw : Region.wanted o (yielded ops a.tmps) = true := by simp [Region.wanted, hg]
  rw [if_pos hw]
  obtain ⟨v', w', hrun, r1, r2, _, r4⟩ := run_append_own_at (P := Tryz.prog) w base 62 o.type 60 i (.pointer none) 1 8 Tryz.underlying62 h2 h3 h4 h5 rfl (by decide) v n xs hown ad 1 1 [.pointer u] rfl (fun j u' hj => by
      cases j with
      | zero => simp at hj; subst hj; simpa [Addr.add] using hc
      | succ j => simp at hj)
    (fun u' hu => by simp at hu; subst hu; rfl) (by unfold maxLen; omega) (by omega) hbase
  have hv' : ∃ ao' cap', v' = .slice ao' (n + 1) cap' := by
    rcases r1.2 with ⟨_, h0⟩ | ⟨g, cap', cur, rfl, _⟩
    · omega
    · exact ⟨_, _, rfl⟩
  obtain ⟨ao', cap', rfl⟩ := hv'
  unfold Oper.wp
  simp [execOp, hop, resolve, invoke, builtin, hs, hx, hrun, Result.andThen]
  exact hK _ _ _ r1 r2 r4
structure CallJ (w0 : World) (rb : Nat) (tv : Value) (E : Env) (dep dd : Nat) (xv rv dv xb hb A : Nat) (name : B) (W : World) (m : Nat) (acc : Exs) : Prop where
 rd : RdAt W rb tv E m dep
 env : TEnv rb E W
 kp : Keeps (fun b => b = rb) w0 W
 cx : W.cell? ⟨xv, 0, none⟩ = some (.pointer (some ⟨xb, 0, none⟩))
 cr : W.cell? ⟨rv, 0, none⟩ = some (.pointer (some ⟨rb, 0, none⟩))
 cd : W.cell? ⟨dv, 0, none⟩ = some (.int .i64 (dd : Nat))
 x0 : W.cell? ⟨xb, 0, none⟩ = some (.int .i64 7)
 x1 : W.cell? ⟨xb, 1, none⟩ = some (.int .i64 (A : Nat))
 x2 : W.cell? ⟨xb, 2, none⟩ = some (.int .i64 0)
 x3 : W.cell? ⟨xb, 3, none⟩ = some (.string (mkT name))
 x4 : W.cell? ⟨xb, 4, none⟩ = some (.int .i64 0)
 x5 : W.cell? ⟨xb, 5, none⟩ = some (.pointer none)
 x6 : W.cell? ⟨xb, 6, none⟩ = some (.pointer none)
 z7 : W.frozen? ⟨xb, 7, none⟩ = false
 row : ∃ av vals, W.cell? ⟨xb, 7, none⟩ = some av /\ W.ownsRow hb 60 1 av acc.len vals /\ ValsIn W (fun b => hb <= b /\ some b ≠ av.ownBlock) vals acc /\ (acc.len = 0 -> av = .slice none 0 0)
 lo : rb < w0.heap.size /\ w0.heap.size <= xv /\ w0.heap.size <= rv /\ w0.heap.size <= dv /\ w0.heap.size <= xb
 hi : xv < hb /\ rv < hb /\ dv < hb /\ xb < hb /\ hb <= W.heap.size
 ne : xv ≠ xb /\ rv ≠ xb /\ dv ≠ xb
 al : acc.len <= m
theorem gT {f0 n m : Nat} {x : Ex} (h : Ev (fun f => dJ E f f0 n) (.ok x m)) : n < m := pX h
structure CallMid (W w2 : World) (rb xv rv dv xb hb dd : Nat) (av : Value) (n : Nat) (vals : List Value) : Prop where
 y1 : w2.cell? ⟨xv, 0, none⟩ = some (.pointer (some ⟨xb, 0, none⟩))
 y2 : w2.cell? ⟨rv, 0, none⟩ = some (.pointer (some ⟨rb, 0, none⟩))
 y3 : w2.cell? ⟨dv, 0, none⟩ = some (.int .i64 (dd : Nat))
 y4 : w2.cell? ⟨xb, 7, none⟩ = some av
 y5 : w2.frozen? ⟨xb, 7, none⟩ = false
 own : w2.ownsRow hb 60 1 av n vals
 hs : hb <= w2.heap.size
theorem pM {w0 W w2 : World} {dep xv rv dv xb hb A m : Nat} {name : B} {acc : Exs} {av : Value} {vals : List Value} (H : CallJ w0 rb tv E dep dd xv rv dv xb hb A name W m acc) (c7 : W.cell? ⟨xb, 7, none⟩ = some av)
  (hown : W.ownsRow hb 60 1 av acc.len vals) (hk2 : Keeps (fun b => b = rb) W w2) : CallMid W w2 rb xv rv dv xb hb dd av acc.len vals := by
 have hlo := H.lo
 have hhi := H.hi
 have hgb : ∀ b, av.ownBlock = some b -> hb <= b := fun b e => by
  rcases hown.2 with ⟨rfl, _⟩ | ⟨g, cap, cur, rfl, hge, _⟩
  ·cases e
  ·simp only [Value.ownBlock, Option.some.injEq] at e; omega
 refine ⟨hk2.cell_of H.cx (fun e => absurd (show xv = rb from e) (by omega)), hk2.cell_of H.cr (fun e => absurd (show rv = rb from e) (by omega)), hk2.cell_of H.cd (fun e => absurd (show dv = rb from e) (by omega)), hk2.cell_of c7 (fun e => absurd (show xb = rb from e) (by omega)), ?_,
  hk2.row hown (fun b e e2 => absurd (show b = rb from e2) (by have := hgb b e; omega)), Nat.le_trans hhi.2.2.2.2 hk2.size⟩
 rw [hk2.frozen (p := ⟨xb, 7, none⟩) (block_lt_of_cell c7) (fun e => absurd (show xb = rb from e) (by omega))]; exact H.z7
theorem uM {w0 W w2 w3 : World} {dep xv rv dv xb hb A m m' cap' : Nat} {name : B} {acc : Exs} {av : Value} {vals : List Value} {x : Ex} {o2 ao' : Option Addr} (H : CallJ w0 rb tv E dep dd xv rv dv xb hb A name W m acc)
  (c7 : W.cell? ⟨xb, 7, none⟩ = some av) (hown : W.ownsRow hb 60 1 av acc.len vals) (hv : ValsIn W (fun b => hb <= b /\ some b ≠ av.ownBlock) vals acc)
  (hm : m < m') (hx : ExV W w2 x (.pointer o2)) (hr2 : RdAt w2 rb tv E m' dep) (hk2 : Keeps (fun b => b = rb) W w2) (hk3 : Keeps (fun b => av.ownBlock = some b) w2 w3)
  (ho3 : w3.ownsRow hb 60 1 (.slice ao' (acc.len + 1) cap') (acc.len + 1) (vals ++ [.pointer o2]))
  (hnew : (Value.slice ao' (acc.len + 1) cap').ownBlock = av.ownBlock \/ (Value.slice ao' (acc.len + 1) cap').ownBlock = some (w2.heap.size + 1)) :
  CallJ w0 rb tv E dep dd xv rv dv xb hb A name (w3.setCell ⟨xb, 7, none⟩ (.slice ao' (acc.len + 1) cap')) m' (acc.snoc x) := by
 have hlo := H.lo
 have hhi := H.hi
 have hne := H.ne
 have hgb : ∀ b, av.ownBlock = some b -> hb <= b := fun b e => by
  rcases hown.2 with ⟨rfl, _⟩ | ⟨g, cap, cur, rfl, hge, _⟩
  ·cases e
  ·simp only [Value.ownBlock, Option.some.injEq] at e; omega
 have hgl : ∀ b, av.ownBlock = some b -> b < W.heap.size := fun b e => by
  rcases hown.2 with ⟨rfl, _⟩ | ⟨g, cap, cur, rfl, _, hg, _⟩
  ·cases e
  ·simp only [Value.ownBlock, Option.some.injEq] at e; subst e; exact (Array.getElem?_eq_some_iff.1 hg).1
 have hgn : ∀ b, (Value.slice ao' (acc.len + 1) cap').ownBlock = some b -> hb <= b := fun b e => by
  rcases hnew with h | h
  ·exact hgb b (h ▸ e)
  ·rw [h] at e
   have h1 : w2.heap.size + 1 = b := Option.some.inj e
   have h2 := hk2.size
   omega
 have ks : Keeps (fun b => b = xb) w3 (w3.setCell ⟨xb, 7, none⟩ (.slice ao' (acc.len + 1) cap')) := (Keeps.refl (fun b : Nat => b = xb) w3).setCell (S := fun b : Nat => b = xb) (p := ⟨xb, 7, none⟩) (Or.inl rfl) _
 have M := pM H c7 hown hk2
 have no : ∀ b, b < hb -> ¬ av.ownBlock = some b := fun b h e => by have := hgb b e; omega
 have far : ∀ (b o : Nat) (v : Value), b < hb -> b ≠ xb -> w2.cell? ⟨b, o, none⟩ = some v -> (w3.setCell ⟨xb, 7, none⟩ (.slice ao' (acc.len + 1) cap')).cell? ⟨b, o, none⟩ = some v := fun b o v h1 h2 h => ks.cell_of (hk3.cell_of h (no b h1)) h2
 have near : ∀ (o : Nat) (v : Value), o ≠ 7 -> W.cell? ⟨xb, o, none⟩ = some v -> (w3.setCell ⟨xb, 7, none⟩ (.slice ao' (acc.len + 1) cap')).cell? ⟨xb, o, none⟩ = some v := fun o v h h1 => by
  rw [World.cell?_setCell_other _ _ _ _ (aQ (Ne.symm h) xb)]
  exact hk3.cell_of (hk2.cell_of h1 (fun e => absurd (show xb = rb from e) (by omega))) (no xb (by omega))
 refine ⟨(hr2.keeps hk3 (fun b e => by have := hgb b e; omega)).keeps ks (fun b e => by have : b = xb := e; omega), ((H.env.own hk2).keeps hk3 (fun b e => by have := hgb b e; omega)).keeps ks (fun b e => by have : b = xb := e; omega), ?_, far xv 0 _ (by omega) hne.1 M.y1, far rv 0 _ (by omega) hne.2.1 M.y2, far dv 0 _ (by omega) hne.2.2 M.y3,
  near 0 _ (by decide) H.x0, near 1 _ (by decide) H.x1, near 2 _ (by decide) H.x2, near 3 _ (by decide) H.x3, near 4 _ (by decide) H.x4, near 5 _ (by decide) H.x5, near 6 _ (by decide) H.x6, ?_, ?_, hlo, ?_, hne, ?_⟩
 ·exact ((H.kp.trans hk2).trans' hk3 (fun i h e => by have := hgb i e; omega)).trans' ks (fun i h e => by have : i = xb := e; omega)
 ·rw [World.frozen?_setCell, hk3.frozen (p := ⟨xb, 7, none⟩) (block_lt_of_cell M.y4) (no xb (by omega))]; exact M.y5
 ·refine ⟨_, vals ++ [.pointer o2], World.cell?_setCell_same _ _ _ (hk3.cell_of M.y4 (no xb (by omega))), ?_, ?_, fun e => absurd e (by rw [Exs.len_snoc]; omega)⟩
  ·have h1 := ks.row ho3 (fun b e e2 => by have := hgn b e; have : b = xb := e2; omega)
   rw [Exs.len_snoc]; exact h1
  ·refine ValsIn.snoc ?_ _ _ ?_
   ·have h1 : ExIn w2 (fun b => hb <= b /\ some b ≠ av.ownBlock /\ some b ≠ (Value.slice ao' (acc.len + 1) cap').ownBlock) (.pointer o2) x := ExIn.mono (fun b h e => by
     refine ⟨by have : W.heap.size <= b := e; omega, fun h2 => ?_, fun h2 => ?_⟩
     ·have := hgl b h2.symm; have : W.heap.size <= b := e; omega
     ·rcases hnew with h3 | h3
      ·have := hgl b (by rw [<- h3]; exact h2.symm); have : W.heap.size <= b := e; omega
      ·rw [h3] at h2; have := Option.some.inj h2; omega) _ _ hx
    exact ExIn.mono (fun b _ e => ⟨e.1, e.2.2⟩) _ _ ((h1.keeps hk3 (fun b e e2 => e.2.1 e2.symm)).keeps ks (fun b e e2 => by have : b = xb := e2; omega))
   ·have h1 : ValsIn w2 (fun b => hb <= b /\ some b ≠ av.ownBlock /\ some b ≠ (Value.slice ao' (acc.len + 1) cap').ownBlock) vals acc := ValsIn.mono (fun b h e => by
     refine ⟨e.1, e.2, fun h2 => ?_⟩
     rcases hnew with h3 | h3
     ·exact e.2 (by rw [<- h3]; exact h2)
     ·rw [h3] at h2; have := Option.some.inj h2; omega) _ _ (ValsIn.keeps hk2 (fun b e e2 => by have : b = rb := e2; omega) _ _ hv)
    exact ValsIn.mono (fun b _ e => ⟨e.1, e.2.2⟩) _ _ (ValsIn.keeps ks (fun b e e2 => by have : b = xb := e2; omega) _ _ (ValsIn.keeps hk3 (fun b e e2 => e.2.1 e2.symm) _ _ h1))
 ·have h1 := hk2.size
  have h2 := hk3.size
  have h3 := ks.size
  omega
 ·rw [Exs.len_snoc]; have := H.al; omega
theorem uN {w0 W : World} {dep xv rv dv xb hb A m : Nat} {name : B} {acc : Exs} (hX : kY rb tv E dep (dd + 1)) (hdd : dd <= 20) (hJ : CallJ w0 rb tv E dep dd xv rv dv xb hb A name W m acc) :
  Calls Tryz.prog 307 #[.pointer (some ⟨xv, 0, none⟩), .pointer (some ⟨rv, 0, none⟩), .pointer (some ⟨dv, 0, none⟩)] W fun e W' =>
   ∃ r, Ev (fun f => dJ E f (dd + 1) m) r /\ match r with
    | .ok x m' => m < m' /\ e = .returned (.tuple #[]) /\ CallJ w0 rb tv E dep dd xv rv dv xb hb A name W' m' (acc.snoc x)
    | .bad k a => Threw W W' rb k a e
    | .out => False := by
 have H := zz hJ
 have HXA := zz hX
 obtain ⟨av, vals, c7, hown, hvals, _⟩ := hJ.row
 have cx := hJ.cx
 have cr := hJ.cr
 have cd := hJ.cd
 have hw : IntKind.i64.wrap ((dd : Int) + 1) = (dd : Int) + 1 := IntWalk.i64_in _ (by omega)
 clear hJ hX
 obtain ⟨i0, hi0, hz0, hz1, hz2⟩ := mC yQ
 have hlo := H.out.lo
 have hhi := H.out.hi
 have z7 := H.out.z7
 have hl := hown.1
 have hE : Hid (∀ W', Below W.heap.size W W' -> Calls Tryz.prog 291 #[.pointer (some ⟨rb, 0, none⟩), .int .i64 ((dd : Int) + 1)] W' fun e w' => ∃ r, Ev (fun f => dJ E f (dd + 1) m) r /\ bL ExV W' w' rb tv E dep r e) := zz fun W' hb => by
  have := HXA.out m W' (H.out.rd.fresh hb) (H.out.env.fresh hb)
  rw [Int.natCast_add] at this
  exact this
 have HOWN := zz hown
 have HV := zz hvals
 clear hown hvals
 go_enter Tryz.func307, Tryz.ntmps307
 go_wp2_with fail
 change Code.wp _ _ (bodyPost _ _ _) _ _
 have hgb : ∀ b, av.ownBlock = some b -> hb <= b := fun b e => by
  rcases HOWN.out.2 with ⟨rfl, _⟩ | ⟨g, cap, cur, rfl, hge, _⟩
  ·cases e
  ·simp only [Value.ownBlock, Option.some.injEq] at e; omega
 have HGB := zz hgb
 clear hgb
 obtain ⟨f1, f2, f3⟩ := H.out.ne
 have g1 : (⟨xb, 7, none⟩ : Addr).block ≠ (⟨xv, 0, none⟩ : Addr).block := fun e => f1 e.symm
 have g2 : (⟨xb, 7, none⟩ : Addr).block ≠ (⟨rv, 0, none⟩ : Addr).block := fun e => f2 e.symm
 have g3 : (⟨xb, 7, none⟩ : Addr).block ≠ (⟨dv, 0, none⟩ : Addr).block := fun e => f3 e.symm
 have hal : acc.len <= 10000 := by have h1 := H.out.al; have h2 := H.out.rd.hn; have h3 := H.out.rd.hl; omega
 have HAL := zz hal
 clear hal
 refine wp_region_held_drew (S := (fun W' : World => W'.cell? ⟨xv, 0, none⟩ = some (.pointer (some ⟨xb, 0, none⟩)) /\ W'.cell? ⟨rv, 0, none⟩ = some (.pointer (some ⟨rb, 0, none⟩)) /\ W'.cell? ⟨dv, 0, none⟩ = some (.int .i64 (dd : Nat)))) (by kernel_rfl) ⟨by simp only [World.cell?_drew]; assumption, by simp only [World.cell?_drew]; assumption, by simp only [World.cell?_drew]; assumption⟩ (fun hHeld => ?_)
 refine tk 0 3 (.pointer (some ⟨xb, 0, none⟩)) rfl (.inl ⟨by rfl, ?_⟩) hHeld ?_
 ·intro W9 hSW; (try dsimp only at hSW); go_simp
 try simp only [Act.put, sA, sB, sC]
 refine tk 1 4 (.pointer (some ⟨xb, 0, none⟩)) rfl (.inl ⟨by rfl, ?_⟩) hHeld ?_
 ·intro W9 hSW; (try dsimp only at hSW); go_simp
 try simp only [Act.put, sA, sB, sC]
 refine tk 2 5 (.pointer (some ⟨xb, 0, none⟩)) rfl (.inl ⟨by rfl, ?_⟩) hHeld ?_
 ·intro W9 hSW; (try dsimp only at hSW); go_simp
 try simp only [Act.put, sA, sB, sC]
 refine tk 3 6 (.pointer (some ⟨xb, 7, none⟩)) rfl (.inl ⟨by rfl, ?_⟩) hHeld ?_
 ·intro W9 hSW; (try dsimp only at hSW); go_simp
 try simp only [Act.put, sA, sB, sC]
 refine tk 5 8 (.pointer (some ⟨rb, 0, none⟩)) rfl (.inl ⟨by rfl, ?_⟩) hHeld ?_
 ·intro W9 hSW; (try dsimp only at hSW); go_simp
 try simp only [Act.put, sA, sB, sC]
 refine tk 6 9 (.int .i64 (dd : Nat)) rfl (.inl ⟨by rfl, ?_⟩) hHeld ?_
 ·intro W9 hSW; (try dsimp only at hSW); go_simp
 try simp only [Act.put, sA, sB, sC]
 refine tk 7 10 (.int .i64 ((dd : Int) + 1)) rfl (.inl ⟨by rfl, ?_⟩) hHeld ?_
 ·intro W9 hSW; (try dsimp only at hSW); go_simp
 try simp only [Act.put, sA, sB, sC]
 refine wpAnyH_ready (rs := [4, 8]) (by kernel_rfl) (by simp) ?_
 refine AllReadyH.cons (o := { dst := some 7, op := _, type := _, pos := _, after := _, guard := _ }) rfl (fun K hK => ?_) (AllReadyH.cons (o := { dst := some 11, op := _, type := _, pos := _, after := _, guard := _ }) rfl (fun K hK => ?_) AllReadyH.nil)
 ·go_simp
  refine hK.out _ _ hHeld (fun hHeld => ?_)
  clear hK K
  refine ra 8 (some 11) rfl fun K hK => ?_
  go_simp
  go_at_call 291
  refine (hE.out _ (Below.drew (Below.refl _ _))).mono ?_
  rintro e w2 ⟨r, hev, hsay⟩
  rcases r with _ | ⟨k, a⟩ | ⟨x, m'⟩
  ·exact hsay.elim
  ·have hsay' : Threw _ w2 rb k a e := hsay
   obtain ⟨b, rfl⟩ := aB hsay'
   exact ⟨rfl, .bad k a, hev, hsay'.after (Below.drew (Below.refl _ _))⟩
  obtain ⟨v2, rfl, hx, hr2, hk2⟩ := hsay
  obtain ⟨o2, rfl⟩ := aL hx
  obtain ⟨y1, y2, y3, y4, y5, hown2, hs2⟩ := pM H.out c7 HOWN.out (w2 := w2) ((Keeps.refl (fun b => b = rb) W).drew.trans hk2)
  have q1 : xv < w2.heap.size := block_lt_of_cell y1
  have q2 : rv < w2.heap.size := block_lt_of_cell y2
  have q3 : dv < w2.heap.size := block_lt_of_cell y3
  have q4 : xb < w2.heap.size := block_lt_of_cell y4
  have HEV := zz hev
  have HXX := zz hx
  have HR2 := zz hr2
  have HK2 := zz hk2
  have HOW2 := zz hown2
  have HS2 := zz hs2
  clear hown2 hs2
  clear hev hx hr2 hk2
  refine hK.out _ _ ⟨y1, y2, y3⟩ (fun hHeld => ?_)
  clear hK K
  refine ra 9 (some 12) rfl fun K hK => ?_
  go_simp
  have z1 : (w2.alloc (.cells #[.pointer o2] 60)).cell? ⟨xv, 0, none⟩ = some (.pointer (some ⟨xb, 0, none⟩)) := by rw [World.cell?_alloc_lt _ _ _ (by assumption)]; assumption
  refine hK.out _ _ ⟨by rw [World.cell?_alloc_lt _ _ _ (by assumption)]; assumption, by rw [World.cell?_alloc_lt _ _ _ (by assumption)]; assumption, by rw [World.cell?_alloc_lt _ _ _ (by assumption)]; assumption⟩ (fun hHeld => ?_)
  clear hK K z1
  refine ra 10 (some 13) rfl fun K hK => ?_
  refine kG rfl (.tmp 7) (.tmp 12) rfl i0 hi0 hz0 hz1 hz2 hb av acc.len vals (World.ownsRow.alloc HOW2.out _) HAL.out (by have := HS2.out; simp; omega) ⟨w2.heap.size, 0, none⟩ o2 (by rw [World.cell?_alloc_at _ _ _ _ rfl]; rfl) (by simp [Act.eval]) (by simp [Act.eval]) ?_
  intro ao' cap' w3 hown3 hgrow3 hnew
  have HNW : Hid ((Value.slice ao' (acc.len + 1) cap').ownBlock = av.ownBlock \/ (Value.slice ao' (acc.len + 1) cap').ownBlock = some (w2.heap.size + 1)) := zz (by simpa using hnew)
  clear hnew
  have hk3 : Keeps (fun b => av.ownBlock = some b) w2 w3 := ((Keeps.refl (fun b => av.ownBlock = some b) w2).alloc _).trans' (Keeps.of_grownBy hgrow3 (fun k _ e => e)) (fun _ _ e => e)
  have hnb : ¬ av.ownBlock = some xb := fun e => by have := HGB.out xb e; omega
  have n1 : ¬ av.ownBlock = some xv := fun e => by have := HGB.out xv e; omega
  have n2 : ¬ av.ownBlock = some rv := fun e => by have := HGB.out rv e; omega
  have n3 : ¬ av.ownBlock = some dv := fun e => by have := HGB.out dv e; omega
  have y8 : w3.cell? ⟨xv, 0, none⟩ = some (.pointer (some ⟨xb, 0, none⟩)) := hk3.cell_of y1 n1
  have y9 : w3.cell? ⟨rv, 0, none⟩ = some (.pointer (some ⟨rb, 0, none⟩)) := hk3.cell_of y2 n2
  have y10 : w3.cell? ⟨dv, 0, none⟩ = some (.int .i64 (dd : Nat)) := hk3.cell_of y3 n3
  clear n1 n2 n3
  have y6 : w3.cell? ⟨xb, 7, none⟩ = some av := hk3.cell_of y4 hnb
  have y7 : w3.frozen? ⟨xb, 7, none⟩ = false := by rw [hk3.frozen (p := ⟨xb, 7, none⟩) q4 hnb]; exact y5
  have HO3 := zz hown3
  have HK3 := zz hk3
  clear hown3 hgrow3 hk3 hnb
  refine hK.out _ _ ⟨y8, y9, y10⟩ (fun hHeld => ?_)
  clear hK K
  try simp only [Act.put, sA, sB, sC]
  refine tk 11 14 (.pointer (some ⟨xb, 0, none⟩)) rfl (.inl ⟨by rfl, ?_⟩) hHeld ?_
  ·intro W9 hSW; (try dsimp only at hSW); go_simp
  try simp only [Act.put, sA, sB, sC]
  refine tk 12 15 (.pointer (some ⟨xb, 7, none⟩)) rfl (.inl ⟨by rfl, ?_⟩) hHeld ?_
  ·intro W9 hSW; (try dsimp only at hSW); go_simp
  try simp only [Act.put, sA, sB, sC]
  refine ra 13 none rfl fun K hK => ?_
  go_simp
  refine hK.out _ _ ⟨by rw [World.cell?_setCell_far _ _ _ _ (by assumption)]; assumption, by rw [World.cell?_setCell_far _ _ _ _ (by assumption)]; assumption, by rw [World.cell?_setCell_far _ _ _ _ (by assumption)]; assumption⟩ (fun hHeld => ?_)
  clear hK K
  refine wpAnyH_done (by kernel_rfl) ?_ _
  go_end0
  refine ⟨.ok x m', HEV.out, gT HEV.out, rfl, ?_⟩
  have hkW : Keeps (fun b => b = rb) W w2 := (Keeps.refl (fun b => b = rb) W).drew.trans HK2.out
  exact uM H.out c7 HOWN.out HV.out (gT HEV.out) HXX.out HR2.out hkW HK3.out HO3.out HNW.out
 ·go_simp
  go_at_call 291
  refine (hE.out _ (Below.drew (Below.refl _ _))).mono ?_
  rintro e w2 ⟨r, hev, hsay⟩
  rcases r with _ | ⟨k, a⟩ | ⟨x, m'⟩
  ·exact hsay.elim
  ·have hsay' : Threw _ w2 rb k a e := hsay
   obtain ⟨b, rfl⟩ := aB hsay'
   exact ⟨rfl, .bad k a, hev, hsay'.after (Below.drew (Below.refl _ _))⟩
  obtain ⟨v2, rfl, hx, hr2, hk2⟩ := hsay
  obtain ⟨o2, rfl⟩ := aL hx
  obtain ⟨y1, y2, y3, y4, y5, hown2, hs2⟩ := pM H.out c7 HOWN.out (w2 := w2) ((Keeps.refl (fun b => b = rb) W).drew.trans hk2)
  have q1 : xv < w2.heap.size := block_lt_of_cell y1
  have q2 : rv < w2.heap.size := block_lt_of_cell y2
  have q3 : dv < w2.heap.size := block_lt_of_cell y3
  have q4 : xb < w2.heap.size := block_lt_of_cell y4
  have HEV := zz hev
  have HXX := zz hx
  have HR2 := zz hr2
  have HK2 := zz hk2
  have HOW2 := zz hown2
  have HS2 := zz hs2
  clear hown2 hs2
  clear hev hx hr2 hk2
  refine hK.out _ _ ⟨y1, y2, y3⟩ (fun hHeld => ?_)
  clear hK K
  refine wpAnyH_ready (rs := [4, 9]) (by kernel_rfl) (by simp) ?_
  refine AllReadyH.cons (o := { dst := some 7, op := _, type := _, pos := _, after := _, guard := _ }) rfl (fun K hK => ?_) (AllReadyH.cons (o := { dst := some 12, op := _, type := _, pos := _, after := _, guard := _ }) rfl (fun K hK => ?_) AllReadyH.nil)
  ·go_simp
   refine hK.out _ _ hHeld (fun hHeld => ?_)
   clear hK K
   refine ra 9 (some 12) rfl fun K hK => ?_
   go_simp
   have z1 : (w2.alloc (.cells #[.pointer o2] 60)).cell? ⟨xv, 0, none⟩ = some (.pointer (some ⟨xb, 0, none⟩)) := by rw [World.cell?_alloc_lt _ _ _ (by assumption)]; assumption
   refine hK.out _ _ ⟨by rw [World.cell?_alloc_lt _ _ _ (by assumption)]; assumption, by rw [World.cell?_alloc_lt _ _ _ (by assumption)]; assumption, by rw [World.cell?_alloc_lt _ _ _ (by assumption)]; assumption⟩ (fun hHeld => ?_)
   clear hK K z1
   refine ra 10 (some 13) rfl fun K hK => ?_
   refine kG rfl (.tmp 7) (.tmp 12) rfl i0 hi0 hz0 hz1 hz2 hb av acc.len vals (World.ownsRow.alloc HOW2.out _) HAL.out (by have := HS2.out; simp; omega) ⟨w2.heap.size, 0, none⟩ o2 (by rw [World.cell?_alloc_at _ _ _ _ rfl]; rfl) (by simp [Act.eval]) (by simp [Act.eval]) ?_
   intro ao' cap' w3 hown3 hgrow3 hnew
   have HNW : Hid ((Value.slice ao' (acc.len + 1) cap').ownBlock = av.ownBlock \/ (Value.slice ao' (acc.len + 1) cap').ownBlock = some (w2.heap.size + 1)) := zz (by simpa using hnew)
   clear hnew
   have hk3 : Keeps (fun b => av.ownBlock = some b) w2 w3 := ((Keeps.refl (fun b => av.ownBlock = some b) w2).alloc _).trans' (Keeps.of_grownBy hgrow3 (fun k _ e => e)) (fun _ _ e => e)
   have hnb : ¬ av.ownBlock = some xb := fun e => by have := HGB.out xb e; omega
   have n1 : ¬ av.ownBlock = some xv := fun e => by have := HGB.out xv e; omega
   have n2 : ¬ av.ownBlock = some rv := fun e => by have := HGB.out rv e; omega
   have n3 : ¬ av.ownBlock = some dv := fun e => by have := HGB.out dv e; omega
   have y8 : w3.cell? ⟨xv, 0, none⟩ = some (.pointer (some ⟨xb, 0, none⟩)) := hk3.cell_of y1 n1
   have y9 : w3.cell? ⟨rv, 0, none⟩ = some (.pointer (some ⟨rb, 0, none⟩)) := hk3.cell_of y2 n2
   have y10 : w3.cell? ⟨dv, 0, none⟩ = some (.int .i64 (dd : Nat)) := hk3.cell_of y3 n3
   clear n1 n2 n3
   have y6 : w3.cell? ⟨xb, 7, none⟩ = some av := hk3.cell_of y4 hnb
   have y7 : w3.frozen? ⟨xb, 7, none⟩ = false := by rw [hk3.frozen (p := ⟨xb, 7, none⟩) q4 hnb]; exact y5
   have HO3 := zz hown3
   have HK3 := zz hk3
   clear hown3 hgrow3 hk3 hnb
   refine hK.out _ _ ⟨y8, y9, y10⟩ (fun hHeld => ?_)
   clear hK K
   try simp only [Act.put, sA, sB, sC]
   refine tk 11 14 (.pointer (some ⟨xb, 0, none⟩)) rfl (.inl ⟨by rfl, ?_⟩) hHeld ?_
   ·intro W9 hSW; (try dsimp only at hSW); go_simp
   try simp only [Act.put, sA, sB, sC]
   refine tk 12 15 (.pointer (some ⟨xb, 7, none⟩)) rfl (.inl ⟨by rfl, ?_⟩) hHeld ?_
   ·intro W9 hSW; (try dsimp only at hSW); go_simp
   try simp only [Act.put, sA, sB, sC]
   refine ra 13 none rfl fun K hK => ?_
   go_simp
   refine hK.out _ _ ⟨by rw [World.cell?_setCell_far _ _ _ _ (by assumption)]; assumption, by rw [World.cell?_setCell_far _ _ _ _ (by assumption)]; assumption, by rw [World.cell?_setCell_far _ _ _ _ (by assumption)]; assumption⟩ (fun hHeld => ?_)
   clear hK K
   refine wpAnyH_done (by kernel_rfl) ?_ _
   go_end0
   refine ⟨.ok x m', HEV.out, gT HEV.out, rfl, ?_⟩
   have hkW : Keeps (fun b => b = rb) W w2 := (Keeps.refl (fun b => b = rb) W).drew.trans HK2.out
   exact uM H.out c7 HOWN.out HV.out (gT HEV.out) HXX.out HR2.out hkW HK3.out HO3.out HNW.out
  ·go_simp
   have z1 : (w2.alloc (.cells #[.pointer o2] 60)).cell? ⟨xv, 0, none⟩ = some (.pointer (some ⟨xb, 0, none⟩)) := by rw [World.cell?_alloc_lt _ _ _ (by assumption)]; assumption
   refine hK.out _ _ ⟨by rw [World.cell?_alloc_lt _ _ _ (by assumption)]; assumption, by rw [World.cell?_alloc_lt _ _ _ (by assumption)]; assumption, by rw [World.cell?_alloc_lt _ _ _ (by assumption)]; assumption⟩ (fun hHeld => ?_)
   clear hK K z1
   refine ra 4 (some 7) rfl fun K hK => ?_
   go_simp
   refine hK.out _ _ hHeld (fun hHeld => ?_)
   clear hK K
   refine ra 10 (some 13) rfl fun K hK => ?_
   refine kG rfl (.tmp 7) (.tmp 12) rfl i0 hi0 hz0 hz1 hz2 hb av acc.len vals (World.ownsRow.alloc HOW2.out _) HAL.out (by have := HS2.out; simp; omega) ⟨w2.heap.size, 0, none⟩ o2 (by rw [World.cell?_alloc_at _ _ _ _ rfl]; rfl) (by simp [Act.eval]) (by simp [Act.eval]) ?_
   intro ao' cap' w3 hown3 hgrow3 hnew
   have HNW : Hid ((Value.slice ao' (acc.len + 1) cap').ownBlock = av.ownBlock \/ (Value.slice ao' (acc.len + 1) cap').ownBlock = some (w2.heap.size + 1)) := zz (by simpa using hnew)
   clear hnew
   have hk3 : Keeps (fun b => av.ownBlock = some b) w2 w3 := ((Keeps.refl (fun b => av.ownBlock = some b) w2).alloc _).trans' (Keeps.of_grownBy hgrow3 (fun k _ e => e)) (fun _ _ e => e)
   have hnb : ¬ av.ownBlock = some xb := fun e => by have := HGB.out xb e; omega
   have n1 : ¬ av.ownBlock = some xv := fun e => by have := HGB.out xv e; omega
   have n2 : ¬ av.ownBlock = some rv := fun e => by have := HGB.out rv e; omega
   have n3 : ¬ av.ownBlock = some dv := fun e => by have := HGB.out dv e; omega
   have y8 : w3.cell? ⟨xv, 0, none⟩ = some (.pointer (some ⟨xb, 0, none⟩)) := hk3.cell_of y1 n1
   have y9 : w3.cell? ⟨rv, 0, none⟩ = some (.pointer (some ⟨rb, 0, none⟩)) := hk3.cell_of y2 n2
   have y10 : w3.cell? ⟨dv, 0, none⟩ = some (.int .i64 (dd : Nat)) := hk3.cell_of y3 n3
   clear n1 n2 n3
   have y6 : w3.cell? ⟨xb, 7, none⟩ = some av := hk3.cell_of y4 hnb
   have y7 : w3.frozen? ⟨xb, 7, none⟩ = false := by rw [hk3.frozen (p := ⟨xb, 7, none⟩) q4 hnb]; exact y5
   have HO3 := zz hown3
   have HK3 := zz hk3
   clear hown3 hgrow3 hk3 hnb
   refine hK.out _ _ ⟨y8, y9, y10⟩ (fun hHeld => ?_)
   clear hK K
   try simp only [Act.put, sA, sB, sC]
   refine tk 11 14 (.pointer (some ⟨xb, 0, none⟩)) rfl (.inl ⟨by rfl, ?_⟩) hHeld ?_
   ·intro W9 hSW; (try dsimp only at hSW); go_simp
   try simp only [Act.put, sA, sB, sC]
   refine tk 12 15 (.pointer (some ⟨xb, 7, none⟩)) rfl (.inl ⟨by rfl, ?_⟩) hHeld ?_
   ·intro W9 hSW; (try dsimp only at hSW); go_simp
   try simp only [Act.put, sA, sB, sC]
   refine ra 13 none rfl fun K hK => ?_
   go_simp
   refine hK.out _ _ ⟨by rw [World.cell?_setCell_far _ _ _ _ (by assumption)]; assumption, by rw [World.cell?_setCell_far _ _ _ _ (by assumption)]; assumption, by rw [World.cell?_setCell_far _ _ _ _ (by assumption)]; assumption⟩ (fun hHeld => ?_)
   clear hK K
   refine wpAnyH_done (by kernel_rfl) ?_ _
   go_end0
   refine ⟨.ok x m', HEV.out, gT HEV.out, rfl, ?_⟩
   have hkW : Keeps (fun b => b = rb) W w2 := (Keeps.refl (fun b => b = rb) W).drew.trans HK2.out
   exact uM H.out c7 HOWN.out HV.out (gT HEV.out) HXX.out HR2.out hkW HK3.out HO3.out HNW.out
theorem nL {S : Nat -> Prop} {a : World} {B : Nat} (h1 : Keeps S a w) (h2 : Keeps S a w') (hs : w.heap.size <= w'.heap.size) (hB : B <= a.heap.size) (hS : ∀ b, S b -> B <= b) : Below B w w' :=
 ⟨h2.os.trans h1.os.symm, h2.tape.trans h1.tape.symm, h2.output.trans h1.output.symm, hs, fun k hk => by
  have hn : ¬ S k := fun e => by have := hS k e; omega
  rw [h2.block k (by omega) hn, h1.block k (by omega) hn]⟩
theorem o4 {W : World} {F : Nat -> Prop} {g : Nat} : ∀ (vals : List Value) (xs : Exs) (i : Nat), (∀ j v, vals[j]? = some v -> W.cell? ⟨g, i + j, none⟩ = some v) -> ValsIn W F vals xs -> ExsIn W F g i xs
 | [], .nil, _, _, _ => trivial
 | v :: vs, .cons x xs, i, hc, h => ⟨⟨v, hc 0 v rfl, h.1⟩, o4 vs xs (i + 1) (fun j u hj => by rw [Nat.add_assoc, Nat.add_comm 1 j]; exact hc (j + 1) u hj) h.2⟩
 | [], .cons _ _, _, _, h => h.elim
 | _ :: _, .nil, _, _, h => h.elim
theorem aZ {p : Addr} {v : Value} {o : Obj} (h : w.cell? p = some v) : (w.alloc o).cell? p = some v := by
 rw [World.cell?_alloc_lt _ _ _ (block_lt_of_cell h)]; exact h
theorem lL {p : Addr} {o : Obj} (hp : p.block < w.heap.size) (h : w.frozen? p = false) : (w.alloc o).frozen? p = false := by
 rw [((Keeps.refl (fun _ => False) w).alloc o).frozen hp id]; exact h
theorem bK (w : World) (xs : Array Value) (t : TypeId) (j : Nat) (v : Value) (h : xs[j]? = some v) {b : Nat} (hb : b = w.heap.size) : (w.alloc (.cells xs t)).cell? ⟨b, j, none⟩ = some v := by
 subst hb; rw [World.cell?_alloc_at _ _ _ _ rfl]; exact h
theorem C6 {dep : Nat} {t1 t2 t3 t4 t5 : TypeId} {name : B} {A : Nat} {k : Value} (h : RdAt w rb tv E n dep) (hE : TEnv rb E w) :
  CallJ w rb tv E dep dd (w.heap.size + 1 + 1 + 1 + 1) w.heap.size (w.heap.size + 1 + 1) (w.heap.size + 1 + 1 + 1) (w.heap.size + 1 + 1 + 1 + 1 + 1) A name
   (((((w.alloc (.cells #[.pointer (some ⟨rb, 0, none⟩)] t1)).alloc (.cells #[k, .string (mkT name), .int .i64 A] t2)).alloc (.cells #[.int .i64 (dd : Nat)] t3)).alloc (.cells #[.int .i64 7, .int .i64 A, .int .i64 0, .string (mkT name), .int .i64 0, .pointer none, .pointer none, .slice none 0 0] t4)).alloc (.cells #[.pointer (some ⟨w.heap.size + 1 + 1 + 1, 0, none⟩)] t5)) n .nil := by
 have hk : Keeps (fun b => b = rb) w (((((w.alloc (.cells #[.pointer (some ⟨rb, 0, none⟩)] t1)).alloc (.cells #[k, .string (mkT name), .int .i64 A] t2)).alloc (.cells #[.int .i64 (dd : Nat)] t3)).alloc (.cells #[.int .i64 7, .int .i64 A, .int .i64 0, .string (mkT name), .int .i64 0, .pointer none, .pointer none, .slice none 0 0] t4)).alloc (.cells #[.pointer (some ⟨w.heap.size + 1 + 1 + 1, 0, none⟩)] t5)) := (((((Keeps.refl (fun b => b = rb) w).alloc _).alloc _).alloc _).alloc _).alloc _
 have hn : Below w.heap.size w (((((w.alloc (.cells #[.pointer (some ⟨rb, 0, none⟩)] t1)).alloc (.cells #[k, .string (mkT name), .int .i64 A] t2)).alloc (.cells #[.int .i64 (dd : Nat)] t3)).alloc (.cells #[.int .i64 7, .int .i64 A, .int .i64 0, .string (mkT name), .int .i64 0, .pointer none, .pointer none, .slice none 0 0] t4)).alloc (.cells #[.pointer (some ⟨w.heap.size + 1 + 1 + 1, 0, none⟩)] t5)) :=
  (((((Keeps.refl (fun _ => False) w).alloc _).alloc _).alloc _).alloc _).alloc _ |>.below (Nat.le_refl _) (fun _ _ e => e.elim)
 have hx : ∀ (j : Nat) (v : Value), (#[Value.int .i64 7, .int .i64 A, .int .i64 0, .string (mkT name), .int .i64 0, .pointer none, .pointer none, .slice none 0 0] : Array Value)[j]? = some v -> (((((w.alloc (.cells #[.pointer (some ⟨rb, 0, none⟩)] t1)).alloc (.cells #[k, .string (mkT name), .int .i64 A] t2)).alloc (.cells #[.int .i64 (dd : Nat)] t3)).alloc (.cells #[.int .i64 7, .int .i64 A, .int .i64 0, .string (mkT name), .int .i64 0, .pointer none, .pointer none, .slice none 0 0] t4)).alloc (.cells #[.pointer (some ⟨w.heap.size + 1 + 1 + 1, 0, none⟩)] t5)).cell? ⟨w.heap.size + 1 + 1 + 1, j, none⟩ = some v := fun j v hj => aZ (bK _ _ _ j v hj (by simp))
 have hlt := h.lt
 refine ⟨h.fresh hn, hE.fresh hn, hk, bK _ _ _ 0 _ rfl (by simp), aZ (aZ (aZ (aZ (bK _ _ _ 0 _ rfl rfl)))), aZ (aZ (bK _ _ _ 0 _ rfl (by simp))), hx 0 _ rfl, hx 1 _ rfl, hx 2 _ rfl, hx 3 _ rfl, hx 4 _ rfl, hx 5 _ rfl, hx 6 _ rfl, ?_, ⟨_, [], hx 7 _ rfl, World.ownsRow_nil _ _ _ _, trivial, fun _ => rfl⟩, ⟨hlt, by omega, by omega, by omega, by omega⟩, ?_, ⟨by omega, by omega, by omega⟩, Nat.zero_le _⟩
 ·refine lL (by simp) ?_
  exact World.frozen?_alloc_at _ _ _ _ (by simp)
 ·refine ⟨by omega, by omega, by omega, by omega, by simp⟩
theorem A6 {t : Tok} {r : Res Exs} (hr : r ≠ .out) (h : o3 E (fun acc m r => Ev (fun f => args E f dd acc m) r) .nil n r) : Ev (fun f => Tr.call E f dd t n) (r.bind fun l m => .ok (.mk 7 t.at_ 0 0 t.text .nil .nil l) m) := by
 rcases h with ⟨k, a, h1, rfl⟩ | ⟨t1, n1, h1, ⟨h2, rfl⟩ | ⟨h2, h3⟩⟩
 ·exact Ev.now (fun e => by cases e) fun f => by rw [iU, h1]; rfl
 ·exact Ev.now (fun e => by cases e) fun f => by rw [iU, h1]; show (if _ then _ else _) = _; rw [if_pos h2]; rfl
 ·refine Ev.step (h := fun f => (args E f dd .nil n1).bind fun l n2 => .ok (.mk 7 t.at_ 0 0 t.text .nil .nil l) n2) (fun f => by rw [iU, h1]; show (if _ then _ else _) = _; rw [if_neg h2]) ?_
  cases r with
  | out => exact absurd rfl hr
  | bad k a => exact Ev.bad h3
  | ok l m => exact Ev.then h3 (Ev.pure (fun e => by cases e) fun _ => rfl)
theorem C7 {w0 : World} {dep xv rv dv xb A : Nat} {name : B} (hX : kY rb tv E dep (dd + 1)) (hdd : dd <= 20) (hk : Keeps (fun b => b = rb) w0 w) (hlt : rb < w0.heap.size) :
  ItemC w rb tv E dep 307 #[.pointer (some ⟨xv, 0, none⟩), .pointer (some ⟨rv, 0, none⟩), .pointer (some ⟨dv, 0, none⟩)]
   (fun W m acc => CallJ w0 rb tv E dep dd xv rv dv xb w.heap.size A name W m acc) (fun acc m r => Ev (fun f => args E f dd acc m) r) := by
 refine ⟨fun W m acc h => h.rd, ?_, ?_, ?_⟩
 ·intro W W' m m' acc hm h hk2 hr2
  have hlo := h.lo
  have hhi := h.hi
  have hne := h.ne
  obtain ⟨av, vals, c7, hown, hvals, h0⟩ := h.row
  have M := pM h c7 hown hk2
  have hx : ∀ (j : Nat) (v : Value), W.cell? ⟨xb, j, none⟩ = some v -> W'.cell? ⟨xb, j, none⟩ = some v := fun j v hv => hk2.cell_of hv (fun e => absurd (show xb = rb from e) (by omega))
  exact ⟨hr2, h.env.own hk2, h.kp.trans hk2, M.y1, M.y2, M.y3, hx 0 _ h.x0, hx 1 _ h.x1, hx 2 _ h.x2, hx 3 _ h.x3, hx 4 _ h.x4, hx 5 _ h.x5, hx 6 _ h.x6, M.y5, ⟨av, vals, M.y4, M.own, ValsIn.keeps hk2 (fun b e e2 => by have : b = rb := e2; omega) _ _ hvals, h0⟩, hlo, ⟨hhi.1, hhi.2.1, hhi.2.2.1, hhi.2.2.2.1, M.hs⟩, hne, Nat.le_trans h.al hm⟩
 ·intro W m acc h
  exact nL hk h.kp h.hi.2.2.2.2 (Nat.le_of_lt hlt) (fun b e => Nat.le_of_eq (show rb = b from e.symm))
 ·intro W m acc h
  refine (uN hX hdd h).mono ?_
  rintro e W' ⟨r, hev, hsay⟩
  cases r with
  | out => exact hsay.elim
  | bad k a => exact Or.inl ⟨k, a, Ev.step (h := fun f => (tied E f 1 (dd + 1) m).bind fun x m => if (pk E m).text = cB then args E f dd (acc.snoc x) (m + 1) else (take E tRp m).bind fun _ m2 => .ok (acc.snoc x) m2) (fun f => by rw [kA]) (Ev.bad hev), hsay⟩
  | ok x m' =>
   obtain ⟨h1, h2, h3⟩ := hsay
   refine Or.inr ⟨_, m', h1, h2, h3, fun r hr => Ev.step (h := fun f => (tied E f 1 (dd + 1) m).bind fun x m => if (pk E m).text = cB then args E f dd (acc.snoc x) (m + 1) else (take E tRp m).bind fun _ m2 => .ok (acc.snoc x) m2) (fun f => by rw [kA]) (Ev.then hev ?_)⟩
   rcases hr with ⟨h4, h5⟩ | ⟨h4, rfl⟩
   ·simp only [if_pos h4]; exact h5
   ·simp only [if_neg h4]
    refine Ev.pure ?_ (fun _ => rfl)
    cases hq : take E tRp m' with
    | out => exact absurd hq (cZ E _ _)
    | bad k a => intro e; cases e
    | ok t n => intro e; cases e
theorem CallJ.ex {w0 : World} {dep xv rv dv xb hb A m : Nat} {name : B} {acc : Exs} (h : CallJ w0 rb tv E dep dd xv rv dv xb hb A name w m acc) : ExV w0 w (.mk 7 A 0 0 name .nil .nil acc) (.pointer (some ⟨xb, 0, none⟩)) := by
 obtain ⟨av, vals, c7, hown, hvals, h0⟩ := h.row
 have hlo := h.lo
 have hhi := h.hi
 have hF : ∀ b, hb <= b /\ some b ≠ av.ownBlock -> w0.heap.size <= b := fun b e => by omega
 refine ⟨xb, .pointer none, .pointer none, av, rfl, hlo.2.2.2.2, h.x0, h.x1, h.x2, h.x3, h.x4, h.x5, h.x6, c7, rfl, rfl, ?_, ?_⟩
 ·by_cases hz : acc.len = 0
  ·exact Or.inl ⟨h0 hz, hz⟩
  ·rcases hown.2 with ⟨_, e⟩ | ⟨g, cap, cur, e1, h2, _, h3, h4, _⟩
   ·exact absurd e hz
   ·exact Or.inr ⟨g, cap, e1, h3, h4, Nat.pos_of_ne_zero hz, by show w0.heap.size <= g; omega⟩
 ·intro g m' cap e
  rcases hown.2 with ⟨e2, _⟩ | ⟨g', cap', cur, e2, h2, _⟩
  ·rw [e] at e2; cases e2
  ·rw [e] at e2
   cases e2
   subst e
   refine o4 vals acc 0 (fun j v hj => ?_) (ValsIn.mono (fun b _ hb => hF b hb) _ _ hvals)
   rw [Nat.zero_add, World.ownsRow.cellAt hown j (by have := (List.getElem?_eq_some_iff.1 hj).1; have := hown.1; omega)]
   exact hj
theorem wD {dep : Nat} (hX : kY rb tv E dep (dd + 1)) (hdd : dd <= 20) : A5 rb tv E dep dd := by
 intro t n w h hE
 have HST := zz (C6 (dd := dd) (t1 := 165) (t2 := 110) (t3 := 3) (t4 := 64) (t5 := 60) (name := t.text) (A := t.at_) (k := .int .i64 t.kind) h hE)
 have HLT := zz h.lt
 have HX := zz hX
 unfold aR
 clear h hE hX
 go_enter Tryz.func292, Tryz.ntmps292
 generalize hT : mkT t.text = T at *
 go_wp2_with fail
 subst hT
 refine (C5 (C7 (w0 := w) (xb := w.heap.size + 1 + 1 + 1) (A := t.at_) (name := t.text) HX.out hdd HST.out.kp HLT.out) .nil (by simpa using HST.out)).mono ?_
 rintro e w2 ⟨r, hl, hsay⟩
 cases r with
 | out => exact hsay.elim
 | bad k a =>
  have hsay' : Threw _ w2 rb k a e := hsay
  have HEV := zz (A6 (t := t) (fun e => by cases e) hl)
  obtain ⟨b, rfl⟩ := aB hsay'
  exact ⟨rfl, _, HEV.out, hsay'.own HLT.out HST.out.kp⟩
 | ok acc m =>
  obtain ⟨rfl, hj⟩ := hsay
  have HEV := zz (A6 (t := t) (fun e => by cases e) hl)
  have cx := hj.cx
  have HJ := zz hj
  clear hl hj
  go_wp2_with fail
  go_ret
  exact ⟨_, HEV.out, _, rfl, HJ.out.ex, HJ.out.rd, HJ.out.kp⟩
end Go.Proofs.YtnpapppipccdbaaGreatDoor
