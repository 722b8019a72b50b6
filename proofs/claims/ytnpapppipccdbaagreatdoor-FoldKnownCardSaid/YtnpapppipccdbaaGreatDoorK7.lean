/-
  Texts of one proof, in build order: TreeP5 TreeP6 TreeP7 TreeP8 TreeP9 TreePA TreePB TreePC TreePD TreePE TreePF TreePG TreePH TreePI TreePJ TreePK TreePL TreeQ5 TreeQ6 TreeQ7 TreeQ8 FoldM4 FoldX5 FoldX6 FoldX7 FoldX8 TreeQA TreeQH FoldY0 FoldY1 Pick
-/
import Derived.Test.YtnpapppipccdbaaGreatDoorK6
import Derived.Deep.RegionHeld
import Derived.Lib.ItoaLen
import Derived.Test.YtnpapppipccdbaaGreatDoorRows
import Derived.WalkKit
import Derived.WalkSpells
import Derived.WalkLawsBesides
import Derived.Lib.Hide
set_option maxRecDepth 100000
set_option maxHeartbeats 12800000
namespace Go.Proofs.YtnpapppipccdbaaGreatDoor
open Go.RowKit Lx Tr
variable {w w' : World}
def argL : Bool -> List Ex -> B
 | _, [] => []
 | f, x :: xs => (if f then [] else [44, 32]) ++ (exV 1 x ++ argL false xs)
theorem argL_snoc : ∀ (l : List Ex) (f : Bool) (x : Ex), argL f (l ++ [x]) = argL f l ++ ((if f = true /\ l = [] then [] else [44, 32]) ++ exV 1 x)
 | [], f, x => by
  show (if f then [] else [44, 32]) ++ (exV 1 x ++ []) = [] ++ _
  cases f <;> simp
 | y :: l, f, x => by
  show (if f then [] else [44, 32]) ++ (exV 1 y ++ argL false (l ++ [x])) = ((if f then [] else [44, 32]) ++ (exV 1 y ++ argL false l)) ++ _
  rw [argL_snoc l false x, if_neg (show ¬ (false = true /\ l = []) from fun e => by cases e.1), if_neg (show ¬ (f = true /\ y :: l = []) from fun e => by cases e.2)]
  simp only [List.append_assoc]
theorem argV_list : ∀ (xs : Exs) (f : Bool), argV f xs = argL f xs.toList
 | .nil, _ => rfl
 | .cons x xs, f => by
  show (if f then [] else [44, 32]) ++ (exW 1 x (bareV x) ++ argV false xs) = _
  rw [argV_list xs false]; rfl
theorem Exs.len_list : ∀ (xs : Exs), xs.toList.length = xs.len
 | .nil => rfl
 | .cons _ xs => congrArg (· + 1) (Exs.len_list xs)
theorem argL_le : ∀ (l : List Ex) (k : Nat) (f : Bool), (argL f (l.take k)).length <= (argL f l).length
 | [], k, f => by simp [argL]
 | x :: xs, 0, f => Nat.zero_le _
 | x :: xs, k + 1, f => by
  show ((if f then [] else [44, 32]) ++ (exV 1 x ++ argL false (xs.take k))).length <= ((if f then [] else [44, 32]) ++ (exV 1 x ++ argL false xs)).length
  have := argL_le xs k false
  simp only [List.length_append]
  omega
theorem argL_twoF : ∀ ys : List Ex, 2 * ys.length <= (argL false ys).length
 | [] => by simp
 | y :: ys => by
  have := argL_twoF ys
  show 2 * (ys.length + 1) <= ([44, 32] ++ (exV 1 y ++ argL false ys)).length
  simp only [List.length_append, List.length_cons, List.length_nil]
  omega
theorem argL_two (l : List Ex) (f : Bool) : 2 * l.length <= (argL f l).length + 2 := by
 cases l with
 | nil => simp
 | cons x xs =>
  have := argL_twoF xs
  show 2 * (xs.length + 1) <= ((if f then [] else [44, 32]) ++ (exV 1 x ++ argL false xs)).length + 2
  simp only [List.length_append]
  omega
def ArgsAt (B b : Nat) (w : World) (av : Value) (l : List Ex) : Prop :=
 (av = .slice none 0 0 /\ l = []) \/ ∃ g cap, av = .slice (some ⟨g, 0, none⟩) l.length cap /\ (∀ w', Below B w w' -> Others b w w' -> ∀ i : Nat, w'.cell? ⟨g, i, none⟩ = w.cell? ⟨g, i, none⟩) ∧
  ∀ i x, l[i]? = some x -> ∃ v, w.cell? ⟨g, i, none⟩ = some v /\ ExIn w (fun k => k < B) v x
theorem pcall_any {B b : Nat} (name : Lx.B) (args : List Ex) (hA : ∀ x ∈ args, PExprC B b x) (l : List UInt8) (w : World) (av : Value) (h : PC B b l w) (hB : B <= w.heap.size) (hP : PEnv B w) (hx : ArgsAt B b w av args) (hlen : l.length + (name ++ ([40] ++ (argL true args ++ [41]))).length <= 100000000) :
  Writes B b l (name ++ ([40] ++ (argL true args ++ [41]))) w 236 #[.pointer (some ⟨b, 0, none⟩), .string (mkT name), av] := by
 unfold Writes
 obtain ⟨ao, cap, hav⟩ : ∃ ao cap, av = .slice ao args.length cap := by
  rcases hx with ⟨e1, e2⟩ | ⟨g, cap, e1, _⟩
  ·exact ⟨none, 0, by rw [e1, e2]; rfl⟩
  ·exact ⟨_, _, e1⟩
 subst hav
 have hl2 : (mkT name).data.toList = name := rfl
 have hn : args.length <= 100000000 := by
  have := argL_two args true
  simp only [List.length_append, List.length_singleton] at hlen
  omega
 simp only [List.length_append, List.length_singleton] at hlen
 have HPUT := zz (put_new B b l [mkT name, ⟨#[40]⟩] w h hB (by show l.length + (name ++ ([40] ++ [])).length <= _; simp only [List.length_append, List.length_singleton, List.length_nil]; omega) (by simp))
 have HA := zz hA
 have HB := zz hB
 have HP := zz hP
 have HX := zz hx
 have HLN : Hid (l.length + (name.length + (1 + ((argL true args).length + 1))) <= 100000000) := zz hlen
 clear hA h hB hP hx hlen hl2
 go_enter Tryz.func236, Tryz.ntmps236
 go_wp2_with fail
 refine HPUT.out.mono ?_
 rintro e w1 ⟨rfl, h1, hb1, ho1⟩
 have HI0 : Hid (PC B b (l ++ (name ++ ([40] ++ argL true (args.take 0)))) w1) := zz h1
 have HB1 := zz hb1
 have HO1 := zz ho1
 clear h1 hb1 ho1
 go_wp2_with fail
 go_loopw [14, 6, 7] (fun i _ _ wr => ∃ k : Nat, k <= args.length /\ i = .int .i64 k /\ PC B b (l ++ (name ++ ([40] ++ argL true (args.take k)))) wr /\ Below B w wr /\ Others b w wr) (fun i _ _ _ => args.length - (intOf i).toNat)
 case atStart => exact ⟨0, Nat.zero_le _, rfl, HI0.out, HB1.out, HO1.out⟩
 case round =>
  obtain ⟨k, hk, rfl, hp, hb, ho⟩ := hrel
  have HPP := zz hp
  have HBL := zz hb
  have HO := zz ho
  clear hp hb ho
  by_cases hlt : k < args.length
  ·obtain ⟨x, hkx⟩ : ∃ x, args[k]? = some x := ⟨_, List.getElem?_eq_getElem hlt⟩
   obtain ⟨g, v, rfl, hcell, hxin⟩ : ∃ g v, ao = some ⟨g, 0, none⟩ /\ wr.cell? ⟨g, k, none⟩ = some v /\ ExIn w (fun k => k < B) v x := by
    rcases HX.out with ⟨_, e2⟩ | ⟨g, cap', e1, hst, hel⟩
    ·rw [e2] at hlt; exact absurd hlt (Nat.not_lt_zero _)
    ·injection e1 with e3 _ _
     obtain ⟨v, h1, h2⟩ := hel k x hkx
     exact ⟨g, v, e3, by rw [hst wr HBL.out HO.out k]; exact h1, h2⟩
   have hki : (k : Int) < (args.length : Int) := by omega
   have hkii : (0 : Int) <= (k : Int) /\ (k : Int) < (args.length : Int) := by omega
   have hw : IntKind.i64.wrap ((k : Int) + 1) = (k : Int) + 1 := IntWalk.i64_in _ (by omega)
   have htk : args.take (k + 1) = args.take k ++ [x] := by rw [List.take_add_one, hkx]; rfl
   have hAT : argL true (args.take (k + 1)) = argL true (args.take k) ++ ((if k = 0 then [] else [44, 32]) ++ exV 1 x) := by
    rw [htk, argL_snoc]
    by_cases hk0 : k = 0
    ·rw [if_pos hk0, if_pos ⟨rfl, by rw [hk0, List.take_zero]⟩]
    ·rw [if_neg hk0, if_neg (fun e => hk0 (by have h7 := congrArg List.length e.2; rw [List.length_take] at h7; have h8 : min k args.length = 0 := h7; omega))]
   have hle := argL_le args (k + 1) true
   rw [hAT, List.length_append, List.length_append] at hle
   have hmem : x ∈ args := List.mem_of_getElem? hkx
   have HXW := zz (hxin.below HBL.out)
   have HEX := zz (HA.out x hmem)
   have HAT := zz hAT
   have HLE := zz hle
   clear hkx hxin htk hAT hle hmem
   by_cases hk0 : k = 0
   ·subst hk0
    have HE := zz (HEX.out 1 _ wr v HPP.out (Nat.le_trans HB.out HBL.out.size) (HP.out.below HBL.out) HXW.out (by have := HLN.out; have h9 := HLE.out; rw [if_pos rfl] at h9; simp only [List.length_append, List.length_singleton, List.length_nil] at h9 ⊢; omega))
    go_wp2_with fail
    refine HE.out.mono ?_
    rintro e w3 ⟨rfl, h3, hb3, ho3⟩
    have h3' : PC B b (l ++ (name ++ ([40] ++ argL true (args.take (0 + 1))))) w3 := by
     have e : l ++ (name ++ ([40] ++ argL true (args.take (0 + 1)))) = l ++ (name ++ ([40] ++ argL true (args.take 0))) ++ exV 1 x := by
      rw [HAT.out]; simp only [List.append_assoc]; rfl
     rw [e]; exact h3
    have H3 := zz h3'
    have HB3 := zz (HBL.out.trans hb3)
    have HO3 := zz (HO.out.trans ho3)
    clear h3 h3' hb3 ho3
    go_wp2_with fail
    exact ⟨⟨0 + 1, by omega, by simp, H3.out, HB3.out, HO3.out⟩, by simp [intOf]; omega⟩
   ·have hgt : (0 : Int) < (k : Int) := by omega
    have HK0 := zz hk0
    have HPUT2 := zz (put_new B b _ [⟨#[44, 32]⟩] wr HPP.out (Nat.le_trans HB.out HBL.out.size) (by have := HLN.out; have h9 := HLE.out; rw [if_neg HK0.out] at h9; simp only [List.length_append, List.length_nil, List.length_cons] at h9 ⊢; show _ + 2 <= _; omega) (by simp))
    clear hk0
    go_wp2_with fail
    refine HPUT2.out.mono ?_
    rintro e w2 ⟨rfl, h2, hb2, ho2⟩
    have HB2 := zz (HBL.out.trans hb2)
    have HO2 := zz (HO.out.trans ho2)
    have HE := zz (HEX.out 1 _ w2 v h2 (Nat.le_trans HB.out HB2.out.size) (HP.out.below HB2.out) (HXW.out.below hb2) (by have := HLN.out; have h9 := HLE.out; rw [if_neg HK0.out] at h9; simp only [List.length_append, List.length_nil, List.length_cons] at h9 ⊢; show _ + 2 + _ <= _; omega))
    clear h2 hb2 ho2
    go_wp2_with fail
    refine HE.out.mono ?_
    rintro e w3 ⟨rfl, h3, hb3, ho3⟩
    have h3' : PC B b (l ++ (name ++ ([40] ++ argL true (args.take (k + 1))))) w3 := by
     have e : l ++ (name ++ ([40] ++ argL true (args.take (k + 1)))) = l ++ (name ++ ([40] ++ argL true (args.take k))) ++ catV [⟨#[44, 32]⟩] ++ exV 1 x := by
      rw [HAT.out, if_neg HK0.out]; simp only [List.append_assoc]; rfl
     rw [e]; exact h3
    have H3 := zz h3'
    have HB3 := zz (HB2.out.trans hb3)
    have HO3 := zz (HO2.out.trans ho3)
    clear h3 h3' hb3 ho3
    go_wp2_with fail
    exact ⟨⟨k + 1, by omega, by simp, H3.out, HB3.out, HO3.out⟩, by simp [intOf]; omega⟩
  ·have hki : ¬ (k : Int) < (args.length : Int) := by omega
   have hkk : k = args.length := by omega
   have HKK := zz hkk
   have h2 := HPP.out
   rw [hkk, List.take_length] at h2
   have HPUT2 := zz (put_new B b _ [⟨#[41]⟩] wr h2 (Nat.le_trans HB.out HBL.out.size) (by have := HLN.out; simp only [List.length_append, List.length_singleton]; show _ + 1 <= _; omega) (by decide))
   clear hkk h2
   go_wp2_with fail
   refine HPUT2.out.mono ?_
   rintro e w3 ⟨rfl, h3, hb3, ho3⟩
   have h3' : PC B b (l ++ (name ++ ([40] ++ (argL true args ++ [41])))) w3 := by
    have e : l ++ (name ++ ([40] ++ (argL true args ++ [41]))) = l ++ (name ++ ([40] ++ argL true args)) ++ catV [⟨#[41]⟩] := by
     simp only [List.append_assoc]; rfl
    rw [e]; exact h3
   have H3 := zz h3'
   have HB3 := zz (HBL.out.trans hb3)
   have HO3 := zz (HO.out.trans ho3)
   clear h3 h3' hb3 ho3
   go_wp2_with fail
   go_end0
   exact ⟨rfl, H3.out, HB3.out, HO3.out⟩
theorem signV_nat (n : Nat) : signV (n : Int) = signL n := by
 unfold signV
 by_cases h : 1 <= (n : Int) /\ (n : Int) <= 19
 ·rw [if_pos h]; rfl
 ·rw [if_neg h]
  by_cases h0 : n = 0
  ·subst h0; rfl
  ·unfold signL
   rw [List.getD_eq_getElem?_getD, List.getElem?_eq_none]
   ·rfl
   ·have : signsL.length = 20 := rfl
    omega
theorem tsign_any (op : Nat) (w : World) (hS : Signs w) : Calls Tryz.prog 234 #[.int .i64 op] w fun e w' => e = .returned (.string (mkT (sgV op))) /\ w = w' := by
 by_cases h1 : op = 30
 ·subst h1
  go_enter Tryz.func234, Tryz.ntmps234
  go_wp2_with fail
  try simp only [Exit.inBlock, Exit.then]
  go_ret
  exact ⟨rfl, rfl⟩
 ·by_cases h2 : op = 31
  ·subst h2
   go_enter Tryz.func234, Tryz.ntmps234
   go_wp2_with fail
   try simp only [Exit.inBlock, Exit.then]
   go_ret
   exact ⟨rfl, rfl⟩
  ·have e1 : ((op : Int) == 30) = false := beq_eq_false_iff_ne.2 (by omega)
   have e2 : ((op : Int) == 31) = false := beq_eq_false_iff_ne.2 (by omega)
   have HC := zz (sign_any (op : Int) w hS)
   have HE : Hid (mkT (sgV op) = ⟨(signV (op : Int)).toArray⟩) := zz (by rw [signV_nat]; unfold sgV; rw [if_neg h1, if_neg h2]; rfl)
   clear hS h1 h2
   rw [HE.out]
   go_enter Tryz.func234, Tryz.ntmps234
   go_wp2_with fail
   refine HC.out.mono ?_
   rintro e w2 ⟨rfl, rfl⟩
   go_wp2_with fail
   try simp only [Exit.inBlock, Exit.then]
   go_ret
   exact ⟨rfl, rfl⟩
theorem boolB_any (c : Bool) (w : World) : Calls Tryz.prog 233 #[.bool c] w fun e w' => e = .returned (.string (mkT (if c then tTrue else tFalse))) /\ w = w' := by
 refine (Tryz.strconv_FormatBool c w).mono ?_
 rintro e w' ⟨rfl, rfl⟩
 cases c <;> exact ⟨rfl, rfl⟩
theorem itoaP_any (n : Nat) (h1 : n <= 9223372036854775807) (w : World) (h : PowT w) : Calls Tryz.prog 39 #[.int .i64 (n : Nat)] w fun e w' => e = .returned (.string (mkT (sOfB n))) /\ Below w.heap.size w w' := by
 refine (Tryz.strconv_Itoa (n : Int) (by omega) (by omega) w h).mono ?_
 rintro e w' ⟨rfl, k, os, rfl⟩
 refine ⟨rfl, ⟨rfl, rfl, rfl, by simp [Sort.grow, World.drewN], fun k hk => by simp [Sort.grow, World.drewN, Array.getElem?_append, hk]⟩⟩
theorem bare_num {B b bk : Nat} {n : Nat} (l : List UInt8) (w : World) (h : PC B b l w) (hB : B <= w.heap.size) (hP : PEnv B w) (c0 : w.cell? ⟨bk, 0, none⟩ = some (.int .i64 1)) (c2 : w.cell? ⟨bk, 2, none⟩ = some (.int .i64 (n : Nat))) (hn : n <= 9223372036854775807) (hlen : l.length + (sOfB n).length <= 100000000) :
  Writes B b l (sOfB n) w 187 #[.pointer (some ⟨b, 0, none⟩), .pointer (some ⟨bk, 0, none⟩)] := by
 unfold Writes
 have HC := zz (itoaP_any n hn w hP.pow)
 have H := zz h
 have HB := zz hB
 have HL := zz hlen
 clear h hB hP hn hlen
 go_enter Tryz.func187, Tryz.ntmps187
 go_wp2_with fail
 refine HC.out.mono ?_
 rintro e w1 ⟨rfl, hb1⟩
 have HPUT := zz (put_new B b l [mkT (sOfB n)] w1 (H.out.fresh hb1) (Nat.le_trans HB.out hb1.size) (by have := HL.out; show l.length + (sOfB n ++ []).length <= _; rw [List.append_nil]; exact this) (by simp))
 have HB1 := zz (hb1.mono HB.out)
 have HO1 : Hid (Others b w w1) := zz (Others.of_new hb1)
 clear hb1
 go_wp2_with fail
 refine HPUT.out.mono ?_
 rintro e w2 ⟨rfl, h2, hb2, ho2⟩
 have h2' : PC B b (l ++ sOfB n) w2 := by
  have e : l ++ sOfB n = l ++ catV [mkT (sOfB n)] := by show _ = l ++ (sOfB n ++ []); rw [List.append_nil]
  rw [e]; exact h2
 have H2 := zz h2'
 have HB2 := zz (HB1.out.trans hb2)
 have HO2 := zz (HO1.out.trans ho2)
 clear h2 h2' hb2 ho2
 go_wp2_with fail
 try simp only [Exit.inBlock, Exit.then]
 go_end0
 exact ⟨rfl, H2.out, HB2.out, HO2.out⟩
theorem bare_bool {B b bk : Nat} {n : Nat} (l : List UInt8) (w : World) (h : PC B b l w) (hB : B <= w.heap.size) (c0 : w.cell? ⟨bk, 0, none⟩ = some (.int .i64 2)) (c2 : w.cell? ⟨bk, 2, none⟩ = some (.int .i64 (n : Nat))) (hlen : l.length + (if n = 0 then tFalse else tTrue).length <= 100000000) :
  Writes B b l (if n = 0 then tFalse else tTrue) w 187 #[.pointer (some ⟨b, 0, none⟩), .pointer (some ⟨bk, 0, none⟩)] := by
 unfold Writes
 obtain ⟨t, ht⟩ : ∃ t, t = (if n = 0 then tFalse else tTrue) := ⟨_, rfl⟩
 rw [<- ht] at hlen ⊢
 have HC : Hid (∀ W, Calls Tryz.prog 233 #[.bool !((n : Int) == 0)] W fun e w' => e = .returned (.string (mkT t)) /\ W = w') := zz fun W => by
  have := boolB_any (!((n : Int) == 0)) W
  have e : (if (!((n : Int) == 0)) then tTrue else tFalse) = t := by
   rw [ht]
   by_cases h0 : n = 0
   ·subst h0; rfl
   ·rw [if_neg h0, if_pos]
    simp; omega
  rw [e] at this
  exact this
 have H := zz (put_new B b l [mkT t] w h hB (by show l.length + (t ++ []).length <= _; rw [List.append_nil]; exact hlen) (by simp))
 clear h hB hlen ht
 go_enter Tryz.func187, Tryz.ntmps187
 go_wp2_with fail
 refine (HC.out _).mono ?_
 rintro e w1 ⟨rfl, rfl⟩
 go_wp2_with fail
 refine H.out.mono ?_
 rintro e w2 ⟨rfl, h2, hb2, ho2⟩
 have h2' : PC B b (l ++ t) w2 := by
  have e : l ++ t = l ++ catV [mkT t] := by show _ = l ++ (t ++ []); rw [List.append_nil]
  rw [e]; exact h2
 have H2 := zz h2'
 have HB2 := zz hb2
 have HO2 := zz ho2
 clear h2 h2' hb2 ho2
 go_wp2_with fail
 try simp only [Exit.inBlock, Exit.then]
 go_end0
 exact ⟨rfl, H2.out, HB2.out, HO2.out⟩
theorem bare_nil {B b bk : Nat}  (l : List UInt8) (w : World) (h : PC B b l w) (hB : B <= w.heap.size) (c0 : w.cell? ⟨bk, 0, none⟩ = some (.int .i64 3)) (hlen : l.length + (tNil).length <= 100000000) :
  Writes B b l (tNil) w 187 #[.pointer (some ⟨b, 0, none⟩), .pointer (some ⟨bk, 0, none⟩)] := by
 unfold Writes
 have H := zz (put_new B b l [mkT tNil] w h hB (by show l.length + (tNil ++ []).length <= _; rw [List.append_nil]; exact hlen) (by simp))
 clear h hB hlen
 go_enter Tryz.func187, Tryz.ntmps187
 go_wp2_with fail
 refine H.out.mono ?_
 rintro e w2 ⟨rfl, h2, hb2, ho2⟩
 have h2' : PC B b (l ++ tNil) w2 := by
  have e : l ++ tNil = l ++ catV [mkT tNil] := by show _ = l ++ (tNil ++ []); rw [List.append_nil]
  rw [e]; exact h2
 have H2 := zz h2'
 have HB2 := zz hb2
 have HO2 := zz ho2
 clear h2 h2' hb2 ho2
 go_wp2_with fail
 try simp only [Exit.inBlock, Exit.then]
 go_end0
 exact ⟨rfl, H2.out, HB2.out, HO2.out⟩
theorem bare_name {B b bk : Nat} {name : Lx.B} (l : List UInt8) (w : World) (h : PC B b l w) (hB : B <= w.heap.size) (c0 : w.cell? ⟨bk, 0, none⟩ = some (.int .i64 4)) (c3 : w.cell? ⟨bk, 3, none⟩ = some (.string (mkT name))) (hlen : l.length + (name).length <= 100000000) :
  Writes B b l (name) w 187 #[.pointer (some ⟨b, 0, none⟩), .pointer (some ⟨bk, 0, none⟩)] := by
 unfold Writes
 have H := zz (put_new B b l [mkT name] w h hB (by show l.length + (name ++ []).length <= _; rw [List.append_nil]; exact hlen) (by simp))
 clear h hB hlen
 go_enter Tryz.func187, Tryz.ntmps187
 go_wp2_with fail
 refine H.out.mono ?_
 rintro e w2 ⟨rfl, h2, hb2, ho2⟩
 have h2' : PC B b (l ++ name) w2 := by
  have e : l ++ name = l ++ catV [mkT name] := by show _ = l ++ (name ++ []); rw [List.append_nil]
  rw [e]; exact h2
 have H2 := zz h2'
 have HB2 := zz hb2
 have HO2 := zz ho2
 clear h2 h2' hb2 ho2
 go_wp2_with fail
 try simp only [Exit.inBlock, Exit.then]
 go_end0
 exact ⟨rfl, H2.out, HB2.out, HO2.out⟩
theorem bare_un {B b bk : Nat} {op : Nat} {x : Ex} {lv : Value} (l : List UInt8) (w : World) (h : PC B b l w) (hB : B <= w.heap.size) (hP : PEnv B w) (c0 : w.cell? ⟨bk, 0, none⟩ = some (.int .i64 6)) (c4 : w.cell? ⟨bk, 4, none⟩ = some (.int .i64 (op : Nat))) (c5 : w.cell? ⟨bk, 5, none⟩ = some lv) (hx : ExIn w (fun k => k < B) lv x) (hE : PExprC B b x) (hbk : bk < B) (hlen : l.length + (signL op ++ exV 6 x).length <= 100000000) :
  Writes B b l (signL op ++ exV 6 x) w 187 #[.pointer (some ⟨b, 0, none⟩), .pointer (some ⟨bk, 0, none⟩)] := by
 unfold Writes
 rw [List.length_append] at hlen
 have HL : Hid (l.length + (List.length (signL op) + (exV 6 x).length) <= 100000000) := zz hlen
 have HPUT := zz (put_new B b l [mkT (signL op)] w h hB (by have := HL.out; show l.length + (signL op ++ []).length <= _; rw [List.append_nil]; omega) (by simp))
 have HB := zz hB
 have HP := zz hP
 have HX := zz hx
 have HE := zz hE
 have HC5 : Hid (∀ W', Below B w W' -> W'.cell? ⟨bk, 5, none⟩ = some lv) := zz fun W' hb => by rw [hb.cell (p := ⟨bk, 5, none⟩) hbk]; exact c5
 have HC0 : Hid (∀ W', Below B w W' -> W'.cell? ⟨bk, 0, none⟩ = some (.int .i64 6)) := zz fun W' hb => by rw [hb.cell (p := ⟨bk, 0, none⟩) hbk]; exact c0
 have HS : Hid (Calls Tryz.prog 235 #[.int .i64 (op : Nat)] w fun e w' => e = .returned (.string (mkT (signL op))) /\ w = w') := zz (by have := sign_any (op : Int) w hP.signs; rw [signV_nat] at this; exact this)
 clear h hB hP hx hE hlen hbk
 go_enter Tryz.func187, Tryz.ntmps187
 go_wp2_with fail
 refine HS.out.mono ?_
 rintro e w1 ⟨rfl, rfl⟩
 go_wp2_with fail
 refine HPUT.out.mono ?_
 rintro e w2 ⟨rfl, h2, hb2, ho2⟩
 have h2' : PC B b (l ++ signL op) w2 := by
  have e : l ++ signL op = l ++ catV [mkT (signL op)] := by show _ = l ++ (signL op ++ []); rw [List.append_nil]
  rw [e]; exact h2
 have d5 := HC5.out w2 hb2
 have HEX := zz (HE.out 6 _ w2 lv h2' (Nat.le_trans HB.out hb2.size) (HP.out.below hb2) (HX.out.below hb2) (by have := HL.out; rw [List.length_append]; omega))
 have HB2 := zz hb2
 have HO2 := zz ho2
 clear h2 h2' hb2 ho2 c5
 go_wp2_with fail
 refine HEX.out.mono ?_
 rintro e w3 ⟨rfl, h3, hb3, ho3⟩
 have H3 : Hid (PC B b (l ++ (signL op ++ exV 6 x)) w3) := zz (by rw [<- List.append_assoc]; exact h3)
 have HB3 := zz (HB2.out.trans hb3)
 have HO3 := zz (HO2.out.trans ho3)
 clear h3 hb3 ho3
 go_wp2_with fail
 try simp only [Exit.inBlock, Exit.then]
 go_end0
 exact ⟨rfl, H3.out, HB3.out, HO3.out⟩
theorem bare_recv {B b bk : Nat} {x : Ex} {lv : Value} (l : List UInt8) (w : World) (h : PC B b l w) (hB : B <= w.heap.size) (hP : PEnv B w) (c0 : w.cell? ⟨bk, 0, none⟩ = some (.int .i64 10)) (c5 : w.cell? ⟨bk, 5, none⟩ = some lv) (hx : ExIn w (fun k => k < B) lv x) (hE : PExprC B b x) (hbk : bk < B) (hlen : l.length + (tArrow ++ exV 6 x).length <= 100000000) :
  Writes B b l (tArrow ++ exV 6 x) w 187 #[.pointer (some ⟨b, 0, none⟩), .pointer (some ⟨bk, 0, none⟩)] := by
 unfold Writes
 rw [List.length_append] at hlen
 have HL : Hid (l.length + (List.length (tArrow) + (exV 6 x).length) <= 100000000) := zz hlen
 have HPUT := zz (put_new B b l [mkT tArrow] w h hB (by have := HL.out; show l.length + (tArrow ++ []).length <= _; rw [List.append_nil]; omega) (by simp))
 have HB := zz hB
 have HP := zz hP
 have HX := zz hx
 have HE := zz hE
 have HC5 : Hid (∀ W', Below B w W' -> W'.cell? ⟨bk, 5, none⟩ = some lv) := zz fun W' hb => by rw [hb.cell (p := ⟨bk, 5, none⟩) hbk]; exact c5
 have HC0 : Hid (∀ W', Below B w W' -> W'.cell? ⟨bk, 0, none⟩ = some (.int .i64 10)) := zz fun W' hb => by rw [hb.cell (p := ⟨bk, 0, none⟩) hbk]; exact c0
 clear h hB hP hx hE hlen hbk
 go_enter Tryz.func187, Tryz.ntmps187
 go_wp2_with fail
 refine HPUT.out.mono ?_
 rintro e w2 ⟨rfl, h2, hb2, ho2⟩
 have h2' : PC B b (l ++ tArrow) w2 := by
  have e : l ++ tArrow = l ++ catV [mkT tArrow] := by show _ = l ++ (tArrow ++ []); rw [List.append_nil]
  rw [e]; exact h2
 have d5 := HC5.out w2 hb2
 have HEX := zz (HE.out 6 _ w2 lv h2' (Nat.le_trans HB.out hb2.size) (HP.out.below hb2) (HX.out.below hb2) (by have := HL.out; rw [List.length_append]; omega))
 have HB2 := zz hb2
 have HO2 := zz ho2
 clear h2 h2' hb2 ho2 c5
 go_wp2_with fail
 refine HEX.out.mono ?_
 rintro e w3 ⟨rfl, h3, hb3, ho3⟩
 have H3 : Hid (PC B b (l ++ (tArrow ++ exV 6 x)) w3) := zz (by rw [<- List.append_assoc]; exact h3)
 have HB3 := zz (HB2.out.trans hb3)
 have HO3 := zz (HO2.out.trans ho3)
 clear h3 hb3 ho3
 go_wp2_with fail
 try simp only [Exit.inBlock, Exit.then]
 go_end0
 exact ⟨rfl, H3.out, HB3.out, HO3.out⟩
theorem bare_make {B b bk : Nat} {x : Ex} {q : Option Addr} (l : List UInt8) (w : World) (h : PC B b l w) (hB : B <= w.heap.size) (hP : PEnv B w) (c0 : w.cell? ⟨bk, 0, none⟩ = some (.int .i64 8)) (c5 : w.cell? ⟨bk, 5, none⟩ = some (.pointer q)) (hx : ExIn w (fun k => k < B) (.pointer q) x) (hE : PExprC B b x) (hlen : l.length + (tMake ++ ([40] ++ (exV 1 x ++ [41]))).length <= 100000000) :
    Writes B b l (tMake ++ ([40] ++ (exV 1 x ++ [41]))) w 187 #[.pointer (some ⟨b, 0, none⟩), .pointer (some ⟨bk, 0, none⟩)] := by
  unfold Writes
  have hb : Below w.heap.size w (w.alloc (.cells #[.pointer q] 60)) := ((Keeps.refl (fun _ => False) w).alloc _).below (Nat.le_refl _) (fun _ _ e => e.elim)
  have hcw : (w.alloc (.cells #[.pointer q] 60)).heap[w.heap.size]? = some (.cells #[.pointer q] 60 (0, 0)) := heap_alloc_new w _
  have hblt := h.1.lt
  have H := zz (pcall_any (B := B) (b := b) tMake [x] (fun y hy => by cases hy with | head => exact hE | tail _ h => cases h) l (w.alloc (.cells #[.pointer q] 60)) (.slice (some ⟨w.heap.size, 0, none⟩) 1 1) (h.fresh hb) (Nat.le_trans hB hb.size) (hP.below (hb.mono hB))
    (Or.inr ⟨w.heap.size, 1, rfl, fun W' _ ho i => by
        rw [Lib.cell_of_heap (ho w.heap.size _ _ _ (by omega) (by decide) hcw), Lib.cell_of_heap hcw], fun i y hy => by
        cases i with
        | zero => exact ⟨.pointer q, by rw [Lib.cell_of_heap hcw]; rfl, by cases hy; exact hx.below (hb.mono hB)⟩
        | succ i => simp at hy⟩)
    (by show l.length + (tMake ++ ([40] ++ ((exV 1 x ++ []) ++ [41]))).length <= _; rw [List.append_nil]; exact hlen))
  have HBW := zz (hb.mono hB)
  have HOW : Hid (Others b w (w.alloc (.cells #[.pointer q] 60))) := zz (Others.of_new hb)
  clear h hB hP hx hE hlen hb hcw hblt
  go_enter Tryz.func187, Tryz.ntmps187
  go_wp2_with fail
  refine H.out.mono ?_
  rintro e w2 ⟨rfl, h2, hb2, ho2⟩
  have H2 : Hid (PC B b (l ++ (tMake ++ ([40] ++ (exV 1 x ++ [41])))) w2) := zz (by
    have e : tMake ++ ([40] ++ (exV 1 x ++ [41])) = tMake ++ ([40] ++ (argL true [x] ++ [41])) := by show _ = tMake ++ ([40] ++ ((exV 1 x ++ []) ++ [41])); rw [List.append_nil]
    rw [e]; exact h2)
  have HB2 := zz (HBW.out.trans hb2)
  have HO2 := zz (HOW.out.trans ho2)
  clear h2 hb2 ho2
  go_wp2_with fail
  try simp only [Exit.inBlock, Exit.then]
  go_end0
  exact ⟨rfl, H2.out, HB2.out, HO2.out⟩
theorem bare_len {B b bk : Nat} {x : Ex} {q : Option Addr} (l : List UInt8) (w : World) (h : PC B b l w) (hB : B <= w.heap.size) (hP : PEnv B w) (c0 : w.cell? ⟨bk, 0, none⟩ = some (.int .i64 9)) (c5 : w.cell? ⟨bk, 5, none⟩ = some (.pointer q)) (hx : ExIn w (fun k => k < B) (.pointer q) x) (hE : PExprC B b x) (hlen : l.length + (tLen ++ ([40] ++ (exV 1 x ++ [41]))).length <= 100000000) :
    Writes B b l (tLen ++ ([40] ++ (exV 1 x ++ [41]))) w 187 #[.pointer (some ⟨b, 0, none⟩), .pointer (some ⟨bk, 0, none⟩)] := by
  unfold Writes
  have hb : Below w.heap.size w (w.alloc (.cells #[.pointer q] 60)) := ((Keeps.refl (fun _ => False) w).alloc _).below (Nat.le_refl _) (fun _ _ e => e.elim)
  have hcw : (w.alloc (.cells #[.pointer q] 60)).heap[w.heap.size]? = some (.cells #[.pointer q] 60 (0, 0)) := heap_alloc_new w _
  have hblt := h.1.lt
  have H := zz (pcall_any (B := B) (b := b) tLen [x] (fun y hy => by cases hy with | head => exact hE | tail _ h => cases h) l (w.alloc (.cells #[.pointer q] 60)) (.slice (some ⟨w.heap.size, 0, none⟩) 1 1) (h.fresh hb) (Nat.le_trans hB hb.size) (hP.below (hb.mono hB))
    (Or.inr ⟨w.heap.size, 1, rfl, fun W' _ ho i => by
        rw [Lib.cell_of_heap (ho w.heap.size _ _ _ (by omega) (by decide) hcw), Lib.cell_of_heap hcw], fun i y hy => by
        cases i with
        | zero => exact ⟨.pointer q, by rw [Lib.cell_of_heap hcw]; rfl, by cases hy; exact hx.below (hb.mono hB)⟩
        | succ i => simp at hy⟩)
    (by show l.length + (tLen ++ ([40] ++ ((exV 1 x ++ []) ++ [41]))).length <= _; rw [List.append_nil]; exact hlen))
  have HBW := zz (hb.mono hB)
  have HOW : Hid (Others b w (w.alloc (.cells #[.pointer q] 60))) := zz (Others.of_new hb)
  clear h hB hP hx hE hlen hb hcw hblt
  go_enter Tryz.func187, Tryz.ntmps187
  go_wp2_with fail
  refine H.out.mono ?_
  rintro e w2 ⟨rfl, h2, hb2, ho2⟩
  have H2 : Hid (PC B b (l ++ (tLen ++ ([40] ++ (exV 1 x ++ [41])))) w2) := zz (by
    have e : tLen ++ ([40] ++ (exV 1 x ++ [41])) = tLen ++ ([40] ++ (argL true [x] ++ [41])) := by show _ = tLen ++ ([40] ++ ((exV 1 x ++ []) ++ [41])); rw [List.append_nil]
    rw [e]; exact h2)
  have HB2 := zz (HBW.out.trans hb2)
  have HO2 := zz (HOW.out.trans ho2)
  clear h2 hb2 ho2
  go_wp2_with fail
  try simp only [Exit.inBlock, Exit.then]
  go_end0
  exact ⟨rfl, H2.out, HB2.out, HO2.out⟩
theorem ArgsAt.drew {B b : Nat} {av : Value} {l : List Ex} (h : ArgsAt B b w av l) : ArgsAt B b w.drew av l := by
 rcases h with h | ⟨g, cap, e, h1, h2⟩
 ·exact Or.inl h
 ·exact Or.inr ⟨g, cap, e, fun W' hb ho i => h1 W' (Below.trans (Below.drew (Below.refl B w)) hb) (Others.trans (Others.of_new (Below.drew (Below.refl _ _))) ho) i, fun i x hi => by
   obtain ⟨v, a1, a2⟩ := h2 i x hi
   exact ⟨v, a1, a2.below (Below.drew (Below.refl B w))⟩⟩
theorem bare_bin {B b bk op : Nat} {x y : Ex} {q p : Option Addr} (l : List UInt8) (w : World) (h : PC B b l w) (hB : B <= w.heap.size) (hP : PEnv B w) (c0 : w.cell? ⟨bk, 0, none⟩ = some (.int .i64 5)) (c4 : w.cell? ⟨bk, 4, none⟩ = some (.int .i64 (op : Nat))) (c5 : w.cell? ⟨bk, 5, none⟩ = some (.pointer q)) (c6 : w.cell? ⟨bk, 6, none⟩ = some (.pointer p)) (hbk : bk < B)
  (hx : ExIn w (fun k => k < B) (.pointer q) x) (hy : ExIn w (fun k => k < B) (.pointer p) y) (hE : PExprC B b x) (hF : PExprC B b y) (hlen : l.length + (exV (levV op) x ++ ([32] ++ (sgV op ++ ([32] ++ exV (levV op + 1) y)))).length <= 100000000) :
  Writes B b l (exV (levV op) x ++ ([32] ++ (sgV op ++ ([32] ++ exV (levV op + 1) y)))) w 187 #[.pointer (some ⟨b, 0, none⟩), .pointer (some ⟨bk, 0, none⟩)] := by
 unfold Writes
 simp only [List.length_append] at hlen
 have HL : Hid (l.length + ((exV (levV op) x).length + (1 + (List.length (sgV op) + (1 + (exV (levV op + 1) y).length)))) <= 100000000) := zz hlen
 have HC : Hid (∀ W', Below B w W' -> W'.cell? ⟨bk, 4, none⟩ = some (.int .i64 (op : Nat)) /\ W'.cell? ⟨bk, 6, none⟩ = some (.pointer p)) := zz fun W' hb => ⟨by rw [hb.cell (p := ⟨bk, 4, none⟩) hbk]; exact c4, by rw [hb.cell (p := ⟨bk, 6, none⟩) hbk]; exact c6⟩
 have hbd : Below B w w.drew := Below.drew (Below.refl B w)
 have HC5 : Hid (∀ W', Below B w W' -> W'.cell? ⟨bk, 5, none⟩ = some (.pointer q)) := zz fun W' hb => by rw [hb.cell (p := ⟨bk, 5, none⟩) hbk]; exact c5
 have HLV : Hid (∀ W, Calls Tryz.prog 186 #[.int .i64 (op : Nat)] W fun e w' => e = .returned (.int .i64 (levV op : Nat)) /\ W = w') := zz fun W => level_any op W
 have HEX := zz (hE (levV op) l w.drew _ (h.fresh (Below.drew (Below.refl _ _))) hB (hP.below hbd) (hx.below hbd) (by have := HL.out; omega))
 have HB := zz hB
 have HP := zz hP
 have HY := zz hy
 have HF := zz hF
 have HBD := zz hbd
 clear h hB hP hx hy hE hF hlen hbk hbd
 go_enter Tryz.func187, Tryz.ntmps187
 go_wp2_with fail
 refine wp_region_held_drew (S := (fun W' : World => W'.cell? ⟨bk, 4, none⟩ = some (.int .i64 (op : Nat)) /\ W'.cell? ⟨bk, 5, none⟩ = some (.pointer q))) (by kernel_rfl) ⟨by simp only [World.cell?_drew]; assumption, by simp only [World.cell?_drew]; assumption⟩ (fun hHeld => ?_)
 refine tk 0 45 (.pointer (some ⟨b, 0, none⟩)) rfl (.inl ⟨by rfl, ?_⟩) hHeld ?_
 ·intro W9 hSW; (try dsimp only at hSW); go_simp
 try simp only [Act.put, List.setIfInBounds_toArray, List.set_cons_zero, List.set_cons_succ]
 refine tk 1 46 (.pointer (some ⟨bk, 0, none⟩)) rfl (.inl ⟨by rfl, ?_⟩) hHeld ?_
 ·intro W9 hSW; (try dsimp only at hSW); go_simp
 try simp only [Act.put, List.setIfInBounds_toArray, List.set_cons_zero, List.set_cons_succ]
 refine tk 2 47 (.pointer (some ⟨bk, 0, none⟩)) rfl (.inl ⟨by rfl, ?_⟩) hHeld ?_
 ·intro W9 hSW; (try dsimp only at hSW); go_simp
 try simp only [Act.put, List.setIfInBounds_toArray, List.set_cons_zero, List.set_cons_succ]
 refine tk 3 48 (.pointer (some ⟨bk, 5, none⟩)) rfl (.inl ⟨by rfl, ?_⟩) hHeld ?_
 ·intro W9 hSW; (try dsimp only at hSW); go_simp
 try simp only [Act.put, List.setIfInBounds_toArray, List.set_cons_zero, List.set_cons_succ]
 refine tk 4 49 (.pointer q) rfl (.inl ⟨by rfl, ?_⟩) hHeld ?_
 ·intro W9 hSW; (try dsimp only at hSW); go_simp
 try simp only [Act.put, List.setIfInBounds_toArray, List.set_cons_zero, List.set_cons_succ]
 refine tk 5 50 (.pointer (some ⟨bk, 0, none⟩)) rfl (.inl ⟨by rfl, ?_⟩) hHeld ?_
 ·intro W9 hSW; (try dsimp only at hSW); go_simp
 try simp only [Act.put, List.setIfInBounds_toArray, List.set_cons_zero, List.set_cons_succ]
 refine tk 6 51 (.pointer (some ⟨bk, 0, none⟩)) rfl (.inl ⟨by rfl, ?_⟩) hHeld ?_
 ·intro W9 hSW; (try dsimp only at hSW); go_simp
 try simp only [Act.put, List.setIfInBounds_toArray, List.set_cons_zero, List.set_cons_succ]
 refine tk 7 52 (.pointer (some ⟨bk, 4, none⟩)) rfl (.inl ⟨by rfl, ?_⟩) hHeld ?_
 ·intro W9 hSW; (try dsimp only at hSW); go_simp
 try simp only [Act.put, List.setIfInBounds_toArray, List.set_cons_zero, List.set_cons_succ]
 refine tk 8 53 (.int .i64 (op : Nat)) rfl (.inl ⟨by rfl, ?_⟩) hHeld ?_
 ·intro W9 hSW; (try dsimp only at hSW); go_simp
 try simp only [Act.put, List.setIfInBounds_toArray, List.set_cons_zero, List.set_cons_succ]
 refine wpAnyH_ready (rs := [9]) (by kernel_rfl) (by simp) ?_
 refine AllReadyH.cons (o := { dst := some 54, op := _, type := _, pos := _, after := _, guard := _ }) rfl (fun K hK => ?_) AllReadyH.nil
 go_simp
 go_at_call 186
 refine (HLV.out _).mono ?_
 rintro e w1 ⟨rfl, rfl⟩
 refine hK.out _ _ hHeld (fun hHeld => ?_)
 clear hK K
 refine wpAnyH_ready (rs := [10]) (by kernel_rfl) (by simp) ?_
 refine AllReadyH.cons (o := { dst := some 55, op := _, type := _, pos := _, after := _, guard := _ }) rfl (fun K hK => ?_) AllReadyH.nil
 go_simp
 go_at_call 132
 refine HEX.out.mono ?_
 rintro e w2 ⟨rfl, h2, hb2, ho2⟩
 have HB2 := zz (HBD.out.trans hb2)
 have HO2 : Hid (Others b w w2) := zz ((Others.of_new (Below.drew (Below.refl _ _))).trans ho2)
 have H2 := zz h2
 have d4 := (HC.out w2 HB2.out).1
 have d6 := (HC.out w2 HB2.out).2
 have d5 : w2.cell? ⟨bk, 5, none⟩ = some (.pointer q) := HC5.out w2 HB2.out
 clear h2 hb2 ho2
 refine hK.out _ _ ⟨d4, d5⟩ (fun hHeld => ?_)
 clear hK K
 refine wpAnyH_done (by kernel_rfl) ?_ _
 have HSG := zz (tsign_any op w2 (HP.out.below HB2.out).signs)
 have HPUT := zz (put_new B b _ [⟨#[32]⟩, mkT (sgV op), ⟨#[32]⟩] w2 H2.out (Nat.le_trans HB.out HB2.out.size) (by have := HL.out; rw [List.length_append]; show l.length + _ + ([32] ++ (sgV op ++ ([32] ++ []))).length <= _; simp only [List.length_append, List.length_singleton, List.length_nil]; omega) (by simp))
 clear c4 c5 c6
 go_wp2_with fail
 refine HSG.out.mono ?_
 rintro e w3 ⟨rfl, rfl⟩
 go_wp2_with fail
 refine HPUT.out.mono ?_
 rintro e w4 ⟨rfl, h4, hb4, ho4⟩
 have HB4 := zz (HB2.out.trans hb4)
 have HO4 := zz (HO2.out.trans ho4)
 have hbd : Below B w w4.drew := HB4.out.trans (Below.drew (Below.refl B w4))
 have hcat : catV [⟨#[32]⟩, mkT (sgV op), ⟨#[32]⟩] = [32] ++ (sgV op ++ ([32] ++ [])) := rfl
 have HEY := zz (HF.out (levV op + 1) _ w4.drew _ (h4.fresh (Below.drew (Below.refl _ _))) (Nat.le_trans HB.out HB4.out.size) (HP.out.below hbd) (HY.out.below hbd) (by have := HL.out; rw [hcat]; simp only [List.length_append, List.length_singleton, List.length_nil]; omega))
 have d6 := (HC.out w4 HB4.out).2
 have d4 := (HC.out w4 HB4.out).1
 have HBD2 := zz hbd
 have hw : IntKind.i64.wrap ((levV op : Nat) + 1 : Int) = ((levV op + 1 : Nat) : Int) := by
  rw [IntWalk.i64_in _ (by have : levV op <= 5 := (by unfold levV; (repeat' split) <;> omega); omega)]; omega
 clear h4 hb4 ho4 hbd hcat
 go_wp2_with fail
 refine wp_region_held_drew (S := (fun W' : World => W'.cell? ⟨bk, 4, none⟩ = some (.int .i64 (op : Nat)) /\ W'.cell? ⟨bk, 6, none⟩ = some (.pointer p))) (by kernel_rfl) ⟨by simp only [World.cell?_drew]; assumption, by simp only [World.cell?_drew]; assumption⟩ (fun hHeld => ?_)
 refine tk 0 64 (.pointer (some ⟨b, 0, none⟩)) rfl (.inl ⟨by rfl, ?_⟩) hHeld ?_
 ·intro W9 hSW; (try dsimp only at hSW); go_simp
 try simp only [Act.put, List.setIfInBounds_toArray, List.set_cons_zero, List.set_cons_succ]
 refine tk 1 65 (.pointer (some ⟨bk, 0, none⟩)) rfl (.inl ⟨by rfl, ?_⟩) hHeld ?_
 ·intro W9 hSW; (try dsimp only at hSW); go_simp
 try simp only [Act.put, List.setIfInBounds_toArray, List.set_cons_zero, List.set_cons_succ]
 refine tk 2 66 (.pointer (some ⟨bk, 0, none⟩)) rfl (.inl ⟨by rfl, ?_⟩) hHeld ?_
 ·intro W9 hSW; (try dsimp only at hSW); go_simp
 try simp only [Act.put, List.setIfInBounds_toArray, List.set_cons_zero, List.set_cons_succ]
 refine tk 3 67 (.pointer (some ⟨bk, 6, none⟩)) rfl (.inl ⟨by rfl, ?_⟩) hHeld ?_
 ·intro W9 hSW; (try dsimp only at hSW); go_simp
 try simp only [Act.put, List.setIfInBounds_toArray, List.set_cons_zero, List.set_cons_succ]
 refine tk 4 68 (.pointer p) rfl (.inl ⟨by rfl, ?_⟩) hHeld ?_
 ·intro W9 hSW; (try dsimp only at hSW); go_simp
 try simp only [Act.put, List.setIfInBounds_toArray, List.set_cons_zero, List.set_cons_succ]
 refine tk 5 69 (.pointer (some ⟨bk, 0, none⟩)) rfl (.inl ⟨by rfl, ?_⟩) hHeld ?_
 ·intro W9 hSW; (try dsimp only at hSW); go_simp
 try simp only [Act.put, List.setIfInBounds_toArray, List.set_cons_zero, List.set_cons_succ]
 refine tk 6 70 (.pointer (some ⟨bk, 0, none⟩)) rfl (.inl ⟨by rfl, ?_⟩) hHeld ?_
 ·intro W9 hSW; (try dsimp only at hSW); go_simp
 try simp only [Act.put, List.setIfInBounds_toArray, List.set_cons_zero, List.set_cons_succ]
 refine tk 7 71 (.pointer (some ⟨bk, 4, none⟩)) rfl (.inl ⟨by rfl, ?_⟩) hHeld ?_
 ·intro W9 hSW; (try dsimp only at hSW); go_simp
 try simp only [Act.put, List.setIfInBounds_toArray, List.set_cons_zero, List.set_cons_succ]
 refine tk 8 72 (.int .i64 (op : Nat)) rfl (.inl ⟨by rfl, ?_⟩) hHeld ?_
 ·intro W9 hSW; (try dsimp only at hSW); go_simp
 try simp only [Act.put, List.setIfInBounds_toArray, List.set_cons_zero, List.set_cons_succ]
 refine wpAnyH_ready (rs := [9]) (by kernel_rfl) (by simp) ?_
 refine AllReadyH.cons (o := { dst := some 73, op := _, type := _, pos := _, after := _, guard := _ }) rfl (fun K hK => ?_) AllReadyH.nil
 go_simp
 go_at_call 186
 refine (HLV.out _).mono ?_
 rintro e w5 ⟨rfl, rfl⟩
 refine hK.out _ _ hHeld (fun hHeld => ?_)
 clear hK K
 refine tk 10 74 (.int .i64 ((levV op + 1 : Nat) : Int)) rfl (.inl ⟨by rfl, ?_⟩) hHeld ?_
 ·intro W9 hSW; (try dsimp only at hSW); go_simp
 try simp only [Act.put, List.setIfInBounds_toArray, List.set_cons_zero, List.set_cons_succ]
 refine wpAnyH_ready (rs := [11]) (by kernel_rfl) (by simp) ?_
 refine AllReadyH.cons (o := { dst := some 75, op := _, type := _, pos := _, after := _, guard := _ }) rfl (fun K hK => ?_) AllReadyH.nil
 go_simp
 go_at_call 132
 refine HEY.out.mono ?_
 rintro e w6 ⟨rfl, h6, hb6, ho6⟩
 have HB6 := zz (HBD2.out.trans hb6)
 have HO6 : Hid (Others b w w6) := zz ((HO4.out.trans (Others.of_new (Below.drew (Below.refl _ _)))).trans ho6)
 have h6' : PC B b (l ++ (exV (levV op) x ++ ([32] ++ (sgV op ++ ([32] ++ exV (levV op + 1) y))))) w6 := by
  have e : l ++ (exV (levV op) x ++ ([32] ++ (sgV op ++ ([32] ++ exV (levV op + 1) y)))) = l ++ exV (levV op) x ++ catV [⟨#[32]⟩, mkT (sgV op), ⟨#[32]⟩] ++ exV (levV op + 1) y := by
   show _ = l ++ exV (levV op) x ++ ([32] ++ (sgV op ++ ([32] ++ []))) ++ exV (levV op + 1) y
   simp only [List.append_assoc, List.append_nil]
  rw [e]; exact h6
 have H6 := zz h6'
 have e4 := (HC.out w6 HB6.out).1
 have e6 := (HC.out w6 HB6.out).2
 clear h6 h6' hb6 ho6
 refine hK.out _ _ ⟨e4, e6⟩ (fun hHeld => ?_)
 clear hK K
 refine wpAnyH_done (by kernel_rfl) ?_ _
 go_wp2_with fail
 try simp only [Exit.inBlock, Exit.then]
 go_end0
 exact ⟨rfl, H6.out, HB6.out, HO6.out⟩
theorem bare_call {B b bk : Nat} {name : Lx.B} {ar : List Ex} {av : Value} (l : List UInt8) (w : World) (h : PC B b l w) (hB : B <= w.heap.size) (hP : PEnv B w) (c0 : w.cell? ⟨bk, 0, none⟩ = some (.int .i64 7)) (c3 : w.cell? ⟨bk, 3, none⟩ = some (.string (mkT name))) (c7 : w.cell? ⟨bk, 7, none⟩ = some av) (hbk : bk < B)
  (hx : ArgsAt B b w av ar) (hA : ∀ x ∈ ar, PExprC B b x) (hlen : l.length + (name ++ ([40] ++ (argL true ar ++ [41]))).length <= 100000000) :
  Writes B b l (name ++ ([40] ++ (argL true ar ++ [41]))) w 187 #[.pointer (some ⟨b, 0, none⟩), .pointer (some ⟨bk, 0, none⟩)] := by
 unfold Writes
 have hbd : Below B w w.drew := Below.drew (Below.refl B w)
 have hxd : ArgsAt B b w.drew av ar := hx.drew
 obtain ⟨ao, n, cap, rfl⟩ : ∃ ao n cap, av = .slice ao n cap := by
  rcases hx with ⟨e1, e2⟩ | ⟨g, cap, e1, _⟩
  ·exact ⟨_, _, _, e1⟩
  ·exact ⟨_, _, _, e1⟩
 have H := zz (pcall_any name ar hA l w.drew _ (h.fresh (Below.drew (Below.refl _ _))) hB (hP.below hbd) hxd hlen)
 have HC : Hid (∀ W', Below B w W' -> W'.cell? ⟨bk, 3, none⟩ = some (.string (mkT name)) /\ W'.cell? ⟨bk, 7, none⟩ = some (.slice ao n cap)) := zz fun W' hb => ⟨by rw [hb.cell (p := ⟨bk, 3, none⟩) hbk]; exact c3, by rw [hb.cell (p := ⟨bk, 7, none⟩) hbk]; exact c7⟩
 have HBD := zz hbd
 clear h hB hP hx hA hlen hbk hbd hxd
 go_enter Tryz.func187, Tryz.ntmps187
 go_wp2_with fail
 refine wp_region_held_drew (S := (fun W' : World => W'.cell? ⟨bk, 3, none⟩ = some (.string (mkT name)) /\ W'.cell? ⟨bk, 7, none⟩ = some (.slice ao n cap))) (by kernel_rfl) ⟨by simp only [World.cell?_drew]; assumption, by simp only [World.cell?_drew]; assumption⟩ (fun hHeld => ?_)
 refine tk 0 123 (.pointer (some ⟨b, 0, none⟩)) rfl (.inl ⟨by rfl, ?_⟩) hHeld ?_
 ·intro W9 hSW; (try dsimp only at hSW); go_simp
 try simp only [Act.put, List.setIfInBounds_toArray, List.set_cons_zero, List.set_cons_succ]
 refine tk 1 124 (.pointer (some ⟨bk, 0, none⟩)) rfl (.inl ⟨by rfl, ?_⟩) hHeld ?_
 ·intro W9 hSW; (try dsimp only at hSW); go_simp
 try simp only [Act.put, List.setIfInBounds_toArray, List.set_cons_zero, List.set_cons_succ]
 refine tk 2 125 (.pointer (some ⟨bk, 0, none⟩)) rfl (.inl ⟨by rfl, ?_⟩) hHeld ?_
 ·intro W9 hSW; (try dsimp only at hSW); go_simp
 try simp only [Act.put, List.setIfInBounds_toArray, List.set_cons_zero, List.set_cons_succ]
 refine tk 3 126 (.pointer (some ⟨bk, 3, none⟩)) rfl (.inl ⟨by rfl, ?_⟩) hHeld ?_
 ·intro W9 hSW; (try dsimp only at hSW); go_simp
 try simp only [Act.put, List.setIfInBounds_toArray, List.set_cons_zero, List.set_cons_succ]
 refine tk 4 127 (.string (mkT name)) rfl (.inl ⟨by rfl, ?_⟩) hHeld ?_
 ·intro W9 hSW; (try dsimp only at hSW); go_simp
 try simp only [Act.put, List.setIfInBounds_toArray, List.set_cons_zero, List.set_cons_succ]
 refine tk 5 128 (.pointer (some ⟨bk, 0, none⟩)) rfl (.inl ⟨by rfl, ?_⟩) hHeld ?_
 ·intro W9 hSW; (try dsimp only at hSW); go_simp
 try simp only [Act.put, List.setIfInBounds_toArray, List.set_cons_zero, List.set_cons_succ]
 refine tk 6 129 (.pointer (some ⟨bk, 0, none⟩)) rfl (.inl ⟨by rfl, ?_⟩) hHeld ?_
 ·intro W9 hSW; (try dsimp only at hSW); go_simp
 try simp only [Act.put, List.setIfInBounds_toArray, List.set_cons_zero, List.set_cons_succ]
 refine tk 7 130 (.pointer (some ⟨bk, 7, none⟩)) rfl (.inl ⟨by rfl, ?_⟩) hHeld ?_
 ·intro W9 hSW; (try dsimp only at hSW); go_simp
 try simp only [Act.put, List.setIfInBounds_toArray, List.set_cons_zero, List.set_cons_succ]
 refine tk 8 131 (.slice ao n cap) rfl (.inl ⟨by rfl, ?_⟩) hHeld ?_
 ·intro W9 hSW; (try dsimp only at hSW); go_simp
 try simp only [Act.put, List.setIfInBounds_toArray, List.set_cons_zero, List.set_cons_succ]
 refine wpAnyH_ready (rs := [9]) (by kernel_rfl) (by simp) ?_
 refine AllReadyH.cons (o := { dst := some 132, op := _, type := _, pos := _, after := _, guard := _ }) rfl (fun K hK => ?_) AllReadyH.nil
 go_simp
 go_at_call 236
 refine H.out.mono ?_
 rintro e w2 ⟨rfl, h2, hb2, ho2⟩
 have HB2 := zz (HBD.out.trans hb2)
 have HO2 : Hid (Others b w w2) := zz ((Others.of_new (Below.drew (Below.refl _ _))).trans ho2)
 have H2 := zz h2
 clear h2 hb2 ho2
 refine hK.out _ _ (HC.out w2 HB2.out) (fun hHeld => ?_)
 clear hK K
 refine wpAnyH_done (by kernel_rfl) ?_ _
 go_wp2_with fail
 try simp only [Exit.inBlock, Exit.then]
 go_end0
 exact ⟨rfl, H2.out, HB2.out, HO2.out⟩
theorem bare_other {B b bk code : Nat} (hc : code = 0 \/ 10 < code) (l : List UInt8) (w : World) (h : PC B b l w) (c0 : w.cell? ⟨bk, 0, none⟩ = some (.int .i64 (code : Nat))) :
  Writes B b l [] w 187 #[.pointer (some ⟨b, 0, none⟩), .pointer (some ⟨bk, 0, none⟩)] := by
 unfold Writes
 rw [List.append_nil]
 have H := zz h
 have e1 : ((code : Int) == 1) = false := beq_eq_false_iff_ne.2 (by omega)
 have e2 : ((code : Int) == 2) = false := beq_eq_false_iff_ne.2 (by omega)
 have e3 : ((code : Int) == 3) = false := beq_eq_false_iff_ne.2 (by omega)
 have e4 : ((code : Int) == 4) = false := beq_eq_false_iff_ne.2 (by omega)
 have e5 : ((code : Int) == 5) = false := beq_eq_false_iff_ne.2 (by omega)
 have e6 : ((code : Int) == 6) = false := beq_eq_false_iff_ne.2 (by omega)
 have e7 : ((code : Int) == 7) = false := beq_eq_false_iff_ne.2 (by omega)
 have e8 : ((code : Int) == 8) = false := beq_eq_false_iff_ne.2 (by omega)
 have e9 : ((code : Int) == 9) = false := beq_eq_false_iff_ne.2 (by omega)
 have e10 : ((code : Int) == 10) = false := beq_eq_false_iff_ne.2 (by omega)
 clear h hc
 go_enter Tryz.func187, Tryz.ntmps187
 go_wp2_with fail
 try simp only [Exit.inBlock, Exit.then]
 go_end0
 exact ⟨rfl, H.out, Below.refl _ _, Others.refl _ _⟩
theorem exsIn_at {F : Nat -> Prop} {g : Nat} : ∀ (xs : Exs) (i : Nat), ExsIn w F g i xs -> ∀ (j : Nat) (x : Ex), xs.toList[j]? = some x -> ∃ v, w.cell? ⟨g, (i + j : Nat), none⟩ = some v /\ ExIn w F v x
 | .nil, _, _, j, x, h => by simp [Exs.toList] at h
 | .cons y ys, i, ⟨h1, h2⟩, 0, x, h => by
  obtain ⟨v, a1, a2⟩ := h1
  have e : y = x := by simpa [Exs.toList] using h
  subst e
  exact ⟨v, a1, a2⟩
 | .cons y ys, i, ⟨h1, h2⟩, j + 1, x, h => by
  obtain ⟨v, a1, a2⟩ := exsIn_at ys (i + 1) h2 j x (by simpa [Exs.toList] using h)
  exact ⟨v, by rw [show i + (j + 1) = i + 1 + j by omega]; exact a1, a2⟩
theorem argsAt_of {B b : Nat} {av : Value} {args : Exs} (ha : (av = .slice none 0 0 /\ args.len = 0) \/ ∃ g cap, av = .slice (some ⟨g, 0, none⟩) args.len cap /\ args.len <= cap /\ cap <= maxLen /\ 0 < args.len /\ g < B)
  (has : ∀ g n cap, av = .slice (some ⟨g, 0, none⟩) n cap -> ExsIn w (fun k => k < B) g 0 args) : ArgsAt B b w av args.toList := by
 rcases ha with ⟨e1, e2⟩ | ⟨g, cap, e1, _, _, _, hg⟩
 ·refine Or.inl ⟨e1, ?_⟩
  cases args with
  | nil => rfl
  | cons x xs => exact absurd e2 (by show xs.len + 1 ≠ 0; omega)
 ·refine Or.inr ⟨g, cap, by rw [e1, Exs.len_list], fun W' hb _ i => hb.cell (p := ⟨g, i, none⟩) hg, fun i x hi => ?_⟩
  obtain ⟨v, a1, a2⟩ := exsIn_at args 0 (has g _ _ e1) i x hi
  rw [Nat.zero_add] at a1
  exact ⟨v, a1, a2⟩
theorem exIn_ptr {F : Nat -> Prop} {v : Value} {x : Ex} (h : ExIn w F v x) : ∃ q, v = .pointer q := by
 cases x with
 | nil => exact ⟨none, h⟩
 | mk => obtain ⟨b, _, _, _, e, _⟩ := h; exact ⟨_, e⟩
theorem bare_any {B b : Nat} (code at_ n op : Nat) (name : Lx.B) (lx rx : Ex) (args : Exs) (hn : n <= 9223372036854775807) (hL : PExprC B b lx) (hR : PExprC B b rx) (hA : ∀ x ∈ args.toList, PExprC B b x) : BareC B b (.mk code at_ n op name lx rx args) := by
 intro l w v h hB hP hx hlen _
 obtain ⟨bk, lv, rv, av, rfl, hbk, c0, _, c2, c3, c4, c5, c6, c7, hl, hr, ha, has⟩ := hx
 obtain ⟨q, rfl⟩ := exIn_ptr hl
 obtain ⟨p, rfl⟩ := exIn_ptr hr
 by_cases h1 : code = 1
 ·subst h1
  have e : bareV (.mk 1 at_ n op name lx rx args) = sOfB n := by rw [bareV]; rfl
  rw [e] at hlen ⊢
  exact bare_num l w h hB hP c0 c2 hn hlen
 by_cases h2 : code = 2
 ·subst h2
  have e : bareV (.mk 2 at_ n op name lx rx args) = if n = 0 then tFalse else tTrue := by rw [bareV]; rfl
  rw [e] at hlen ⊢
  exact bare_bool l w h hB c0 c2 hlen
 by_cases h3 : code = 3
 ·subst h3
  have e : bareV (.mk 3 at_ n op name lx rx args) = tNil := by rw [bareV]; rfl
  rw [e] at hlen ⊢
  exact bare_nil l w h hB c0 hlen
 by_cases h4 : code = 4
 ·subst h4
  have e : bareV (.mk 4 at_ n op name lx rx args) = name := by rw [bareV]; rfl
  rw [e] at hlen ⊢
  exact bare_name l w h hB c0 c3 hlen
 by_cases h5 : code = 5
 ·subst h5
  have e : bareV (.mk 5 at_ n op name lx rx args) = exV (levV op) lx ++ ([32] ++ (sgV op ++ ([32] ++ exV (levV op + 1) rx))) := by rw [bareV]; rfl
  rw [e] at hlen ⊢
  exact bare_bin l w h hB hP c0 c4 c5 c6 hbk hl hr hL hR hlen
 by_cases h6 : code = 6
 ·subst h6
  have e : bareV (.mk 6 at_ n op name lx rx args) = signL op ++ exV 6 lx := by rw [bareV]; rfl
  rw [e] at hlen ⊢
  exact bare_un l w h hB hP c0 c4 c5 hl hL hbk hlen
 by_cases h7 : code = 7
 ·subst h7
  have e : bareV (.mk 7 at_ n op name lx rx args) = name ++ ([40] ++ (argL true args.toList ++ [41])) := by rw [bareV, argV_list]; rfl
  rw [e] at hlen ⊢
  exact bare_call l w h hB hP c0 c3 c7 hbk (argsAt_of ha has) hA hlen
 by_cases h8 : code = 8
 ·subst h8
  have e : bareV (.mk 8 at_ n op name lx rx args) = tMake ++ ([40] ++ (exV 1 lx ++ [41])) := by rw [bareV]; rfl
  rw [e] at hlen ⊢
  exact bare_make l w h hB hP c0 c5 hl hL hlen
 by_cases h9 : code = 9
 ·subst h9
  have e : bareV (.mk 9 at_ n op name lx rx args) = tLen ++ ([40] ++ (exV 1 lx ++ [41])) := by rw [bareV]; rfl
  rw [e] at hlen ⊢
  exact bare_len l w h hB hP c0 c5 hl hL hlen
 by_cases h10 : code = 10
 ·subst h10
  have e : bareV (.mk 10 at_ n op name lx rx args) = tArrow ++ exV 6 lx := by rw [bareV]; rfl
  rw [e] at hlen ⊢
  exact bare_recv l w h hB hP c0 c5 hl hL hbk hlen
 ·have e : bareV (.mk code at_ n op name lx rx args) = [] := by rw [bareV, if_neg h1, if_neg h2, if_neg h3, if_neg h4, if_neg h5, if_neg h6, if_neg h10, if_neg h8, if_neg h9, if_neg h7]
  rw [e]
  exact bare_other (by omega) l w h c0
mutual
theorem pexpr_all {B b : Nat} : ∀ x : Ex, ExOk x -> PExprC B b x
 | .nil, _ => pexpr_any (fun _ _ _ _ _ _ _ _ h => absurd rfl h)
 | .mk code at_ n op name lx rx args, h => pexpr_any (bare_any code at_ n op name lx rx args h.1 (pexpr_all lx h.2.1) (pexpr_all rx h.2.2.1) (pexprs_all args h.2.2.2))
theorem pexprs_all {B b : Nat} : ∀ xs : Exs, ExsOk xs -> ∀ x ∈ xs.toList, PExprC B b x
 | .nil, _, x, hx => by cases hx
 | .cons y ys, h, x, hx => by
  rcases List.mem_cons.1 hx with e | e
  ·rw [e]; exact pexpr_all y h.1
  ·exact pexprs_all ys h.2 x e
end
theorem fresh_alloc (w : World) (xs : Array Value) (e : TypeId) : Below w.heap.size w (w.alloc (.cells xs e)) := ((Keeps.refl (fun _ => False) w).alloc _).below (Nat.le_refl _) (fun _ _ e => e.elim)
theorem pc_new (w : World) : PC w.heap.size w.heap.size [] (w.alloc (.cells #[.pointer none, .slice none 0 0] 129)) :=
 ⟨Lib.fresh_isBuilder _ _ w, fun _ => by rw [Lib.cell_of_heap (heap_alloc_new w _)]; rfl⟩
def Tells (w : World) (f : FuncId) (args : Array Value) (t : List UInt8) : Prop := Calls Tryz.prog f args w fun e w' => e = .returned (.string (mkT t)) /\ Below w.heap.size w w'
theorem written_ex {B : Nat} (x : Ex) (hok : ExOk x) (least : Nat) (w : World) (v : Value) (hB : B <= w.heap.size) (hP : PEnv B w) (hx : ExIn w (fun k => k < B) v x) (hlen : (exV least x).length <= 100000000) :
  Tells w 81 #[v, .int .i64 (least : Nat)] (exV least x) := by
 unfold Tells
 obtain ⟨q, rfl⟩ := exIn_ptr hx
 have hb := fresh_alloc w #[.pointer none, .slice none 0 0] 129
 have HE := zz (pexpr_all x hok least [] (w.alloc (.cells #[.pointer none, .slice none 0 0] 129)) (.pointer q) (pc_new w) hb.size ((hP.mono hB).below hb) ((ExIn.mono (fun k _ (hk : k < B) => Nat.lt_of_lt_of_le hk hB) _ _ hx).below hb) (by rw [List.length_nil, Nat.zero_add]; exact hlen))
 have HB := zz hb
 clear hB hP hx hlen hb hok
 go_enter Tryz.func81, Tryz.ntmps81
 go_wp2_with fail
 refine HE.out.mono ?_
 rintro e w2 ⟨rfl, h2, hb2, ho2⟩
 have HS := zz (pString_any _ _ _ _ h2)
 have HB2 := zz (HB.out.trans hb2)
 clear h2 hb2 ho2
 go_wp2_with fail
 refine HS.out.mono ?_
 rintro e w3 ⟨rfl, hb3⟩
 have HB3 := zz (HB2.out.trans hb3)
 clear hb3
 go_wp2_with fail
 try simp only [Exit.inBlock, Exit.then]
 go_ret
 exact ⟨rfl, HB3.out⟩
theorem text_ex {B : Nat} (x : Ex) (hok : ExOk x) (w : World) (v : Value) (hB : B <= w.heap.size) (hP : PEnv B w) (hx : ExIn w (fun k => k < B) v x) (hlen : (exV 1 x).length <= 100000000) :
  Tells w 37 #[v] (exV 1 x) := by
 unfold Tells
 obtain ⟨q, rfl⟩ := exIn_ptr hx
 have HC := zz (written_ex x hok 1 w _ hB hP hx hlen)
 clear hB hP hx hlen hok
 go_enter Tryz.func37, Tryz.ntmps37
 go_wp2_with fail
 refine HC.out.mono ?_
 rintro e w2 ⟨rfl, hb2⟩
 have HB2 := zz hb2
 clear hb2
 go_wp2_with fail
 try simp only [Exit.inBlock, Exit.then]
 go_ret
 exact ⟨rfl, HB2.out⟩
def sentV (x y : Ex) : Lx.B := exV 6 x ++ ([32, 60, 45, 32] ++ exV 1 y)
def kindB (k : Nat) : Lx.B := kindsL.getD k []
def padV : Nat -> Lx.B
 | 0 => []
 | n + 1 => padV n ++ [32, 32]
theorem padV_len : ∀ n, (padV n).length = 2 * n
 | 0 => rfl
 | n + 1 => by show (padV n ++ [32, 32]).length = _; rw [List.length_append, padV_len n]; show 2 * n + 2 = _; omega
def lineV (d : Nat) (t : Lx.B) : Lx.B := padV d ++ (t ++ [10])
theorem lineV_len (d : Nat) (t : Lx.B) : (lineV d t).length = 2 * d + (t.length + 1) := by unfold lineV; rw [List.length_append, padV_len, List.length_append]; rfl
theorem Others.heap {b g : Nat} {xs : Array Value} {e : TypeId} {fz : Nat × Nat} (h : Others b w w') (hg : g ≠ b) (he : e ≠ 5) (hx : w.heap[g]? = some (Obj.cells xs e fz)) : w'.heap[g]? = some (Obj.cells xs e fz) := h g xs e fz hg he hx
end Go.Proofs.YtnpapppipccdbaaGreatDoor
namespace Go.Proofs.YtnpapppipccdbaaGreatDoor
open Go.RowKit Lx Tr
def cLet : Lx.B := [32, 58, 61, 32]
def cSet : Lx.B := [32, 61, 32]
def cClose : Lx.B := [99, 108, 111, 115, 101, 40]
def cRp : Lx.B := [41]
def cPrint : Lx.B := [112, 114, 105, 110, 116, 32]
def cSleep : Lx.B := [115, 108, 101, 101, 112, 32]
def cGo : Lx.B := [103, 111, 32]
def cReturn0 : Lx.B := [114, 101, 116, 117, 114, 110]
def cReturn : Lx.B := [114, 101, 116, 117, 114, 110, 32]
def cBreak : Lx.B := [98, 114, 101, 97, 107]
def cContinue : Lx.B := [99, 111, 110, 116, 105, 110, 117, 101]
def cIf : Lx.B := [105, 102, 32]
def cOpen : Lx.B := [32, 123]
def cElse : Lx.B := [125, 32, 101, 108, 115, 101, 32, 123]
def cFor : Lx.B := [102, 111, 114, 32]
def cEnd : Lx.B := [125]
def cSelect : Lx.B := [115, 101, 108, 101, 99, 116, 32, 123]
def cCase : Lx.B := [99, 97, 115, 101, 32]
def cCaseRecv : Lx.B := [99, 97, 115, 101, 32, 60, 45]
def cLetRecv : Lx.B := [32, 58, 61, 32, 60, 45]
def cDefault : Lx.B := [100, 101, 102, 97, 117, 108, 116]
def cColon : Lx.B := [58]
def giveV (d : Nat) (val : Ex) : Lx.B := match val with
 | .nil => lineV d cReturn0
 | x => lineV d (cReturn ++ exV 1 x)
def talkV (code : Nat) (name : Lx.B) (dst val : Ex) : Lx.B :=
 if code = 3 then cCase ++ sentV dst val
 else if code = 10 then (if name = [] then cCaseRecv ++ exV 6 dst else cCase ++ (name ++ (cLetRecv ++ exV 6 dst)))
 else cDefault
mutual
def stV : Nat -> St -> Lx.B
 | d, .mk code _ name dst val thn els cases =>
  if code = 1 then lineV d (name ++ (cLet ++ exV 1 val))
  else if code = 2 then lineV d (name ++ (cSet ++ exV 1 val))
  else if code = 3 then lineV d (sentV dst val)
  else if code = 4 then lineV d (cClose ++ (exV 1 val ++ cRp))
  else if code = 5 then lineV d (cPrint ++ exV 1 val)
  else if code = 6 then lineV d (cSleep ++ exV 1 val)
  else if code = 7 then lineV d (cGo ++ exV 1 val)
  else if code = 8 then giveV d val
  else if code = 9 then lineV d cBreak
  else if code = 10 then lineV d cContinue
  else if code = 11 then lineV d (exV 1 val)
  else if code = 12 then lineV d (cIf ++ (exV 1 val ++ cOpen)) ++ (stsV (d + 1) thn ++ ((if els.len = 0 then [] else lineV d cElse ++ stsV (d + 1) els) ++ lineV d cEnd))
  else if code = 13 then lineV d (cFor ++ (exV 1 val ++ cOpen)) ++ (stsV (d + 1) thn ++ lineV d cEnd)
  else if code = 14 then lineV d cSelect ++ (casV d cases ++ lineV d cEnd)
  else []
def stsV : Nat -> Sts -> Lx.B
 | _, .nil => []
 | d, .cons x xs => stV d x ++ stsV d xs
def caV : Nat -> Ca -> Lx.B
 | d, .mk code _ name dst val body => lineV d (talkV code name dst val ++ cColon) ++ stsV (d + 1) body
def casV : Nat -> Cas -> Lx.B
 | _, .nil => []
 | d, .cons x xs => caV d x ++ casV d xs
end
end Go.Proofs.YtnpapppipccdbaaGreatDoor
namespace Go.Proofs.YtnpapppipccdbaaGreatDoor
open Go.RowKit Lx Tr
variable {w w' : World}
def Tr.Sts.toList : Sts -> List St
 | .nil => []
 | .cons x xs => x :: xs.toList
theorem StV.below {B : Nat} {tv vv nv ev cv : Value} {dst val : Ex} {thn els : Sts} {cases : Cas} (h : StV w (fun k => k < B) tv vv nv ev cv dst val thn els cases) (hb : Below B w w') : StV w' (fun k => k < B) tv vv nv ev cv dst val thn els cases := by
 have hk : Keeps (fun k => B <= k) w w' := Keeps.of_below (S := fun k => B <= k) hb (fun _ _ e => e)
 have hF : ∀ b, b < B -> ¬ B <= b := fun b h1 h2 => by omega
 obtain ⟨h1, h2, h3, h4, h5, h6, h7, h8⟩ := h
 exact ⟨h1.keeps hk hF, h2.keeps hk hF, h3, fun g n cap e => StsIn.keeps hk hF g (h3.mem e) 0 thn (h4 g n cap e), h5, fun g n cap e => StsIn.keeps hk hF g (h5.mem e) 0 els (h6 g n cap e), h7, fun g n cap e => CasIn.keeps hk hF g (h7.mem e) 0 cases (h8 g n cap e)⟩
def Tr.Cas.toList : Cas -> List Ca
 | .nil => []
 | .cons x xs => x :: xs.toList
def cFunc : Lx.B := [102, 117, 110, 99, 32]
def paV (p : Pa) : Lx.B := p.name ++ ([32] ++ kindB p.kind)
def parL : Bool -> List Pa -> Lx.B
 | _, [] => []
 | f, x :: xs => (if f then [] else [44, 32]) ++ (paV x ++ parL false xs)
theorem parL_snoc : ∀ (l : List Pa) (f : Bool) (x : Pa), parL f (l ++ [x]) = parL f l ++ ((if f = true /\ l = [] then [] else [44, 32]) ++ paV x)
 | [], f, x => by
  show (if f then [] else [44, 32]) ++ (paV x ++ []) = [] ++ _
  cases f <;> simp
 | y :: l, f, x => by
  show (if f then [] else [44, 32]) ++ (paV y ++ parL false (l ++ [x])) = ((if f then [] else [44, 32]) ++ (paV y ++ parL false l)) ++ _
  rw [parL_snoc l false x, if_neg (show ¬ (false = true /\ l = []) from fun e => by cases e.1), if_neg (show ¬ (f = true /\ y :: l = []) from fun e => by cases e.2)]
  simp only [List.append_assoc]
def fuV (g : Fu) : Lx.B := (cFunc ++ (g.name ++ [40])) ++ (parL true g.params ++ ([41, 32] ++ ((if g.kind = 0 then [] else kindB g.kind ++ [32]) ++ ([123, 10] ++ (stsV 1 g.body ++ lineV 0 cEnd)))))
def cVar : Lx.B := [118, 97, 114, 32]
def glV (g : Gl) : Lx.B := lineV 0 (cVar ++ g.name)
def printV (s : Src) : Lx.B := s.globals.flatMap glV ++ s.funcs.flatMap fuV
def SrcOk (s : Src) : Prop := ∀ g ∈ s.funcs, StsOk g.body
end Go.Proofs.YtnpapppipccdbaaGreatDoor
namespace Go.Proofs.YtnpapppipccdbaaGreatDoor
open Go.RowKit Lx Tr
theorem exW_E (least : Nat) : ∀ (x : Ex) (b : Lx.B), exW least (exE x) b = exW least x b
 | .nil, _ => by rw [exE]
 | .mk .., _ => by rw [exE]; rfl
mutual
theorem bareV_E : ∀ x : Ex, bareV (exE x) = bareV x
 | .nil => by rw [exE]
 | .mk c a n op nm l r zs => by
  rw [exE, bareV, bareV, bareV_E l, bareV_E r, argV_E true zs]
  simp only [exW_E]
theorem argV_E : ∀ (f : Bool) (xs : Exs), argV f (exsE xs) = argV f xs
 | f, .nil => by rw [exsE]
 | f, .cons x xs => by rw [exsE, argV, argV, bareV_E x, argV_E false xs, exW_E]
end
theorem exV_E (least : Nat) (x : Ex) : exV least (exE x) = exV least x := by unfold exV; rw [exW_E, bareV_E]
theorem stsE_len : ∀ xs : Sts, (stsE xs).len = xs.len
 | .nil => by rw [stsE]
 | .cons x xs => by rw [stsE, Sts.len, Sts.len, stsE_len xs]
def wsT (E : Env) : Nat -> Nat
 | 0 => 0
 | n + 1 => wsT E n + ((pk E n).text.length + 128)
theorem ws_add (E : Env) (n k : Nat) : wsT E n + 128 * k <= wsT E (n + k) := by
 induction k with
 | zero => simp
 | succ k ih => show _ <= wsT E (n + k) + _; omega
theorem ws_mono (E : Env) {n m : Nat} (h : n <= m) : wsT E n + 128 * (m - n) <= wsT E m := by
 have := ws_add E n (m - n)
 rw [show n + (m - n) = m by omega] at this
 exact this
theorem ws_one (E : Env) (n : Nat) : wsT E (n + 1) = wsT E n + ((pk E n).text.length + 128) := rfl
theorem signL_len (k : Nat) : (signL k).length <= 3 := by
 unfold signL
 by_cases h : k < signsL.length
 ·have : ∀ x ∈ signsL, x.length <= 3 := by decide
  rw [List.getD_eq_getElem?_getD, List.getElem?_eq_getElem h]
  exact this _ (List.getElem_mem h)
 ·rw [List.getD_eq_getElem?_getD, List.getElem?_eq_none (by omega)]
  exact Nat.zero_le _
theorem sgV_len (k : Nat) : (sgV k).length <= 3 := by
 unfold sgV
 split
 ·decide
 ·split
  ·decide
  ·exact signL_len k
theorem kindB_len (k : Nat) : (kindB k).length <= 4 := by
 unfold kindB
 by_cases h : k < kindsL.length
 ·have : ∀ x ∈ kindsL, x.length <= 4 := by decide
  rw [List.getD_eq_getElem?_getD, List.getElem?_eq_getElem h]
  exact this _ (List.getElem_mem h)
 ·rw [List.getD_eq_getElem?_getD, List.getElem?_eq_none (by omega)]
  exact Nat.zero_le _
theorem exW_len (least : Nat) (x : Ex) (b : Lx.B) : (exW least x b).length <= b.length + 2 := by
 unfold exW
 split
 ·exact Nat.zero_le _
 ·split
  ·simp
  ·omega
def ExL (E : Env) (n m : Nat) (x : Ex) : Prop := ExOk x /\ (bareV x).length + 64 + wsT E n <= wsT E m
def ExsL (E : Env) (n m : Nat) (x : Exs) : Prop := ExsOk x /\ (argV true x).length + 64 + wsT E n <= wsT E m
theorem ExL.ex {E : Env} {n m : Nat} {x : Ex} (h : ExL E n m x) (least : Nat) : (exV least x).length + 62 + wsT E n <= wsT E m := by
 have := exW_len least x (bareV x)
 have := h.2
 unfold exV; omega
theorem argV_snoc : ∀ (xs : Exs) (f : Bool) (y : Ex), (argV f (xs.snoc y)).length <= (argV f xs).length + (bareV y).length + 4
 | .nil, f, y => by
  rw [Exs.snoc, argV, argV, argV]
  have := exW_len 1 y (bareV y)
  cases f <;> simp <;> omega
 | .cons x xs, f, y => by
  rw [Exs.snoc, argV, argV]
  have := argV_snoc xs false y
  simp only [List.length_append]
  omega
theorem ExsOk_snoc : ∀ (xs : Exs) (y : Ex), ExsOk xs -> ExOk y -> ExsOk (xs.snoc y)
 | .nil, _, _, h => ⟨h, trivial⟩
 | .cons _ xs, y, h, h2 => ⟨h.1, ExsOk_snoc xs y h.2 h2⟩
theorem ExL.leaf {E : Env} {n code at_ k : Nat} {nm : Lx.B} (hk : k <= 9223372036854775807) (hnm : nm.length <= (pk E n).text.length) : ExL E n (n + 1) (Tr.leaf code at_ k nm) := by
 refine ⟨⟨hk, trivial, trivial, trivial⟩, ?_⟩
 rw [ws_one]
 have h1 : (sOfB k).length <= 21 := Lib.itoa_length_le _ (by omega) (by omega)
 have h2 : (bareV (Tr.leaf code at_ k nm)).length <= (pk E n).text.length + 64 := by
  unfold Tr.leaf
  rw [bareV]
  have e0 : exW 6 Ex.nil (bareV .nil) = [] := rfl
  have e1 : exW 1 Ex.nil (bareV .nil) = [] := rfl
  have e2 : exW (levV 0) Ex.nil (bareV .nil) = [] := rfl
  have e3 : exW (levV 0 + 1) Ex.nil (bareV .nil) = [] := rfl
  have e4 : argV true Exs.nil = [] := by rw [argV]
  have h3 := sgV_len 0
  have h4 := signL_len 0
  rw [e0, e1, e2, e3, e4]
  repeat' split
  all_goals ((try simp only [List.length_append, List.length_cons, List.length_nil, List.append_nil, tTrue, tFalse, tNil, tArrow, tMake, tLen]); omega)
 omega
structure Lens (E : Env) (f : Nat) : Prop where
 one : ∀ d n x m, one E f d n = .ok x m -> ExL E n m x
 bracketed : ∀ d n x m, bracketed E f d n = .ok x m -> ExL E n m x
 tied : ∀ l d n x m, tied E f l d n = .ok x m -> ExL E n m x
 tloop : ∀ l d a n0 n x m, tloop E f l d a n = .ok x m -> ExL E n0 n a -> ExL E n0 m x
 named : ∀ d n x m, named E f d n = .ok x m -> ExL E n m x
 call : ∀ d t n0 n x m, call E f d t n = .ok x m -> wsT E n0 + t.text.length + 128 <= wsT E n -> ExL E n0 m x
 args : ∀ d a n0 n x m, args E f d a n = .ok x m -> ExsL E n0 n a -> ExsL E n0 m x
theorem take_one {E : Env} {t : Lx.B} {n m : Nat} {x : Tok} (h : take E t n = .ok x m) : m = n + 1 := by
 unfold take Tr.fail at h
 split at h
 ·cases h; rfl
 ·cases h
theorem takeKind_one {E : Env} {q n m : Nat} {x : Tok} (h : takeKind E q n = .ok x m) : m = n + 1 /\ x = pk E n := by
 unfold takeKind Tr.fail at h
 split at h
 ·cases h; exact ⟨rfl, rfl⟩
 ·cases h
theorem un_len {E : Env} {n m code at_ k op : Nat} {x : Ex} (hk : k <= 9223372036854775807) (hc : code = 6 \/ code = 10 \/ code = 8 \/ code = 9) (h : ExL E (n + 1) m x) : ExL E n m (.mk code at_ k op [] x .nil .nil) := by
 refine ⟨⟨hk, h.1, trivial, trivial⟩, ?_⟩
 have h2 := h.2
 rw [ws_one] at h2
 have h3 : (bareV (.mk code at_ k op [] x .nil .nil)).length <= (bareV x).length + 8 := by
  have a1 := exW_len 6 x (bareV x)
  have a2 := exW_len 1 x (bareV x)
  have a3 := signL_len op
  rw [bareV]
  rcases hc with rfl | rfl | rfl | rfl
  all_goals (simp only [reduceIte, List.length_append, List.length_cons, List.length_nil, tTrue, tFalse, tNil, tArrow, tMake, tLen, Nat.reduceEqDiff]; omega)
 omega
theorem lens {E : Env} (hnum : ∀ n, (pk E n).kind = 3 -> numV (pk E n).text <= 9223372036854775807) (f : Nat) : Lens E f := by
 induction f with
 | zero =>
  constructor
  ·intro _ _ _ _ h; rw [Tr.one] at h; cases h
  ·intro _ _ _ _ h; rw [Tr.bracketed] at h; cases h
  ·intro _ _ _ _ _ h; rw [Tr.tied] at h; cases h
  ·intro _ _ _ _ _ _ _ h; rw [Tr.tloop] at h; cases h
  ·intro _ _ _ _ h; rw [Tr.named] at h; cases h
  ·intro _ _ _ _ _ _ h; rw [Tr.call] at h; cases h
  ·intro _ _ _ _ _ _ h; rw [Tr.args] at h; cases h
 | succ f ih =>
  constructor
  ·intro d n x m h
   rw [Tr.one] at h
   by_cases c0 : 12 < d
   ·rw [if_pos c0] at h; exact (fail_ok h).elim
   rw [if_neg c0] at h
   by_cases c1 : (pk E n).kind = 3
   ·rw [if_pos c1] at h
    cases h
    exact ExL.leaf (hnum n c1) (Nat.zero_le _)
   rw [if_neg c1] at h
   by_cases c2 : (pk E n).kind = 1
   ·rw [if_pos c2] at h
    exact ih.named _ _ _ _ h
   rw [if_neg c2] at h
   by_cases c3 : (pk E n).text = tLp
   ·rw [if_pos c3] at h
    exact ih.bracketed _ _ _ _ h
   rw [if_neg c3] at h
   by_cases c4 : (pk E n).text = [45] \/ (pk E n).text = [94] \/ (pk E n).text = [33]
   ·rw [if_pos c4] at h
    obtain ⟨y, n1, h1, h⟩ := bind_ok h
    cases h
    exact un_len (by omega) (by simp) (ih.one _ _ _ _ h1)
   rw [if_neg c4] at h
   by_cases c5 : (pk E n).text = tArrow
   ·rw [if_pos c5] at h
    obtain ⟨y, n1, h1, h⟩ := bind_ok h
    cases h
    exact un_len (by omega) (by simp) (ih.one _ _ _ _ h1)
   rw [if_neg c5] at h
   by_cases c6 : (pk E n).text = tMake
   ·rw [if_pos c6] at h
    obtain ⟨y, n1, h1, h⟩ := bind_ok h
    cases h
    exact un_len (by omega) (by simp) (ih.bracketed _ _ _ _ h1)
   rw [if_neg c6] at h
   by_cases c7 : (pk E n).text = tLen
   ·rw [if_pos c7] at h
    obtain ⟨y, n1, h1, h⟩ := bind_ok h
    cases h
    exact un_len (by omega) (by simp) (ih.bracketed _ _ _ _ h1)
   rw [if_neg c7] at h
   by_cases c8 : (pk E n).text = tTrue
   ·rw [if_pos c8] at h
    cases h
    exact ExL.leaf (by omega) (Nat.zero_le _)
   rw [if_neg c8] at h
   by_cases c9 : (pk E n).text = tFalse
   ·rw [if_pos c9] at h
    cases h
    exact ExL.leaf (by omega) (Nat.zero_le _)
   rw [if_neg c9] at h
   by_cases c10 : (pk E n).text = tNil
   ·rw [if_pos c10] at h
    cases h
    exact ExL.leaf (by omega) (Nat.zero_le _)
   rw [if_neg c10] at h
   exact (fail_ok h).elim
  ·intro d n x m h
   rw [bracketed_eq] at h
   obtain ⟨_, n1, h1, h⟩ := bind_ok h
   obtain ⟨y, n2, h2, h⟩ := bind_ok h
   obtain ⟨_, n3, h3, h⟩ := bind_ok h
   cases h
   have q := ih.tied _ _ _ _ _ h2
   have a1 := ws_mono E (Nat.le_of_lt (take_on h1))
   have a3 := ws_mono E (Nat.le_of_lt (take_on h3))
   exact ⟨q.1, by have := q.2; omega⟩
  ·intro l d n x m h
   rw [tied_eq] at h
   by_cases c : l = 6
   ·rw [if_pos c] at h
    exact ih.one _ _ _ _ h
   ·rw [if_neg c] at h
    obtain ⟨y, n1, h1, h⟩ := bind_ok h
    exact ih.tloop _ _ _ _ _ _ _ h (ih.tied _ _ _ _ _ h1)
  ·intro l d a n0 n x m h ha
   rw [tloop_eq] at h
   by_cases c : levV (opV (pk E n).text) = l
   ·rw [if_pos c] at h
    obtain ⟨y, n1, h1, h⟩ := bind_ok h
    have q := ih.tied _ _ _ _ _ h1
    refine ih.tloop _ _ _ n0 _ _ _ h ⟨⟨by omega, ha.1, q.1, trivial⟩, ?_⟩
    have b1 := ha.2
    have b2 := q.2
    rw [ws_one] at b2
    have b3 := exW_len (levV (opV (pk E n).text)) a (bareV a)
    have b4 := exW_len (levV (opV (pk E n).text) + 1) y (bareV y)
    have b5 := sgV_len (opV (pk E n).text)
    rw [bareV]
    simp only [reduceIte, List.length_append, List.length_cons, List.length_nil, Nat.reduceEqDiff]
    omega
   ·rw [if_neg c] at h
    cases h
    exact ha
  ·intro d n x m h
   rw [named_eq] at h
   by_cases c : (pk E (n + 1)).text = tLp
   ·rw [if_pos c] at h
    exact ih.call _ _ n _ _ _ h (by rw [ws_one]; omega)
   ·rw [if_neg c] at h
    cases h
    exact ExL.leaf (by omega) (Nat.le_refl _)
  ·intro d t n0 n x m h ht
   rw [call_eq] at h
   obtain ⟨_, n1, h1, h⟩ := bind_ok h
   have a1 := ws_mono E (Nat.le_of_lt (take_on h1))
   by_cases c : (pk E n1).text = tRp
   ·rw [if_pos c] at h
    cases h
    refine ⟨⟨by omega, trivial, trivial, trivial⟩, ?_⟩
    rw [bareV, ws_one]
    have e4 : argV true Exs.nil = [] := by rw [argV]
    rw [e4]
    simp only [reduceIte, List.length_append, List.length_cons, List.length_nil, Nat.reduceEqDiff]
    omega
   ·rw [if_neg c] at h
    obtain ⟨y, n2, h2, h⟩ := bind_ok h
    cases h
    have q := ih.args _ .nil n _ _ _ h2 ⟨trivial, by
     have e4 : argV true Exs.nil = [] := by rw [argV]
     rw [e4]
     have := take_one h1
     subst this
     rw [ws_one]
     simp only [List.length_nil]
     omega⟩
    refine ⟨⟨by omega, trivial, trivial, q.1⟩, ?_⟩
    have b1 := q.2
    rw [bareV]
    simp only [reduceIte, List.length_append, List.length_cons, List.length_nil, Nat.reduceEqDiff]
    omega
  ·intro d a n0 n x m h ha
   rw [args_eq] at h
   obtain ⟨y, n1, h1, h⟩ := bind_ok h
   have q := ih.tied _ _ _ _ _ h1
   have b0 := argV_snoc a true y
   have b1 := ha.2
   have b2 := q.2
   by_cases c : (pk E n1).text = tComma
   ·rw [if_pos c] at h
    refine ih.args _ _ n0 _ _ _ h ⟨ExsOk_snoc _ _ ha.1 q.1, ?_⟩
    rw [ws_one]
    omega
   ·rw [if_neg c] at h
    obtain ⟨_, n2, h2, h⟩ := bind_ok h
    have a2 := ws_mono E (Nat.le_of_lt (take_on h2))
    have a3 := take_one h2
    cases h
    refine ⟨ExsOk_snoc _ _ ha.1 q.1, ?_⟩
    subst a3
    rw [ws_one] at a2 ⊢
    omega
def StL (E : Env) (d n m : Nat) (s : St) : Prop := StOk s /\ (stV d s).length + wsT E n <= wsT E m
def StsL (E : Env) (d n m : Nat) (s : Sts) : Prop := StsOk s /\ (stsV d s).length + wsT E n <= wsT E m
def CaL (E : Env) (d n m : Nat) (s : Ca) : Prop := CaOk s /\ (caV d s).length + wsT E n <= wsT E m
def CasL (E : Env) (d n m : Nat) (s : Cas) : Prop := CasOk s /\ (casV d s).length + wsT E n <= wsT E m
theorem stsV_snoc (d : Nat) : ∀ (xs : Sts) (y : St), stsV d (xs.snoc y) = stsV d xs ++ stV d y
 | .nil, y => by rw [Sts.snoc, stsV, stsV, stsV, List.append_nil, List.nil_append]
 | .cons x xs, y => by rw [Sts.snoc, stsV, stsV, stsV_snoc d xs y, List.append_assoc]
theorem casV_snoc (d : Nat) : ∀ (xs : Cas) (y : Ca), casV d (xs.snoc y) = casV d xs ++ caV d y
 | .nil, y => by rw [Cas.snoc, casV, casV, casV, List.append_nil, List.nil_append]
 | .cons x xs, y => by rw [Cas.snoc, casV, casV, casV_snoc d xs y, List.append_assoc]
theorem StsOk_snoc : ∀ (xs : Sts) (y : St), StsOk xs -> StOk y -> StsOk (xs.snoc y)
 | .nil, _, _, h => ⟨h, trivial⟩
 | .cons _ xs, y, h, h2 => ⟨h.1, StsOk_snoc xs y h.2 h2⟩
theorem CasOk_snoc : ∀ (xs : Cas) (y : Ca), CasOk xs -> CaOk y -> CasOk (xs.snoc y)
 | .nil, _, _, h => ⟨h, trivial⟩
 | .cons _ xs, y, h, h2 => ⟨h.1, CasOk_snoc xs y h.2 h2⟩
theorem StsL.snoc {E : Env} {d n0 n m : Nat} {xs : Sts} {y : St} (h : StsL E d n0 n xs) (h2 : StL E d n m y) : StsL E d n0 m (xs.snoc y) := by
 refine ⟨StsOk_snoc _ _ h.1 h2.1, ?_⟩
 rw [stsV_snoc, List.length_append]
 have := h.2
 have := h2.2
 omega
theorem CasL.snoc {E : Env} {d n0 n m : Nat} {xs : Cas} {y : Ca} (h : CasL E d n0 n xs) (h2 : CaL E d n m y) : CasL E d n0 m (xs.snoc y) := by
 refine ⟨CasOk_snoc _ _ h.1 h2.1, ?_⟩
 rw [casV_snoc, List.length_append]
 have := h.2
 have := h2.2
 omega
theorem StsL.on {E : Env} {d n0 n m : Nat} {xs : Sts} (h : StsL E d n0 n xs) (hm : n <= m) : StsL E d n0 m xs := ⟨h.1, by have := h.2; have := ws_mono E hm; omega⟩
theorem exV_nil (least : Nat) : exV least .nil = [] := rfl
theorem stsV_nil (d : Nat) : stsV d .nil = [] := by rw [stsV]
theorem casV_nil (d : Nat) : casV d .nil = [] := by rw [casV]
theorem giveV_len (d : Nat) (x : Ex) : (giveV d x).length <= 2 * d + 8 + (exV 1 x).length := by
 unfold giveV
 split
 ·rw [lineV_len]; simp only [cReturn0, List.length_cons, List.length_nil]; omega
 ·rw [lineV_len]; simp only [cReturn, List.length_append, List.length_cons, List.length_nil]; omega
theorem stz_len {E : Env} {d n m code at_ : Nat} {nm : Lx.B} {dst v : Ex} (hd : d <= 12) (h1 : ExOk dst) (h2 : ExOk v) (hl : nm.length + (exV 6 dst).length + (exV 1 v).length + 40 + wsT E n <= wsT E m) (hc : code < 12) : StL E d n m (stz code at_ nm dst v) := by
 refine ⟨⟨h1, h2, trivial, trivial, trivial⟩, ?_⟩
 have hg := giveV_len d v
 have : (stV d (stz code at_ nm dst v)).length <= 40 + nm.length + (exV 6 dst).length + (exV 1 v).length := by
  unfold stz
  rcases (by omega : code = 0 \/ code = 1 \/ code = 2 \/ code = 3 \/ code = 4 \/ code = 5 \/ code = 6 \/ code = 7 \/ code = 8 \/ code = 9 \/ code = 10 \/ code = 11) with rfl | rfl | rfl | rfl | rfl | rfl | rfl | rfl | rfl | rfl | rfl | rfl
  all_goals (rw [stV]; simp only [reduceIte, Nat.reduceEqDiff, sentV, lineV_len, cLet, cSet, cClose, cRp, cPrint, cSleep, cGo, cBreak, cContinue, List.length_append, List.length_cons, List.length_nil]; omega)
 omega
theorem expr_len {E : Env} (hnum : ∀ n, (pk E n).kind = 3 -> numV (pk E n).text <= 9223372036854775807) {f d n m : Nat} {x : Ex} (h : expr E f d n = .ok x m) : ExL E n m x := (lens hnum f).tied _ _ _ _ _ h
theorem ws_two (E : Env) (n : Nat) : wsT E (n + 2) = wsT E n + ((pk E n).text.length + 128) + ((pk E (n + 1)).text.length + 128) := rfl
theorem left_len {E : Env} {n m : Nat} {x : Ex} (h : ExL E n m x) (hc : Tr.codeOf x = 10) : ExOk (Tr.leftOf x) /\ (exV 6 (Tr.leftOf x)).length + 64 + wsT E n <= wsT E m := by
 cases x with
 | nil => cases hc
 | mk code at_ k op nm l r zs =>
  have hc' : code = 10 := hc
  subst hc'
  refine ⟨h.1.2.1, ?_⟩
  have h2 := h.2
  rw [bareV] at h2
  simp only [reduceIte, List.length_append, List.length_cons, List.length_nil, Nat.reduceEqDiff, tArrow] at h2
  show (exW 6 l (bareV l)).length + 64 + wsT E n <= wsT E m
  omega
theorem plain_len {E : Env} (hnum : ∀ n, (pk E n).kind = 3 -> numV (pk E n).text <= 9223372036854775807) {f d n m : Nat} {s : St} (hd : d <= 12) (h : plain E f n = .ok s m) : StL E d n m s := by
 unfold plain at h
 by_cases c1 : (pk E n).kind = 1 /\ (pk E (n + 1)).text = tLet
 ·rw [if_pos c1] at h
  obtain ⟨y, n1, h1, h⟩ := bind_ok h
  cases h
  have q := expr_len hnum h1
  have q1 := q.ex 1
  rw [ws_two] at q1
  exact stz_len hd trivial q.1 (by rw [exV_nil]; simp only [List.length_nil]; omega) (by decide)
 rw [if_neg c1] at h
 by_cases c2 : (pk E n).kind = 1 /\ (pk E (n + 1)).text = tSet
 ·rw [if_pos c2] at h
  obtain ⟨y, n1, h1, h⟩ := bind_ok h
  cases h
  have q := expr_len hnum h1
  have q1 := q.ex 1
  rw [ws_two] at q1
  exact stz_len hd trivial q.1 (by rw [exV_nil]; simp only [List.length_nil]; omega) (by decide)
 rw [if_neg c2] at h
 obtain ⟨y, n1, h1, h⟩ := bind_ok h
 have q := (lens hnum f).one _ _ _ _ h1
 by_cases c3 : (pk E n1).text = tArrow
 ·rw [if_pos c3] at h
  obtain ⟨z, n2, h2, h⟩ := bind_ok h
  cases h
  have p := expr_len hnum h2
  have q1 := q.ex 6
  have p1 := p.ex 1
  rw [ws_one] at p1
  exact stz_len hd q.1 p.1 (by simp only [List.length_nil]; omega) (by decide)
 rw [if_neg c3] at h
 by_cases c4 : Tr.codeOf y = 7 \/ Tr.codeOf y = 10
 ·rw [if_pos c4] at h
  cases h
  have q1 := q.ex 1
  exact stz_len hd trivial q.1 (by rw [exV_nil]; simp only [List.length_nil]; omega) (by decide)
 rw [if_neg c4] at h
 exact (fail_ok h).elim
theorem talk_len {E : Env} (hnum : ∀ n, (pk E n).kind = 3 -> numV (pk E n).text <= 9223372036854775807) {f n m : Nat} {s : Nat × B × Ex × Ex} (h : talk E f n = .ok s m) : ExOk s.2.2.1 /\ ExOk s.2.2.2 /\ (talkV s.1 s.2.1 s.2.2.1 s.2.2.2).length + wsT E n <= wsT E m := by
 unfold talk at h
 by_cases c1 : (pk E n).kind = 1 /\ (pk E (n + 1)).text = tLet
 ·rw [if_pos c1] at h
  obtain ⟨_, n0, h0, h⟩ := bind_ok h
  obtain ⟨y, n1, h1, h⟩ := bind_ok h
  cases h
  have q := (lens hnum f).one _ _ _ _ h1
  have a0 := take_one h0
  subst a0
  have q1 := q.ex 6
  rw [ws_one, ws_two] at q1
  refine ⟨q.1, trivial, ?_⟩
  unfold talkV
  rw [if_neg (show ¬ (10 : Nat) = 3 by decide), if_pos rfl]
  split
  all_goals (simp only [cCaseRecv, cCase, cLetRecv, List.length_append, List.length_cons, List.length_nil]; omega)
 rw [if_neg c1] at h
 obtain ⟨y, n1, h1, h⟩ := bind_ok h
 have q := (lens hnum f).one _ _ _ _ h1
 by_cases c3 : (pk E n1).text = tArrow
 ·rw [if_pos c3] at h
  obtain ⟨z, n2, h2, h⟩ := bind_ok h
  cases h
  have p := expr_len hnum h2
  have q1 := q.ex 6
  have p1 := p.ex 1
  rw [ws_one] at p1
  refine ⟨q.1, p.1, ?_⟩
  unfold talkV sentV
  rw [if_pos rfl]
  simp only [cCase, List.length_append, List.length_cons, List.length_nil]
  omega
 rw [if_neg c3] at h
 by_cases c4 : Tr.codeOf y = 10
 ·rw [if_pos c4] at h
  cases h
  obtain ⟨q1, q2⟩ := left_len q c4
  refine ⟨q1, trivial, ?_⟩
  unfold talkV
  rw [if_neg (show ¬ (10 : Nat) = 3 by decide), if_pos rfl, if_pos rfl]
  simp only [cCaseRecv, List.length_append, List.length_cons, List.length_nil]
  omega
 rw [if_neg c4] at h
 exact (fail_ok h).elim
theorem open_one {E : Env} {dep n m : Nat} {t : Tok} (h : open_ E dep n = .ok t m) : m = n + 1 /\ dep < 12 := by
 unfold open_ at h
 by_cases c : (pk E n).text = tLb /\ 12 <= dep
 ·rw [if_pos c] at h; exact (fail_ok h).elim
 ·rw [if_neg c] at h
  refine ⟨take_one h, ?_⟩
  by_cases c2 : (pk E n).text = tLb
  ·exact Nat.lt_of_not_le fun e => c ⟨c2, e⟩
  ·unfold take at h
   rw [if_neg c2] at h
   exact (fail_ok h).elim
structure Slens (E : Env) (f : Nat) : Prop where
 block : ∀ dep n x m, block E f dep n = .ok x m -> dep <= 12 -> StsOk x /\ (stsV (dep + 1) x).length + 256 + wsT E n <= wsT E m
 stmts : ∀ dep cs a n0 n x m, stmts E f dep cs a n = .ok x m -> dep <= 12 -> StsL E dep n0 n a -> StsL E dep n0 m x
 stmt : ∀ dep n x m, stmt E f dep n = .ok x m -> dep <= 12 -> StL E dep n m x
 cases : ∀ d a n0 n x m, cases E f (d + 1) a n = .ok x m -> d + 1 <= 12 -> CasL E d n0 n a -> CasL E d n0 m x
 oneCase : ∀ d n x m, oneCase E f (d + 1) n = .ok x m -> d + 1 <= 12 -> CaL E d n m x
theorem slens {E : Env} (hnum : ∀ n, (pk E n).kind = 3 -> numV (pk E n).text <= 9223372036854775807) (f : Nat) : Slens E f := by
 induction f with
 | zero =>
  constructor
  ·intro _ _ _ _ h; rw [Tr.block] at h; cases h
  ·intro _ _ _ _ _ _ _ h; rw [Tr.stmts] at h; cases h
  ·intro _ _ _ _ h; rw [Tr.stmt] at h; cases h
  ·intro _ _ _ _ _ _ h; rw [Tr.cases] at h; cases h
  ·intro _ _ _ _ h; rw [Tr.oneCase] at h; cases h
 | succ f ih =>
  constructor
  ·intro dep n x m h hd
   rw [block_eq] at h
   obtain ⟨_, n1, h1, h⟩ := bind_ok h
   obtain ⟨y, n2, h2, h⟩ := bind_ok h
   obtain ⟨_, n3, h3, h⟩ := bind_ok h
   cases h
   obtain ⟨rfl, hlt⟩ := open_one h1
   have a3 := take_one h3
   subst a3
   have q := ih.stmts _ _ .nil (n + 1) _ _ _ h2 (by omega) ⟨trivial, by rw [stsV_nil]; simp⟩
   have q2 := q.2
   rw [ws_one] at q2 ⊢
   exact ⟨q.1, by omega⟩
  ·intro dep cs a n0 n x m h hd ha
   rw [stmts_eq] at h
   by_cases c : (pk E n).text = tRb \/ (cs = true /\ ((pk E n).text = tCase \/ (pk E n).text = tDefault))
   ·rw [if_pos c] at h
    cases h
    exact ha
   rw [if_neg c] at h
   obtain ⟨y, n1, h1, h⟩ := bind_ok h
   have q := ha.snoc (ih.stmt _ _ _ _ h1 hd)
   by_cases c2 : (pk E n1).text = tRb
   ·rw [if_pos c2] at h
    exact ih.stmts _ _ _ n0 _ _ _ h hd q
   ·rw [if_neg c2] at h
    obtain ⟨_, n2, h2, h⟩ := bind_ok h
    exact ih.stmts _ _ _ n0 _ _ _ h hd (q.on (Nat.le_of_lt (takeKind_on h2)))
  ·intro dep n x m h hd
   rw [stmt_eq] at h
   by_cases c0 : (pk E n).text = tClose
   ·rw [if_pos c0] at h
    obtain ⟨y, n1, h1, h⟩ := bind_ok h
    cases h
    have q := (lens hnum f).bracketed _ _ _ _ h1
    have q1 := q.ex 1
    rw [ws_one] at q1
    exact stz_len hd trivial q.1 (by rw [exV_nil]; simp only [List.length_nil]; omega) (by decide)
   rw [if_neg c0] at h
   by_cases c1 : (pk E n).text = tPrint
   ·rw [if_pos c1] at h
    obtain ⟨y, n1, h1, h⟩ := bind_ok h
    cases h
    have q := expr_len hnum h1
    have q1 := q.ex 1
    rw [ws_one] at q1
    exact stz_len hd trivial q.1 (by rw [exV_nil]; simp only [List.length_nil]; omega) (by decide)
   rw [if_neg c1] at h
   by_cases c2 : (pk E n).text = tSleep
   ·rw [if_pos c2] at h
    obtain ⟨y, n1, h1, h⟩ := bind_ok h
    cases h
    have q := expr_len hnum h1
    have q1 := q.ex 1
    rw [ws_one] at q1
    exact stz_len hd trivial q.1 (by rw [exV_nil]; simp only [List.length_nil]; omega) (by decide)
   rw [if_neg c2] at h
   by_cases c3 : (pk E n).text = tGo
   ·rw [if_pos c3] at h
    obtain ⟨t, n1, h1, h⟩ := bind_ok h
    obtain ⟨y, n2, h2, h⟩ := bind_ok h
    cases h
    obtain ⟨rfl, rfl⟩ := takeKind_one h1
    have q := (lens hnum f).call _ _ (n + 1) _ _ _ h2 (by rw [ws_one E (n + 1)]; omega)
    have q1 := q.ex 1
    rw [ws_one] at q1
    exact stz_len hd trivial q.1 (by rw [exV_nil]; simp only [List.length_nil]; omega) (by decide)
   rw [if_neg c3] at h
   by_cases c4 : (pk E n).text = tReturn
   ·rw [if_pos c4] at h
    by_cases c : (pk E (n + 1)).kind = 5 \/ (pk E (n + 1)).text = tRb
    ·rw [if_pos c] at h
     cases h
     exact stz_len hd trivial trivial (by rw [exV_nil, exV_nil, ws_one]; simp only [List.length_nil]; omega) (by decide)
    ·rw [if_neg c] at h
     obtain ⟨y, n1, h1, h⟩ := bind_ok h
     cases h
     have q := expr_len hnum h1
     have q1 := q.ex 1
     rw [ws_one] at q1
     exact stz_len hd trivial q.1 (by rw [exV_nil]; simp only [List.length_nil]; omega) (by decide)
   rw [if_neg c4] at h
   by_cases c5 : (pk E n).text = tBreak
   ·rw [if_pos c5] at h
    cases h
    exact stz_len hd trivial trivial (by rw [exV_nil, exV_nil, ws_one]; simp only [List.length_nil]; omega) (by decide)
   rw [if_neg c5] at h
   by_cases c6 : (pk E n).text = tContinue
   ·rw [if_pos c6] at h
    cases h
    exact stz_len hd trivial trivial (by rw [exV_nil, exV_nil, ws_one]; simp only [List.length_nil]; omega) (by decide)
   rw [if_neg c6] at h
   by_cases c7 : (pk E n).text = tIf
   ·rw [if_pos c7] at h
    obtain ⟨y, n1, h1, h⟩ := bind_ok h
    obtain ⟨a, n2, h2, h⟩ := bind_ok h
    have q := expr_len hnum h1
    have q1 := q.ex 1
    rw [ws_one] at q1
    obtain ⟨p1, p2⟩ := ih.block _ _ _ _ h2 hd
    by_cases c : (pk E n2).text = tElse
    ·rw [if_pos c] at h
     obtain ⟨b, n3, h3, h⟩ := bind_ok h
     cases h
     obtain ⟨r1, r2⟩ := ih.block _ _ _ _ h3 hd
     rw [ws_one] at r2
     refine ⟨⟨trivial, q.1, p1, r1, trivial⟩, ?_⟩
     rw [stV]
     simp only [reduceIte, Nat.reduceEqDiff, List.length_append, lineV_len, cIf, cOpen, cEnd, List.length_cons, List.length_nil]
     split
     all_goals (simp only [List.length_append, lineV_len, cElse, List.length_cons, List.length_nil]; omega)
    ·rw [if_neg c] at h
     cases h
     refine ⟨⟨trivial, q.1, p1, trivial, trivial⟩, ?_⟩
     rw [stV]
     simp only [reduceIte, Nat.reduceEqDiff, List.length_append, lineV_len, cIf, cOpen, cEnd, List.length_cons, List.length_nil, Sts.len]
     omega
   rw [if_neg c7] at h
   by_cases c8 : (pk E n).text = tFor
   ·rw [if_pos c8] at h
    obtain ⟨y, n1, h1, h⟩ := bind_ok h
    obtain ⟨a, n2, h2, h⟩ := bind_ok h
    cases h
    have q := expr_len hnum h1
    have q1 := q.ex 1
    rw [ws_one] at q1
    obtain ⟨p1, p2⟩ := ih.block _ _ _ _ h2 hd
    refine ⟨⟨trivial, q.1, p1, trivial, trivial⟩, ?_⟩
    rw [stV]
    simp only [reduceIte, Nat.reduceEqDiff, List.length_append, lineV_len, cFor, cOpen, cEnd, List.length_cons, List.length_nil]
    omega
   rw [if_neg c8] at h
   by_cases c9 : (pk E n).text = tSelect
   ·rw [if_pos c9] at h
    obtain ⟨_, n1, h1, h⟩ := bind_ok h
    obtain ⟨a, n2, h2, h⟩ := bind_ok h
    obtain ⟨_, n3, h3, h⟩ := bind_ok h
    cases h
    obtain ⟨rfl, hlt⟩ := open_one h1
    have a3 := take_one h3
    subst a3
    have q := ih.cases _ .nil (n + 1 + 1) _ _ _ h2 (by omega) ⟨trivial, by rw [casV_nil]; simp⟩
    have q2 := q.2
    rw [ws_one, ws_one] at q2
    refine ⟨⟨trivial, trivial, trivial, trivial, q.1⟩, ?_⟩
    rw [stV, ws_one]
    simp only [reduceIte, Nat.reduceEqDiff, List.length_append, lineV_len, cSelect, cEnd, List.length_cons, List.length_nil]
    omega
   rw [if_neg c9] at h
   exact plain_len hnum hd h
  ·intro d a n0 n x m h hd ha
   rw [cases_eq] at h
   by_cases c : (pk E n).text = tRb
   ·rw [if_pos c] at h
    cases h
    exact ha
   rw [if_neg c] at h
   by_cases c2 : 6 <= a.len
   ·rw [if_pos c2] at h; exact (fail_ok h).elim
   rw [if_neg c2] at h
   obtain ⟨y, n1, h1, h⟩ := bind_ok h
   exact ih.cases _ _ n0 _ _ _ h hd (ha.snoc (ih.oneCase _ _ _ _ h1 hd))
  ·intro d n x m h hd
   rw [oneCase_eq] at h
   by_cases c : (pk E n).text = tDefault
   ·rw [if_pos c] at h
    obtain ⟨_, n1, h1, h⟩ := bind_ok h
    obtain ⟨l, n2, h2, h⟩ := bind_ok h
    cases h
    have a1 := take_one h1
    subst a1
    have q := ih.stmts _ _ .nil (n + 1 + 1) _ _ _ h2 hd ⟨trivial, by rw [stsV_nil]; simp⟩
    refine ⟨⟨trivial, trivial, q.1⟩, ?_⟩
    have q2 := q.2
    rw [ws_one, ws_one] at q2
    rw [caV, List.length_append, lineV_len]
    unfold talkV
    rw [if_neg (show ¬ (40 : Nat) = 3 by decide), if_neg (show ¬ (40 : Nat) = 10 by decide)]
    simp only [cDefault, cColon, List.length_append, List.length_cons, List.length_nil]
    omega
   rw [if_neg c] at h
   obtain ⟨_, n1, h1, h⟩ := bind_ok h
   obtain ⟨t, n2, h2, h⟩ := bind_ok h
   obtain ⟨_, n3, h3, h⟩ := bind_ok h
   obtain ⟨l, n4, h4, h⟩ := bind_ok h
   cases h
   have a1 := take_one h1
   subst a1
   have a3 := take_one h3
   subst a3
   obtain ⟨b1, b2, b3⟩ := talk_len hnum h2
   have q := ih.stmts _ _ .nil (n2 + 1) _ _ _ h4 hd ⟨trivial, by rw [stsV_nil]; simp⟩
   refine ⟨⟨b1, b2, q.1⟩, ?_⟩
   have q2 := q.2
   rw [ws_one] at q2 b3
   rw [caV, List.length_append, lineV_len]
   simp only [cColon, List.length_append, List.length_cons, List.length_nil]
   omega
theorem params_len {E : Env} : ∀ (f : Nat) (acc : List Pa) (n0 n : Nat) (x : List Pa) (m : Nat), params E f acc n = .ok x m -> (parL true acc).length + wsT E n0 <= wsT E n -> (parL true x).length + wsT E n0 <= wsT E m
 | 0, _, _, _, _, _, h, _ => by rw [params] at h; cases h
 | f + 1, acc, n0, n, x, m, h, ha => by
  rw [paramsQ_eq] at h
  obtain ⟨t, n1, h1, h⟩ := bind_ok h
  obtain ⟨rfl, rfl⟩ := takeKind_one h1
  have hs : (parL true (acc ++ [⟨(pk E n).text, kindV (pk E (n + 1)).text, (pk E n).at_⟩])).length + wsT E n0 <= wsT E (n + 2) := by
   have hk := kindB_len (kindV (pk E (n + 1)).text)
   rw [parL_snoc, ws_two]
   unfold paV
   split
   all_goals (simp only [List.length_append, List.length_cons, List.length_nil]; omega)
  by_cases q : kindV (pk E (n + 1)).text = 0
  ·rw [if_pos q] at h; exact (fail_ok h).elim
  rw [if_neg q] at h
  by_cases q2 : (pk E (n + 1 + 1)).text = tComma
  ·rw [if_pos q2] at h
   exact params_len f _ n0 _ _ _ h (Nat.le_trans hs (by have := ws_mono E (show n + 2 <= n + 1 + 2 by omega); omega))
  ·rw [if_neg q2] at h
   obtain ⟨_, n2, h2, h⟩ := bind_ok h
   cases h
   have a2 := take_one h2
   subst a2
   exact Nat.le_trans hs (by have := ws_mono E (show n + 2 <= n + 1 + 1 + 1 by omega); omega)
theorem function_len {E : Env} (hnum : ∀ n, (pk E n).kind = 3 -> numV (pk E n).text <= 9223372036854775807) {f n m : Nat} {g : Fu} (h : Tr.function E f n = .ok g m) : StsOk g.body /\ (fuV g).length + wsT E n <= wsT E m := by
 unfold Tr.function at h
 obtain ⟨_, n1, h1, h⟩ := bind_ok h
 obtain ⟨t, n2, h2, h⟩ := bind_ok h
 obtain ⟨_, n3, h3, h⟩ := bind_ok h
 obtain ⟨ps, n4, h4, h⟩ := bind_ok h
 obtain ⟨b, n5, h5, h⟩ := bind_ok h
 cases h
 have a1 := take_one h1
 subst a1
 obtain ⟨rfl, rfl⟩ := takeKind_one h2
 have a3 := take_one h3
 subst a3
 have hp : (parL true ps).length + wsT E (n + 1 + 1 + 1) <= wsT E n4 := by
  by_cases q : (pk E (n + 1 + 1 + 1)).text = tRp
  ·rw [if_pos q] at h4
   cases h4
   have := ws_mono E (show n + 1 + 1 + 1 <= n + 1 + 1 + 1 + 1 by omega)
   show ([] : Lx.B).length + _ <= _
   simp only [List.length_nil]
   omega
  ·rw [if_neg q] at h4
   exact params_len f [] _ _ _ _ h4 (by show ([] : Lx.B).length + _ <= _; simp)
 obtain ⟨q1, q2⟩ := (slens hnum f).block _ _ _ _ h5 (by omega)
 refine ⟨q1, ?_⟩
 have hk := kindB_len (kindV (pk E n4).text)
 have q3 : wsT E n4 <= wsT E (if kindV (pk E n4).text = 0 then n4 else n4 + 1) := by
  split
  ·exact Nat.le_refl _
  ·rw [ws_one]; omega
 rw [ws_one, ws_one, ws_one] at hp
 unfold fuV
 split
 all_goals (simp only [List.length_append, lineV_len, cFunc, cEnd, List.length_cons, List.length_nil]; simp only [Nat.zero_add] at q2; omega)
theorem glV_len (g : Gl) : (glV g).length = g.name.length + 5 := by
 unfold glV
 simp only [lineV_len, cVar, List.length_append, List.length_cons, List.length_nil]
 omega
theorem program_len {E : Env} (hnum : ∀ n, (pk E n).kind = 3 -> numV (pk E n).text <= 9223372036854775807) : ∀ (f : Nat) (src : Src) (n : Nat) (x : Src) (m : Nat), Tr.program E f src n = .ok x m -> n <= E.toks.length -> SrcOk src -> (printV src).length <= wsT E n -> SrcOk x /\ (printV x).length <= wsT E E.toks.length
 | 0, _, _, _, _, h, _, _, _ => by rw [Tr.program] at h; cases h
 | f + 1, src, n, x, m, h, hn, hok, hl => by
  rw [programQ_eq] at h
  by_cases c0 : E.toks.length <= n
  ·rw [if_pos c0] at h
   cases h
   have : n = E.toks.length := by omega
   rw [<- this]
   exact ⟨hok, hl⟩
  rw [if_neg c0] at h
  by_cases c1 : (pk E n).text = tVar
  ·rw [if_pos c1] at h
   by_cases c2 : 8 <= src.globals.length
   ·rw [if_pos c2] at h; exact (fail_ok h).elim
   rw [if_neg c2] at h
   obtain ⟨t, n1, h1, h⟩ := bind_ok h
   obtain ⟨_, n2, h2, h⟩ := bind_ok h
   obtain ⟨rfl, rfl⟩ := takeKind_one h1
   obtain ⟨rfl, _⟩ := takeKind_one h2
   obtain ⟨b2, _⟩ := takeKind_lt (by decide) h2
   refine program_len hnum f _ _ _ _ h (by omega) hok ?_
   rw [ws_one, ws_one, ws_one]
   unfold printV at hl ⊢
   simp only [List.flatMap_append, List.flatMap_cons, List.flatMap_nil, List.length_append, List.length_nil] at hl ⊢
   have hg := glV_len ⟨(pk E (n + 1)).text, (pk E (n + 1)).at_⟩
   simp only at hg
   omega
  rw [if_neg c1] at h
  by_cases c2 : (pk E n).text = tFunc
  ·rw [if_pos c2] at h
   by_cases c3 : 12 <= src.funcs.length
   ·rw [if_pos c3] at h; exact (fail_ok h).elim
   rw [if_neg c3] at h
   obtain ⟨g, n1, h1, h⟩ := bind_ok h
   obtain ⟨_, n2, h2, h⟩ := bind_ok h
   obtain ⟨q1, q2⟩ := function_len hnum h1
   obtain ⟨rfl, _⟩ := takeKind_one h2
   obtain ⟨b2, _⟩ := takeKind_lt (by decide) h2
   refine program_len hnum f _ _ _ _ h (by omega) (fun g' hg' => ?_) ?_
   ·rcases List.mem_append.1 hg' with e | e
    ·exact hok g' e
    ·rw [List.mem_singleton.1 e]; exact q1
   rw [ws_one]
   unfold printV at hl ⊢
   simp only [List.flatMap_append, List.flatMap_cons, List.flatMap_nil, List.length_append, List.length_nil] at hl ⊢
   omega
  rw [if_neg c2] at h
  exact (fail_ok h).elim
def wlT : List Tok -> Nat
 | [] => 0
 | t :: ts => (t.text.length + 128) + wlT ts
theorem wlT_snoc : ∀ (l : List Tok) (t : Tok), wlT (l ++ [t]) = wlT l + (t.text.length + 128)
 | [], t => by simp [wlT]
 | x :: l, t => by show (x.text.length + 128) + wlT (l ++ [t]) = _; rw [wlT_snoc l t, wlT]; omega
theorem wsT_row (ts : List Tok) (e : Nat) : ∀ n, n <= ts.length -> wsT ⟨ts, e⟩ n = wlT (ts.take n)
 | 0, _ => by rw [List.take_zero]; rfl
 | n + 1, h => by
  have h1 : ts[n]? = some ts[n] := List.getElem?_eq_getElem (by omega)
  rw [List.take_add_one, h1, Option.toList_some, wlT_snoc, ws_one, wsT_row ts e n (by omega)]
  unfold pk
  rw [h1]
  rfl
theorem wl_text : ∀ (l : Lx.B) (a : Nat) (may : Bool) (ts : List Tok), lx l a may = (ts, none) -> wlT ts <= 129 * l.length + 128 := by
 refine lx_induct (fun l _ _ ts => wlT ts <= 129 * l.length + 128) ?_ ?_ ?_
 ·intro a may
  unfold endV
  split
  ·simp [wlT]
  ·simp [wlT]
 ·intro l a may n ts _ _ _ _ _ ih
  rw [List.length_drop] at ih
  omega
 ·intro l a may k n ts hl hs h1 h2 _ ih
  rw [List.length_drop] at ih
  rw [wlT]
  simp only [List.length_take]
  omega
theorem nums_text : ∀ (l : Lx.B) (a : Nat) (may : Bool) (ts : List Tok), lx l a may = (ts, none) -> ∀ t ∈ ts, t.kind = 3 -> numV t.text <= 9223372036854775807 := by
 refine lx_induct (fun _ _ _ ts => ∀ t ∈ ts, t.kind = 3 -> numV t.text <= 9223372036854775807) ?_ ?_ ?_
 ·intro a may t ht hk
  unfold endV at ht
  split at ht
  ·simp at ht; subst ht; cases hk
  ·cases ht
 ·intro l a may n ts _ _ _ _ _ ih
  exact ih
 ·intro l a may k n ts hl hs h1 h2 _ ih t ht hk
  rcases List.mem_cons.1 ht with rfl | ht
  ·have hk' : k = 3 := hk
   subst hk'
   exact Nat.le_of_not_lt (of_decide_eq_false (tok3 hl hs).2.1)
  ·exact ih t ht hk
theorem text_len {l : Lx.B} {ts : List Tok} {e m : Nat} {s : Src} (hts : lx l 0 false = (ts, none)) (h : Ev (fun f => Tr.program ⟨ts, e⟩ f ⟨[], []⟩ 0) (.ok s m)) : SrcOk s /\ (printV s).length <= 129 * l.length + 128 := by
 obtain ⟨_, f0, h⟩ := h
 have hn := nums_text _ _ _ _ hts
 obtain ⟨h1, h2⟩ := program_len (E := ⟨ts, e⟩) (fun n hk => by
  have hlt := pk_kind_lt (E := ⟨ts, e⟩) (n := n) (by rw [hk]; decide)
  have h1 : ts[n]? = some ts[n] := List.getElem?_eq_getElem hlt
  have h2 : pk ⟨ts, e⟩ n = ts[n] := by unfold pk; rw [h1]; rfl
  rw [h2] at hk ⊢
  exact hn _ (List.getElem_mem hlt) hk) f0 ⟨[], []⟩ 0 s m (h f0 (Nat.le_refl _)) (Nat.zero_le _) (fun g hg => by cases hg) (Nat.zero_le _)
 refine ⟨h1, Nat.le_trans h2 ?_⟩
 have := wl_text _ _ _ _ hts
 rw [show (⟨ts, e⟩ : Env).toks.length = ts.length from rfl, wsT_row ts e _ (Nat.le_refl _), List.take_length]
 exact this
theorem exE_code (x : Ex) : (exE x).code = x.code := by cases x <;> rw [exE] <;> rfl
theorem exE_op (x : Ex) : (exE x).op = x.op := by cases x <;> rw [exE] <;> rfl
theorem exE_n (x : Ex) : (exE x).n = x.n := by cases x <;> rw [exE] <;> rfl
theorem exE_l (x : Ex) : (exE x).l = exE x.l := by
 cases x
 ·rw [exE]; show Ex.nil = exE .nil; rw [exE]
 ·rw [exE]; rfl
theorem exE_r (x : Ex) : (exE x).r = exE x.r := by
 cases x
 ·rw [exE]; show Ex.nil = exE .nil; rw [exE]
 ·rw [exE]; rfl
theorem exE_at (x : Ex) : (exE x).at_ = 0 := by cases x <;> rw [exE] <;> rfl
theorem knownE_E (x : Ex) : knownE (exE x) = knownE x := by unfold knownE; rw [exE_code, exE_n, exE_op, exE_l, exE_code, exE_n]
theorem truthE_E (x : Ex) : truthE (exE x) = truthE x := by unfold truthE; rw [exE_code, exE_n]
theorem newT_E (b : Bool) (a : Nat) : exE (newT b a) = newT b 0 := by unfold newT; rw [exE, exE, exsE]
theorem newN_E (n : Int) (a : Nat) : exE (newN n a) = newN n 0 := by
 unfold newN
 split
 ·simp only [exE, exsE]
 ·simp only [exE, exsE]
theorem numOr_E (x : Ex) (n : Int) : exE (numOr x n) = numOr (exE x) n := by
 unfold numOr
 split
 ·rfl
 ·rw [newN_E, exE_at]
theorem madeE_E (x : Ex) (n : Int) : exE (madeE x n) = madeE (exE x) n := by
 unfold madeE
 rw [exE_op, exE_at]
 split
 ·rw [newT_E]
 ·rw [numOr_E]
theorem choiceE_E (x : Ex) (b : Bool) : exE (choiceE x b) = choiceE (exE x) b := by
 unfold choiceE
 rw [exE_l, exE_r, truthE_E, truthE_E]
 split
 ·split <;> rfl
 ·split
  ·split <;> rfl
  ·rfl
theorem reckE_E (x : Ex) : exE (reckE x) = reckE (exE x) := by
 unfold reckE
 rw [exE_l, exE_r, knownE_E, knownE_E, exE_op]
 split
 ·split
  ·rw [madeE_E]
  ·rfl
 ·split <;> rfl
 ·split <;> rfl
 ·rfl
theorem twoE_E (x : Ex) : exE (twoE x) = twoE (exE x) := by
 unfold twoE
 rw [exE_op]
 split
 ·rw [choiceE_E]
 ·split
  ·rw [choiceE_E]
  ·split
   ·rw [reckE_E]
   ·rfl
theorem oneE_E (x : Ex) : exE (oneE x) = oneE (exE x) := by
 unfold oneE
 rw [knownE_E, exE_l, truthE_E, knownE_E, exE_op, exE_at]
 split
 ·rfl
 ·split
  ·rw [newT_E]
  ·split
   ·rw [numOr_E]
   ·rfl
theorem topE_E (x : Ex) : exE (topE x) = topE (exE x) := by
 unfold topE
 rw [exE_code]
 split
 ·rw [twoE_E]
 ·split
  ·rw [oneE_E]
  ·rfl
mutual
theorem foldE_E : ∀ x : Ex, exE (foldE x) = foldE (exE x)
 | .nil => by rw [foldE, exE, foldE]
 | .mk c a n op nm l r zs => by
  rw [foldE, topE_E, exE, exE, foldE, foldE_E l, foldE_E r, foldEs_E zs]
theorem foldEs_E : ∀ xs : Exs, exsE (foldEs xs) = foldEs (exsE xs)
 | .nil => by rw [foldEs, exsE, foldEs]
 | .cons x xs => by rw [foldEs, exsE, exsE, foldEs, foldE_E x, foldEs_E xs]
end
theorem decS_E (s : St) : (decS s).map stE = decS (stE s) := by
 obtain ⟨c, a, nm, x, v, t, e, cs⟩ := s
 rw [stE, decS_eq, decS_eq, truthE_E, stsE_len, stsE_len]
 split
 ·rw [Option.map_some, stE]
 ·split
  ·split
   ·rw [Option.map_some, stE]
   ·rfl
  ·split
   ·split
    ·rw [Option.map_some, stE, stsE]
    ·rfl
   ·split
    ·split
     ·rw [Option.map_some, stE, stsE]
     ·rfl
    ·rw [Option.map_some, stE]
mutual
theorem foldS_E : ∀ s : St, (foldS s).map stE = foldS (stE s)
 | .mk c a nm x v t e cs => by
  rw [foldS, decS_E, stE, stE, foldS, foldE_E x, foldE_E v, foldSs_E t, foldSs_E e, foldCs_E cs]
theorem foldSs_E : ∀ ss : Sts, stsE (foldSs ss) = foldSs (stsE ss)
 | .nil => by rw [foldSs, stsE, foldSs]
 | .cons s ss => by
  have h := foldS_E s
  rw [foldSs, stsE, foldSs, <- h]
  cases foldS s with
  | none => exact foldSs_E ss
  | some y =>
   show stsE (.cons y (foldSs ss)) = .cons (stE y) (foldSs (stsE ss))
   rw [stsE, foldSs_E ss]
theorem foldC_E : ∀ c : Ca, caE (foldC c) = foldC (caE c)
 | .mk c a nm x v b => by rw [foldC, caE, caE, foldC, foldE_E x, foldE_E v, foldSs_E b]
theorem foldCs_E : ∀ cs : Cas, casE (foldCs cs) = foldCs (casE cs)
 | .nil => by rw [foldCs, casE, foldCs]
 | .cons c cs => by rw [foldCs, casE, casE, foldCs, foldC_E c, foldCs_E cs]
end
mutual
theorem szE_E : ∀ x : Ex, szE (exE x) = szE x
 | .nil => by rw [exE]
 | .mk c a n op nm l r zs => by rw [exE, szE, szE, szE_E l, szE_E r, szEs_E zs]
theorem szEs_E : ∀ xs : Exs, szEs (exsE xs) = szEs xs
 | .nil => by rw [exsE]
 | .cons x xs => by rw [exsE, szEs, szEs, szE_E x, szEs_E xs]
end
mutual
theorem szS_E : ∀ s : St, szS (stE s) = szS s
 | .mk c a nm x v t e cs => by rw [stE, szS, szS, szE_E x, szE_E v, szSs_E t, szSs_E e, szCs_E cs]
theorem szSs_E : ∀ ss : Sts, szSs (stsE ss) = szSs ss
 | .nil => by rw [stsE]
 | .cons x xs => by rw [stsE, szSs, szSs, szS_E x, szSs_E xs]
theorem szC_E : ∀ c : Ca, szC (caE c) = szC c
 | .mk c a nm x v b => by rw [caE, szC, szC, szE_E x, szE_E v, szSs_E b]
theorem szCs_E : ∀ cs : Cas, szCs (casE cs) = szCs cs
 | .nil => by rw [casE]
 | .cons x xs => by rw [casE, szCs, szCs, szC_E x, szCs_E xs]
end
def headX : Sts -> Ex
 | .nil => .nil
 | .cons (.mk _ _ _ _ v _ _ _) _ => v
theorem headX_E (ss : Sts) : headX (stsE ss) = exE (headX ss) := by
 cases ss with
 | nil => rw [stsE]; show Ex.nil = exE .nil; rw [exE]
 | cons s xs => obtain ⟨c, a, nm, x, v, t, e, cs⟩ := s; rw [stsE, stE]; rfl
def foldedL : Lx.B := [102, 117, 110, 99, 32, 109, 97, 105, 110, 40, 41, 32, 123, 10, 112, 114, 105, 110, 116, 32, 50, 32, 42, 32, 51, 32, 43, 32, 49, 10, 105, 102, 32, 102, 97, 108, 115, 101, 32, 123, 10, 125, 10, 125]
def foldedIs (s : Src) : Bool := s.globals.length == 0 && (s.funcs.length == 1 && (s.funcs.all (fun f => f.params.length == 0 && (decide (szSs f.body <= 1000) && ((foldSs f.body).len == 1 && exV 1 (headX (foldSs f.body)) == [55])))))
def foldedT : Bool := match lx foldedL 0 false with
 | (ts, none) => match Tr.program ⟨ts, 44⟩ 200 ⟨[], []⟩ 0 with
  | .ok s _ => foldedIs s
  | _ => false
 | _ => false
theorem folded_t : foldedT = true := by kernel_rfl
theorem folded_has : ∃ ts s m, lx foldedL 0 false = (ts, none) /\ Tr.program ⟨ts, 44⟩ 200 ⟨[], []⟩ 0 = .ok s m /\ foldedIs s = true := by
 have h := folded_t
 unfold foldedT at h
 split at h
 ·rename_i ts hts
  split at h
  ·rename_i s m hs
   exact ⟨ts, s, m, hts, hs, h⟩
  ·cases h
 ·cases h
theorem folded_says {r : Res Src} {ts : List Tok} (hts : lx foldedL 0 false = (ts, none)) (hr : Ev (fun f => Tr.program ⟨ts, 44⟩ f ⟨[], []⟩ 0) r) :
  ∃ s m f, r = .ok s m /\ s.globals = [] /\ s.funcs = [f] /\ f.params = [] /\ szSs f.body <= 1000 /\ (foldSs f.body).len = 1 /\ exV 1 (headX (foldSs f.body)) = [55] := by
 obtain ⟨ts', s, m, h1, h2, h3⟩ := folded_has
 rw [hts] at h1
 cases h1
 simp only [foldedIs, Bool.and_eq_true, beq_iff_eq] at h3
 obtain ⟨a1, a2, a3⟩ := h3
 obtain ⟨s', m', rfl, e1, e2⟩ := program_more h2 (by omega) (by omega) hr
 obtain ⟨g, hg⟩ := List.length_eq_one_iff.1 a2
 rw [hg] at a3 e2
 simp only [List.all_cons, List.all_nil, Bool.and_true, Bool.and_eq_true, beq_iff_eq, decide_eq_true_eq] at a3
 obtain ⟨b1, b2, b3, b4⟩ := a3
 rw [List.length_eq_zero_iff] at a1
 rw [a1] at e1
 have hf1 : s'.funcs.length = 1 := by simpa using congrArg List.length e2
 obtain ⟨f, hf⟩ := List.length_eq_one_iff.1 hf1
 rw [hf] at e2
 injection e2 with e2 _
 have p1 := congrArg (fun f : Fu => f.params.length) e2
 have p2 := congrArg (fun f : Fu => f.body) e2
 simp only [fuE, List.length_map] at p1 p2
 have p3 : stsE (foldSs f.body) = stsE (foldSs g.body) := by rw [foldSs_E, foldSs_E, p2]
 refine ⟨s', m', f, rfl, ?_, hf, ?_, ?_, ?_, ?_⟩
 ·exact List.map_eq_nil_iff.1 e1
 ·exact List.length_eq_zero_iff.1 (by omega)
 ·rw [<- szSs_E, p2, szSs_E]; exact b2
 ·rw [<- stsE_len, p3, stsE_len]; exact b3
 ·rw [<- exV_E, <- headX_E, p3, headX_E, exV_E]; exact b4
end Go.Proofs.YtnpapppipccdbaaGreatDoor
namespace Go.Proofs.YtnpapppipccdbaaGreatDoor
open Go.RowKit Lx Tr
variable {w w' : World}
theorem own_empty (w : World) (e : TypeId) (size : Nat) : (w.alloc (.cells #[] e)).ownsRow w.heap.size e size (.slice (some ⟨w.heap.size, 0, none⟩) 0 0) 0 [] :=
 ⟨by simp, Or.inr ⟨w.heap.size, 0, #[], rfl, Nat.le_refl _, heap_alloc_new w _, Nat.le_refl _, Nat.zero_le _, by simp, by simp⟩⟩
theorem glc_cells {g : Nat} : ∀ (l : List Gl) (o : Nat), (∀ i p, l[i]? = some p -> w.cell? ⟨g, o + i * 2, none⟩ = some (.string (mkT p.name)) /\ w.cell? ⟨g, o + i * 2 + 1, none⟩ = some (.int .i64 (p.at_ : Nat))) -> ∀ j u, (glCells l)[j]? = some u -> w.cell? ⟨g, o + j, none⟩ = some u
 | [], _, _, _, _, h => by cases h
 | p :: l, o, hl, j, u, h => by
  obtain ⟨a0, a1⟩ := hl 0 p rfl
  rw [show o + 0 * 2 = o by omega] at a0 a1
  match j, h with
  | 0, h => cases h; exact a0
  | 1, h => cases h; exact a1
  | j + 2, h =>
   have := glc_cells l (o + 2) (fun i q hi => by
    have h2 := hl (i + 1) q hi
    rw [show o + (i + 1) * 2 = o + 2 + i * 2 by omega] at h2
    exact h2) j u h
   rw [show o + (j + 2) = o + 2 + j by omega]
   exact this
theorem eqglc_nil (w : World) : (binOp BinOp.eql 23 (.slice none 0 0) (.slice none 0 0)).run Tryz.prog w = .ok (.bool true) w := by kernel_rfl
theorem eqglc_some (g n c : Nat) (w : World) : (binOp BinOp.eql 23 (.slice (some ⟨g, 0, none⟩) n c) (.slice none 0 0)).run Tryz.prog w = .ok (.bool false) w := by kernel_rfl
theorem glc_one : ∀ (l : List Gl), ∀ y ∈ glCells l, y.oneCell' = true
 | [], y, h => by cases h
 | p :: l, y, h => by
  have h' : y ∈ [Value.string (mkT p.name), Value.int .i64 (p.at_ : Nat)] ++ glCells l := h
  rcases List.mem_append.1 h' with h | h
  ·simp at h; rcases h with rfl | rfl <;> rfl
  ·exact glc_one l y h
theorem glc_len : ∀ l : List Gl, (glCells l).length = l.length * 2
 | [] => rfl
 | p :: l => by
  show ([Value.string (mkT p.name), Value.int .i64 (p.at_ : Nat)] ++ glCells l).length = (l.length + 1) * 2
  rw [List.length_append, glc_len l]
  simp only [List.length_cons, List.length_nil]
  omega
theorem glc_row {B : Nat} {v : Value} {l : List Gl} (hown : w.ownsRow B 54 2 v l.length (glCells l)) (hpos : 0 < l.length) : GlRow w (fun b => B <= b) v l := by
 have hc := hown
 rcases hown.2 with ⟨_, e⟩ | ⟨g, cap, cur, rfl, hb, hg, h3, h4, _⟩
 ·omega
 ·refine Or.inr ⟨g, cap, rfl, h3, h4, hb, hpos, fun i p hi => ?_⟩
  obtain ⟨a0, a1⟩ := glCells_at l i p hi
  have hin := (List.getElem?_eq_some_iff.1 hi).1
  refine ⟨?_, ?_⟩
  ·rw [World.ownsRow.cellAt hc (i * 2) (by omega)]; exact a0
  ·rw [World.ownsRow.cellAt hc (i * 2 + 1) (by omega)]; exact a1
theorem cloneG_any {F : Nat -> Prop} {v : Value} {l : List Gl} (hl : l.length <= 1000000) (w : World) (h : GlRow w F v l) : Calls Tryz.prog 71 #[v] w fun e w' => ∃ u, e = .returned u /\ GlRow w' (fun b => w.heap.size <= b) u l /\ Below w.heap.size w w' := by
 rcases h with ⟨rfl, rfl⟩ | ⟨g, cap, rfl, h1, h2, h3, h4, h5⟩
 ·have hE := eqglc_nil
  go_enter Tryz.func71, Tryz.ntmps71
  go_wp2_with fail
  go_ret
  exact ⟨_, rfl, Or.inl ⟨rfl, rfl⟩, Below.refl _ _⟩
 ·have hE := eqglc_some g l.length cap
  have hg : g < w.heap.size := by
   obtain ⟨p, hp⟩ : ∃ p, l[0]? = some p := ⟨_, List.getElem?_eq_getElem h4⟩
   exact block_lt_of_cell (h5 0 p hp).1
  have HC : Hid (∀ j u, (glCells l)[j]? = some u -> (w.alloc (.cells #[] 54)).cell? ((⟨g, 0, none⟩ : Addr).add j) = some u) := zz fun j u hj => by
   rw [add_zero_off, World.cell?_alloc_lt _ _ ⟨g, 0 + j, none⟩ hg]
   exact glc_cells l 0 (fun i p hi => by
    have h9 := h5 i p hi
    rw [<- Nat.zero_add (i * 2)] at h9
    exact h9) j u hj
  have HO := zz (own_empty w 54 2)
  have HL := zz hl
  have HP := zz h4
  obtain ⟨i0, hi, hz0, hz1, hz2⟩ := info_parts info_global
  have HI := zz (And.intro hi (And.intro hz0 (And.intro hz1 hz2)))
  clear h1 h2 h3 h4 h5 hg hl hi hz0 hz1 hz2
  go_enter Tryz.func71, Tryz.ntmps71
  go_wp2_with (at_builtin; refine wpList_append_own_at _ rfl _ _ 23 rfl w.heap.size 54 i0 (.agg #[.string ByteArray.empty, .int .i64 0]) 2 24 Tryz.underlying23 HI.out.1 HI.out.2.1 HI.out.2.2.1 HI.out.2.2.2 rfl (by decide) _ 0 [] rfl HO.out ⟨g, 0, none⟩ l.length cap (glCells l) rfl (glc_len l) HC.out (glc_one l) (by have := HL.out; unfold maxLen; omega) (by have := HL.out; omega) (by simp) ?_; intro v' w' q1 q2 _ _)
  rw [Nat.zero_add, List.nil_append] at q1
  have hk : Keeps (fun k => k = w.heap.size) w w' := keeps_append (v := .slice (some ⟨w.heap.size, 0, none⟩) 0 0) q2 (fun k e => by cases e; rfl)
  have hrow := glc_row q1 HP.out
  have HR := zz hrow
  have HB : Hid (Below w.heap.size w w') := zz (hk.below (Nat.le_refl _) (fun k _ e => by have h9 : k = w.heap.size := e; omega))
  clear q1 q2 hk hrow
  go_wp2_with fail
  go_ret
  exact ⟨_, rfl, HR.out, HB.out⟩
theorem pac_cells {g : Nat} : ∀ (l : List Pa) (o : Nat), (∀ i p, l[i]? = some p -> w.cell? ⟨g, o + i * 3, none⟩ = some (.string (mkT p.name)) /\ w.cell? ⟨g, o + i * 3 + 1, none⟩ = some (.int .i64 (p.kind : Nat)) /\ w.cell? ⟨g, o + i * 3 + 2, none⟩ = some (.int .i64 (p.at_ : Nat))) -> ∀ j u, (paCells l)[j]? = some u -> w.cell? ⟨g, o + j, none⟩ = some u
 | [], _, _, _, _, h => by cases h
 | p :: l, o, hl, j, u, h => by
  obtain ⟨a0, a1, a2⟩ := hl 0 p rfl
  rw [show o + 0 * 3 = o by omega] at a0 a1 a2
  match j, h with
  | 0, h => cases h; exact a0
  | 1, h => cases h; exact a1
  | 2, h => cases h; exact a2
  | j + 3, h =>
   have := pac_cells l (o + 3) (fun i q hi => by
    have h2 := hl (i + 1) q hi
    rw [show o + (i + 1) * 3 = o + 3 + i * 3 by omega] at h2
    exact h2) j u h
   rw [show o + (j + 3) = o + 3 + j by omega]
   exact this
theorem eqpac_nil (w : World) : (binOp BinOp.eql 48 (.slice none 0 0) (.slice none 0 0)).run Tryz.prog w = .ok (.bool true) w := by kernel_rfl
theorem eqpac_some (g n c : Nat) (w : World) : (binOp BinOp.eql 48 (.slice (some ⟨g, 0, none⟩) n c) (.slice none 0 0)).run Tryz.prog w = .ok (.bool false) w := by kernel_rfl
theorem pac_one : ∀ (l : List Pa), ∀ y ∈ paCells l, y.oneCell' = true
 | [], y, h => by cases h
 | p :: l, y, h => by
  have h' : y ∈ [Value.string (mkT p.name), Value.int .i64 (p.kind : Nat), Value.int .i64 (p.at_ : Nat)] ++ paCells l := h
  rcases List.mem_append.1 h' with h | h
  ·simp at h; rcases h with rfl | rfl | rfl <;> rfl
  ·exact pac_one l y h
theorem pac_len : ∀ l : List Pa, (paCells l).length = l.length * 3
 | [] => rfl
 | p :: l => by
  show ([Value.string (mkT p.name), Value.int .i64 (p.kind : Nat), Value.int .i64 (p.at_ : Nat)] ++ paCells l).length = (l.length + 1) * 3
  rw [List.length_append, pac_len l]
  simp only [List.length_cons, List.length_nil]
  omega
theorem pac_row {B : Nat} {v : Value} {l : List Pa} (hown : w.ownsRow B 102 3 v l.length (paCells l)) (hpos : 0 < l.length) : PaRow w (fun b => B <= b) v l := by
 have hc := hown
 rcases hown.2 with ⟨_, e⟩ | ⟨g, cap, cur, rfl, hb, hg, h3, h4, _⟩
 ·omega
 ·refine Or.inr ⟨g, cap, rfl, h3, h4, hb, hpos, fun i p hi => ?_⟩
  obtain ⟨a0, a1, a2⟩ := paCells_at l i p hi
  have hin := (List.getElem?_eq_some_iff.1 hi).1
  refine ⟨?_, ?_, ?_⟩
  ·rw [World.ownsRow.cellAt hc (i * 3) (by omega)]; exact a0
  ·rw [World.ownsRow.cellAt hc (i * 3 + 1) (by omega)]; exact a1
  ·rw [World.ownsRow.cellAt hc (i * 3 + 2) (by omega)]; exact a2
theorem cloneP_any {F : Nat -> Prop} {v : Value} {l : List Pa} (hl : l.length <= 1000000) (w : World) (h : PaRow w F v l) : Calls Tryz.prog 74 #[v] w fun e w' => ∃ u, e = .returned u /\ PaRow w' (fun b => w.heap.size <= b) u l /\ Below w.heap.size w w' := by
 rcases h with ⟨rfl, rfl⟩ | ⟨g, cap, rfl, h1, h2, h3, h4, h5⟩
 ·have hE := eqpac_nil
  go_enter Tryz.func74, Tryz.ntmps74
  go_wp2_with fail
  go_ret
  exact ⟨_, rfl, Or.inl ⟨rfl, rfl⟩, Below.refl _ _⟩
 ·have hE := eqpac_some g l.length cap
  have hg : g < w.heap.size := by
   obtain ⟨p, hp⟩ : ∃ p, l[0]? = some p := ⟨_, List.getElem?_eq_getElem h4⟩
   exact block_lt_of_cell (h5 0 p hp).1
  have HC : Hid (∀ j u, (paCells l)[j]? = some u -> (w.alloc (.cells #[] 102)).cell? ((⟨g, 0, none⟩ : Addr).add j) = some u) := zz fun j u hj => by
   rw [add_zero_off, World.cell?_alloc_lt _ _ ⟨g, 0 + j, none⟩ hg]
   exact pac_cells l 0 (fun i p hi => by
    have h9 := h5 i p hi
    rw [<- Nat.zero_add (i * 3)] at h9
    exact h9) j u hj
  have HO := zz (own_empty w 102 3)
  have HL := zz hl
  have HP := zz h4
  obtain ⟨i0, hi, hz0, hz1, hz2⟩ := info_parts info_param
  have HI := zz (And.intro hi (And.intro hz0 (And.intro hz1 hz2)))
  clear h1 h2 h3 h4 h5 hg hl hi hz0 hz1 hz2
  go_enter Tryz.func74, Tryz.ntmps74
  go_wp2_with (at_builtin; refine wpList_append_own_at _ rfl _ _ 48 rfl w.heap.size 102 i0 (.agg #[.string ByteArray.empty, .int .i64 0, .int .i64 0]) 3 32 Tryz.underlying48 HI.out.1 HI.out.2.1 HI.out.2.2.1 HI.out.2.2.2 rfl (by decide) _ 0 [] rfl HO.out ⟨g, 0, none⟩ l.length cap (paCells l) rfl (pac_len l) HC.out (pac_one l) (by have := HL.out; unfold maxLen; omega) (by have := HL.out; omega) (by simp) ?_; intro v' w' q1 q2 _ _)
  rw [Nat.zero_add, List.nil_append] at q1
  have hk : Keeps (fun k => k = w.heap.size) w w' := keeps_append (v := .slice (some ⟨w.heap.size, 0, none⟩) 0 0) q2 (fun k e => by cases e; rfl)
  have hrow := pac_row q1 HP.out
  have HR := zz hrow
  have HB : Hid (Below w.heap.size w w') := zz (hk.below (Nat.le_refl _) (fun k _ e => by have h9 : k = w.heap.size := e; omega))
  clear q1 q2 hk hrow
  go_wp2_with fail
  go_ret
  exact ⟨_, rfl, HR.out, HB.out⟩
def fuCells (nm : Lx.B) (a : Nat) (ap : Option Addr) (lp kp kd : Nat) (ab : Option Addr) (lb kb : Nat) : Value := .agg #[.string (mkT nm), .int .i64 (a : Nat), .slice ap lp kp, .int .i64 (kd : Nat), .slice ab lb kb]
def FuA (w : World) (F : Nat -> Prop) (u : Value) (g : Fu) : Prop := ∃ nm a ps kd body ap kp ab kb, g = ⟨nm, a, ps, kd, body⟩ /\ u = fuCells nm a ap ps.length kp kd ab body.len kb /\ PaRow w F (.slice ap ps.length kp) ps /\ StsF w F body (.slice ab body.len kb)
theorem paRow_len {F : Nat -> Prop} {v : Value} {l : List Pa} (h : PaRow w F v l) : ∃ o c, v = .slice o l.length c := by
 rcases h with ⟨e, e0⟩ | ⟨g, cap, e, _⟩
 ·exact ⟨none, 0, by rw [e, e0]; rfl⟩
 ·exact ⟨_, _, e⟩
theorem paRow_mono {F G : Nat -> Prop} (hF : ∀ b, b < w.heap.size -> F b -> G b) {v : Value} {l : List Pa} (h : PaRow w F v l) : PaRow w G v l := by
 rcases h with h | ⟨g, cap, h1, h2, h3, h4, h5, h6⟩
 ·exact Or.inl h
 ·obtain ⟨p, hp⟩ : ∃ p, l[0]? = some p := ⟨_, List.getElem?_eq_getElem h5⟩
  have h7 := (h6 0 p hp).1
  exact Or.inr ⟨g, cap, h1, h2, h3, hF g (block_lt_of_cell h7) h4, h5, h6⟩
theorem paRow_on {B k : Nat} {S : Nat -> Prop} {v : Value} {x : List Pa} (h : PaRow w (fun b => B <= b) v x) (hk : Keeps S w w') (hS : ∀ b, B <= b -> b < w.heap.size -> ¬ S b) (hB : k <= B) : PaRow w' (fun b => k <= b) v x :=
 paRow_mono (fun _ _ e => Nat.le_trans hB e.1) ((paRow_mono (G := fun b => B <= b /\ b < w.heap.size) (fun _ h1 h2 => ⟨h2, h1⟩) h).keeps hk (fun b e => hS b e.1 e.2))
theorem kown5 {k : Nat} {v0 v1 v2 v3 v4 : Value} : Keeps (fun b => b = k) w (((((w.setCell ⟨k, 0, none⟩ v0).setCell ⟨k, 1, none⟩ v1).setCell ⟨k, 2, none⟩ v2).setCell ⟨k, 3, none⟩ v3).setCell ⟨k, 4, none⟩ v4) :=
 (kown2.trans kown2).trans kown1
def FuFn (g : Fu) : Prop := ∀ (F : Nat -> Prop) (w : World) (u : Value), (∀ b, F b -> b < w.heap.size) -> FuA w F u g -> Calls Tryz.prog 73 #[u] w fun e w' => ∃ u', e = .returned (.tuple #[u', .bool true]) /\ FuA w' (fun b => w.heap.size <= b) u' (foldF g) /\ Below w.heap.size w w'
theorem fuFn_any {g : Fu} (hp : g.params.length <= 1000000) (hS : StmtsC g.body) : FuFn g := by
 intro F w u hF h
 obtain ⟨nm, a, ps, kd, body, ap, kp, ab, kb, rfl, rfl, h1, h2⟩ := h
 obtain ⟨w1, hw1⟩ : ∃ W, W = (w.alloc (.cells #[.string (mkT nm), .int .i64 (a : Nat), .slice ap ps.length kp, .int .i64 (kd : Nat), .slice ab body.len kb] 51)).alloc (.cells #[.string ⟨#[]⟩, .int .i64 0, .slice none 0 0, .int .i64 0, .slice none 0 0] 51) := ⟨_, rfl⟩
 have HW1 := zz hw1
 have hB1 : Below w.heap.size w w1 := by rw [hw1]; exact two_new w _ _ _ _
 have hz1 : w1.heap.size = w.heap.size + 2 := by rw [hw1]; simp
 have hs1 : Blk w1 w.heap.size [.string (mkT nm), .int .i64 (a : Nat), .slice ap ps.length kp, .int .i64 (kd : Nat), .slice ab body.len kb] := by
  rw [hw1]; exact (Blk.new w _ _).fresh (fresh_al _ _ _)
 have hr1 : Blk w1 (w.heap.size + 1) [.string ⟨#[]⟩, .int .i64 0, .slice none 0 0, .int .i64 0, .slice none 0 0] := by
  rw [hw1]; exact Blk.new' _ _ _ (by simp)
 have hn : ∀ b, F b -> ¬ w.heap.size <= b := fun b e e2 => by have := hF b e; omega
 have HV : Hid (∀ W, Below w.heap.size w W -> PaRow W F (.slice ap ps.length kp) ps /\ StsF W F body (.slice ab body.len kb)) := zz fun W hb => by
  have hk : Keeps (fun k => w.heap.size <= k) w W := Keeps.of_below (S := fun k => w.heap.size <= k) hb (fun _ _ e => e)
  exact ⟨h1.keeps hk hn, stsF_keeps h2 hk hn⟩
 have HF := zz hF
 have HS := zz hS
 have HB1 := zz hB1
 have HZ1 := zz hz1
 have SB1 := zz hs1
 have RB1 := zz hr1
 have HC := zz (cloneP_any hp w1 (HV.out w1 hB1).1)
 have i2 := hs1.at_ 2 _ rfl
 clear h1 h2 hS hp hw1 hB1 hz1 hs1 hr1 hn hF
 unfold fuCells
 go_enter Tryz.func73, Tryz.ntmps73
 go_upto_region 1 with fail
 rw [<- HW1.out]
 go_wp2_with fail
 refine HC.out.mono ?_
 rintro e w2 ⟨v2, rfl, hp2, hb2⟩
 obtain ⟨up, uk, rfl⟩ := paRow_len hp2
 have SB2 := zz (SB1.out.fresh hb2)
 have RB2 := zz (RB1.out.fresh hb2)
 have j2 := SB2.out.at_ 2 _ rfl
 have z2 := SB2.out.free 2
 have hk3 : Keeps (fun b => b = w.heap.size) w2 (w2.setCell ⟨w.heap.size, 2, none⟩ (.slice up ps.length uk)) := kown1
 have SB3 := zz (SB2.out.set 2 (.slice up ps.length uk) (by simp))
 have RB3 := zz (RB2.out.keeps hk3 (by omega))
 have hz1 := HZ1.out
 have hz2 := hb2.size
 have hB3 : Below w.heap.size w (w2.setCell ⟨w.heap.size, 2, none⟩ (.slice up ps.length uk)) := HB1.out.trans ((hb2.mono HB1.out.size).trans (hk3.below (by omega) (fun b _ e => by have h9 : b = w.heap.size := e; omega)))
 have hp3 : PaRow (w2.setCell ⟨w.heap.size, 2, none⟩ (.slice up ps.length uk)) (fun b => w.heap.size + 2 <= b) (.slice up ps.length uk) ps := paRow_on hp2 hk3 (fun b h1 _ e => by have h9 : b = w.heap.size := e; omega) (by omega)
 have HE := zz (HS.out F _ _ (HV.out _ hB3).2 (fun b hb => Nat.lt_of_lt_of_le (HF.out b hb) hB3.size))
 have HB3 := zz hB3
 have HP3 := zz hp3
 have HZ3 : Hid (w.heap.size + 2 <= (w2.setCell ⟨w.heap.size, 2, none⟩ (.slice up ps.length uk)).heap.size) := zz (by have := hk3.size; omega)
 have i4 := SB3.out.at_ 4 _ rfl
 clear hp2 hb2 hk3 hz1 hz2 hB3 hp3 i2
 go_wp2_with (go_at_call 75; refine HE.out.mono ?_; rintro e w5 ⟨v5, rfl, hv5, hb5⟩; obtain ⟨vb, vk, rfl⟩ := slAt_len hv5.1; have SB5 := zz (SB3.out.fresh hb5); have RB5 := zz (RB3.out.fresh hb5); have j5 := SB5.out.at_ 4 _ rfl; have z5 := SB5.out.free 4; have SB6 : Hid (Blk (w5.setCell ⟨w.heap.size, 4, none⟩ (.slice vb (foldSs body).len vk)) w.heap.size [.string (mkT nm), .int .i64 (a : Nat), .slice up ps.length uk, .int .i64 (kd : Nat), .slice vb (foldSs body).len vk]) := zz (SB5.out.set 4 _ (by simp)); have RB6 : Hid (Blk (w5.setCell ⟨w.heap.size, 4, none⟩ (.slice vb (foldSs body).len vk)) (w.heap.size + 1) [.string ⟨#[]⟩, .int .i64 0, .slice none 0 0, .int .i64 0, .slice none 0 0]) := zz (RB5.out.keeps (S := fun b => b = w.heap.size) kown1 (by omega)); have l0 := SB6.out.at_ 0 _ rfl; have l1 := SB6.out.at_ 1 _ rfl; have l2 := SB6.out.at_ 2 _ rfl; have l3 := SB6.out.at_ 3 _ rfl; have l4 := SB6.out.at_ 4 _ rfl; have r0 := RB6.out.at_ 0 _ rfl; have r1 := RB6.out.at_ 1 _ rfl; have r2 := RB6.out.at_ 2 _ rfl; have r3 := RB6.out.at_ 3 _ rfl; have r4 := RB6.out.at_ 4 _ rfl; have y0 := RB6.out.free 0; have y1 := RB6.out.free 1; have y2 := RB6.out.free 2; have y3 := RB6.out.free 3; have y4 := RB6.out.free 4; have HB5 := zz hb5; have HV5 := zz hv5; clear hb5 hv5)
 refine bodyPost_ret (v := .tuple #[.agg #[.string (mkT nm), .int .i64 (a : Nat), .slice up ps.length uk, .int .i64 (kd : Nat), .slice vb (foldSs body).len vk], .bool true]) (by simp [results, Tryz.results73, go_sem, r0, r1, r2, r3, r4]) rfl ?_
 have hk1 : Keeps (fun b => b = w.heap.size) w5 (w5.setCell ⟨w.heap.size, 4, none⟩ (.slice vb (foldSs body).len vk)) := kown1
 have hk6 := kown5 (w := w5.setCell ⟨w.heap.size, 4, none⟩ (.slice vb (foldSs body).len vk)) (k := w.heap.size + 1) (v0 := .string (mkT nm)) (v1 := .int .i64 (a : Nat)) (v2 := .slice up ps.length uk) (v3 := .int .i64 (kd : Nat)) (v4 := .slice vb (foldSs body).len vk)
 have hk : Keeps (fun b => b = w.heap.size \/ b = w.heap.size + 1) w5 _ := (hk1.mono (fun _ _ e => Or.inl e)).trans (hk6.mono (fun _ _ e => Or.inr e))
 have hz5 := HB5.out.size
 have hz0 := HZ3.out
 have hno : ∀ b, w.heap.size + 2 <= b -> ¬ (b = w.heap.size \/ b = w.heap.size + 1) := fun b h e => by omega
 refine ⟨_, rfl, ⟨nm, a, ps, kd, foldSs body, up, uk, vb, vk, rfl, rfl, paRow_on (paRow_on HP3.out (Keeps.of_below (S := fun k => (w2.setCell ⟨w.heap.size, 2, none⟩ (.slice up ps.length uk)).heap.size <= k) HB5.out (fun _ _ e => e)) (fun b _ h2 e => by have h9 : (w2.setCell ⟨w.heap.size, 2, none⟩ (.slice up ps.length uk)).heap.size <= b := e; omega) (Nat.le_refl _)) hk (fun b h1 _ e => hno b h1 e) (by omega), stsF_on HV5.out hk (fun b h1 _ e => hno b (by omega) e) (by omega)⟩, HB3.out.trans ((HB5.out.mono HB3.out.size).trans (hk.below (by omega) (fun b _ e => by have h9 : b = w.heap.size \/ b = w.heap.size + 1 := e; omega)))⟩
theorem wpList_appendFus {ops : Array Oper} {rest : List Oper} {o : Oper} {a : Act} {Q : Exit -> Act -> World -> Prop} (hgd : o.guard = none) (s x : Operand)
  (ho : o.op = .call { callee := .builtin .append, args := #[s, x], argTypes := #[24, 24] }) (w : World) (B : Nat) (v : Value) (n : Nat) (xs us : List Value) (hus : us.length = 1 * 5) (h1us : ∀ u ∈ us, u.oneCell' = true) (hown : w.ownsRow B 51 5 v n xs) (hs : a.eval s = v)
  (g9 : Nat) (hx : a.eval x = .slice (some ⟨g9, 0, none⟩) 1 1) (hg9 : g9 = w.heap.size) (hl : n <= 1000000) (hB : B <= w.heap.size)
  (h : ∀ ao' cap' w', w'.ownsRow B 51 5 (.slice ao' (n + 1) cap') (n + 1) (xs ++ us) -> Keeps (fun b => v.ownBlock = some b) w w' -> (∀ k, (Value.slice ao' (n + 1) cap').ownBlock = some k -> v.ownBlock = some k \/ w.heap.size <= k) ->
   wpList Tryz.prog ops Q rest (a.put o.dst (.slice ao' (n + 1) cap')) w') : wpList Tryz.prog ops Q (o :: rest) a (w.alloc (.cells us.toArray 51)) := by
 subst hg9
 obtain ⟨i0, hi, hz0, hz1, hz2⟩ := info_parts info_func
 refine wpList_append_own_at _ hgd s x 24 ho B 51 i0 (.agg #[.string ByteArray.empty, .int .i64 0, .slice none 0 0, .int .i64 0, .slice none 0 0]) 5 80 Tryz.underlying24 hi hz0 hz1 hz2 rfl (by decide) v n xs hs (World.ownsRow.alloc hown _) ⟨w.heap.size, 0, none⟩ 1 1 us hx hus
  (cellsL_new _ _ _) h1us (by unfold maxLen; omega) (by omega) (by simp; omega) ?_
 intro v' w' h1 h2 _ h4
 have hv' : ∃ ao' cap', v' = .slice ao' (n + 1) cap' := by
  rcases h1.2 with ⟨_, h0⟩ | ⟨g, cap', cur, rfl, _⟩
  ·omega
  ·exact ⟨_, _, rfl⟩
 obtain ⟨ao', cap', rfl⟩ := hv'
 refine h ao' cap' w' h1 (keeps_append h2 (fun k e => e)) (fun k e => ?_)
 rcases h4 with h5 | h5
 ·exact Or.inl (h5 ▸ e)
 ·rw [h5] at e
  have := Option.some.inj e
  exact Or.inr (by simp at this; omega)
theorem fuAt_cells {F : Nat -> Prop} {g o : Nat} {s : Fu} (h : FuAt w F g o s) : ∃ nm a ps kd body ap kp ab kb, s = ⟨nm, a, ps, kd, body⟩ /\ w.cell? ⟨g, o, none⟩ = some (.string (mkT nm)) /\ w.cell? ⟨g, o + 1, none⟩ = some (.int .i64 (a : Nat)) /\ w.cell? ⟨g, o + 2, none⟩ = some (.slice ap ps.length kp) /\ w.cell? ⟨g, o + 3, none⟩ = some (.int .i64 (kd : Nat)) /\ w.cell? ⟨g, o + 4, none⟩ = some (.slice ab body.len kb) /\ PaRow w F (.slice ap ps.length kp) ps /\ StsF w F body (.slice ab body.len kb) := by
 obtain ⟨nm, a, ps, kd, body⟩ := s
 obtain ⟨pv, bv, c0, c1, c2, c3, c4, h1, h2⟩ := h
 obtain ⟨ap, kp, rfl⟩ := paRow_len h1
 obtain ⟨ab, kb, rfl⟩ := slAt_len h2.1
 exact ⟨nm, a, ps, kd, body, ap, kp, ab, kb, rfl, c0, c1, c2, c3, c4, h1, h2⟩
theorem fuAt_keeps {F S : Nat -> Prop} {g o : Nat} {s : Fu} (h : FuAt w F g o s) (hg : F g) (hk : Keeps S w w') (hF : ∀ b, F b -> ¬ S b) : FuAt w' F g o s := by
 obtain ⟨pv, bv, c0, c1, c2, c3, c4, h1, h2⟩ := h
 have hn := hF g hg
 exact ⟨pv, bv, hk.cell_of c0 hn, hk.cell_of c1 hn, hk.cell_of c2 hn, hk.cell_of c3 hn, hk.cell_of c4 hn, h1.keeps hk hF, stsF_keeps h2 hk hF⟩
theorem fuRow_keeps {F S : Nat -> Prop} {v : Value} {l : List Fu} (h : FuRow w F v l) (hk : Keeps S w w') (hF : ∀ b, F b -> ¬ S b) : FuRow w' F v l := by
 rcases h with h | ⟨g, cap, h1, h2, h3, h4, h5, h6⟩
 ·exact Or.inl h
 ·exact Or.inr ⟨g, cap, h1, h2, h3, h4, h5, fun i p hi => fuAt_keeps (h6 i p hi) h4 hk hF⟩
theorem fuRow_mono {F G : Nat -> Prop} (hF : ∀ b, b < w.heap.size -> F b -> G b) {v : Value} {l : List Fu} (h : FuRow w F v l) : FuRow w G v l := by
 rcases h with h | ⟨g, cap, h1, h2, h3, h4, h5, h6⟩
 ·exact Or.inl h
 ·obtain ⟨p, hp⟩ : ∃ p, l[0]? = some p := ⟨_, List.getElem?_eq_getElem h5⟩
  have h7 := h6 0 p hp
  refine Or.inr ⟨g, cap, h1, h2, h3, hF g (block_lt_of_cell h7.choose_spec.choose_spec.1) h4, h5, fun i p hi => ?_⟩
  obtain ⟨pv, bv, c0, c1, c2, c3, c4, k1, k2⟩ := h6 i p hi
  exact ⟨pv, bv, c0, c1, c2, c3, c4, paRow_mono hF k1, stsF_monoB hF k2⟩
theorem fuRow_len {F : Nat -> Prop} {v : Value} {l : List Fu} (h : FuRow w F v l) : ∃ o c, v = .slice o l.length c := by
 rcases h with ⟨e, e0⟩ | ⟨g, cap, e, _⟩
 ·exact ⟨none, 0, by rw [e, e0]; rfl⟩
 ·exact ⟨_, _, e⟩
theorem fuRow_own {B : Nat} {v : Value} {vs : List Value} {xs : List Fu} (hown : w.ownsRow B 51 5 v xs.length vs) (hv : RowF w (fun b => B <= b) vs xs) (h0 : xs.length = 0 -> v = .slice none 0 0) : FuRow w (fun b => B <= b) v xs := by
 by_cases hz : xs.length = 0
 ·exact Or.inl ⟨h0 hz, List.eq_nil_of_length_eq_zero hz⟩
 ·have hc := hown
  rcases hown.2 with ⟨_, e⟩ | ⟨g, cap, cur, rfl, hb, hg, h3, h4, _⟩
  ·exact absurd e hz
  ·refine Or.inr ⟨g, cap, rfl, h3, h4, hb, by omega, fun i p hi => ?_⟩
   have h8 := RowF.lies xs vs 0 (g := g) (fun j u hj => by
    rw [show 0 * 5 + j = j by omega, World.ownsRow.cellAt hc j (by have := (List.getElem?_eq_some_iff.1 hj).1; have := hc.1; omega)]
    exact hj) hv i p hi
   rw [Nat.zero_add] at h8
   exact h8
theorem eachFus_any {xs : List Fu} (hA : ∀ x ∈ xs, FuFn x) (hsz : xs.length <= 1000000) {F : Nat -> Prop} (w : World) (v : Value) (hx : FuRow w F v xs) (hF : ∀ b, F b -> b < w.heap.size) :
  Calls Tryz.prog 72 #[v, .func (.func 73) #[] #[]] w fun e w' => ∃ sv, e = .returned sv /\ FuRow w' (fun b => w.heap.size <= b) sv (xs.map foldF) /\ Below w.heap.size w w' := by
 obtain ⟨ao, cap, rfl⟩ := fuRow_len hx
 have HA := zz hA
 have HN := zz hsz
 have HW : Hid (∀ W, Below w.heap.size w W -> FuRow W (fun b => b < w.heap.size) (.slice ao xs.length cap) xs) := zz fun W hb =>
  fuRow_keeps (fuRow_mono (fun b _ e => hF b e) hx) (Keeps.of_below (S := fun k => w.heap.size <= k) hb (fun _ _ e => e)) (fun b e e2 => by have h9 : w.heap.size <= b := e2; have h8 : b < w.heap.size := e; omega)
 clear hA hx hsz hF
 go_enter Tryz.func72, Tryz.ntmps72
 go_wp2_with fail
 go_loopw [5, 12] (fun v i wr => ∃ (k : Nat) (vals : List Value), k <= xs.length /\ i = .int .i64 k /\ wr.ownsRow w.heap.size 51 5 v k vals /\ RowF wr (fun b => w.heap.size <= b /\ v.ownBlock ≠ some b) vals ((xs.take k).map foldF) /\ Below w.heap.size w wr /\ (k = 0 -> v = .slice none 0 0)) (fun _ i _ => xs.length - (intOf i).toNat)
 case atStart => exact ⟨0, [], Nat.zero_le _, rfl, World.ownsRow_nil _ _ _ _, rfl, Below.refl _ _, fun _ => rfl⟩
 case round =>
  obtain ⟨k, vals, hk, rfl, hown, hvals, hb, h0⟩ := hrel
  have hn := HN.out
  obtain ⟨ao1, cap1, hform⟩ : ∃ ao1 cap1, u5 = .slice ao1 k cap1 := by
   rcases hown.2 with ⟨e1, e2⟩ | ⟨g, c, cur, e1, _⟩
   ·exact ⟨none, 0, by rw [e1, e2]⟩
   ·exact ⟨_, _, e1⟩
  subst hform
  have HOW := zz hown
  have HVL := zz hvals
  have HBL := zz hb
  have H0 := zz h0
  clear hown hvals hb h0
  by_cases hlt : k < xs.length
  ·obtain ⟨x, hkx⟩ : ∃ x, xs[k]? = some x := ⟨_, List.getElem?_eq_getElem hlt⟩
   have hw0 := HW.out wr HBL.out
   obtain ⟨g, rfl, hin⟩ : ∃ g, ao = some ⟨g, 0, none⟩ /\ FuAt wr (fun b => b < w.heap.size) g (k * 5) x := by
    rcases hw0 with ⟨_, e0⟩ | ⟨g, cp, e, _, _, _, _, h6⟩
    ·rw [e0] at hkx; cases hkx
    ·injection e with e1 _ _; exact ⟨g, e1, h6 k x hkx⟩
   obtain ⟨nm, a, ps, kd, body, ap, kp, ab, kb, rfl, c0, c1, c2, c3, c4, hp1, hs1⟩ := fuAt_cells hin
   have hki : (k : Int) < (xs.length : Int) := by omega
   have hkii : (0 : Int) <= (k : Int) /\ (k : Int) < (xs.length : Int) := by omega
   have hw : IntKind.i64.wrap ((k : Int) + 1) = (k : Int) + 1 := IntWalk.i64_in _ (by omega)
   have hmem := List.mem_of_getElem? hkx
   have HTK : Hid ((xs.take (k + 1)).map foldF = (xs.take k).map foldF ++ [foldF ⟨nm, a, ps, kd, body⟩]) := zz (by rw [List.take_add_one, hkx, List.map_append]; rfl)
   obtain ⟨wq, hwq⟩ : ∃ W, W = wr.alloc (.cells #[.string (mkT nm), .int .i64 (a : Nat), .slice ap ps.length kp, .int .i64 (kd : Nat), .slice ab body.len kb] 51) := ⟨_, rfl⟩
   have HWQ := zz hwq
   have hbq : Below wr.heap.size wr wq := by rw [hwq]; exact fresh_al wr _ _
   have HBQ := zz (HBL.out.trans (hbq.mono HBL.out.size))
   have HLO := zz (World.ownsRow.lt HOW.out)
   have HBQ1 := zz hbq
   have hkq : Keeps (fun k => wr.heap.size <= k) wr wq := Keeps.of_below (S := fun k => wr.heap.size <= k) HBQ1.out (fun _ _ e => e)
   have hnq : ∀ b, b < w.heap.size -> ¬ wr.heap.size <= b := fun b e e2 => by have := HBL.out.size; omega
   have HE := zz (HA.out _ hmem (fun b => b < w.heap.size) wq _ (fun b hb => Nat.lt_of_lt_of_le hb HBQ.out.size) ⟨nm, a, ps, kd, body, ap, kp, ab, kb, rfl, rfl, hp1.keeps hkq hnq, stsF_keeps hs1 hkq hnq⟩)
   unfold fuCells at HE
   clear hkq hnq
   clear hkx hmem hin hw0 hwq hbq hp1 hs1
   go_wp2_with fail
   rw [<- HWQ.out]
   refine HE.out.mono ?_
   rintro e w2 ⟨u', rfl, hst, hb2⟩
   obtain ⟨nm', a', ps', kd', body', ap', kp', ab', kb', hdec, rfl, hv1', hv2'⟩ := hst
   have HB2 : Hid (Below w.heap.size w w2) := zz (HBQ.out.trans (hb2.mono HBQ.out.size))
   have HK2 : Hid (Keeps (fun b => wr.heap.size <= b) wr w2) := zz (Keeps.of_below (S := fun k => wr.heap.size <= k) (HBQ1.out.trans (hb2.mono HBQ1.out.size)) (fun _ _ e => e))
   have HSQ := zz HBQ1.out.size
   have HV2 := zz (And.intro hv1' hv2')
   have HD2 := zz hdec
   obtain ⟨w2a, hw2a⟩ : ∃ W, W = w2.alloc (.cells #[.string (mkT nm'), .int .i64 (a' : Nat), .slice ap' ps'.length kp', .int .i64 (kd' : Nat), .slice ab' body'.len kb'] 51) := ⟨_, rfl⟩
   have HW2 := zz hw2a
   have hba : Below w2.heap.size w2 w2a := by rw [hw2a]; exact fresh_al w2 _ _
   have HBA := zz hba
   have HB2a := zz (HB2.out.trans (hba.mono HB2.out.size))
   have HSZ : Hid (w.heap.size <= w2a.heap.size) := zz HB2a.out.size
   have HKA : Hid (Keeps (fun b => wr.heap.size <= b) wr w2a) := zz (HK2.out.trans (Keeps.of_below (S := fun k => wr.heap.size <= k) hba (fun b _ e => Nat.le_trans HK2.out.size e)))
   have HOW2 : Hid (w2a.ownsRow w.heap.size 51 5 (.slice ao1 k cap1) k vals) := zz (HKA.out.row HOW.out (fun b e e2 => by have := (HLO.out b e).2; have h9 : wr.heap.size <= b := e2; omega))
   clear hb2 hv1' hv2' hdec hba hw2a
   unfold fuCells
   go_wp2_with (at_builtin; rw [<- HW2.out]; refine wpList_appendFus rfl _ _ rfl w2a w.heap.size _ k vals [.string (mkT nm'), .int .i64 (a' : Nat), .slice ap' ps'.length kp', .int .i64 (kd' : Nat), .slice ab' body'.len kb'] rfl (by intro u hu; simp at hu; rcases hu with rfl | rfl | rfl | rfl | rfl <;> rfl) HOW2.out rfl _ rfl (by rw [HW2.out]; simp) (by omega) HSZ.out ?_; intro ao' cap' w3 hO3 hK3 hN3)
   have HO3 := zz hO3
   have HK3 := zz hK3
   have HN3 := zz hN3
   clear hO3 hK3 hN3
   go_wp2_with fail
   go_roundw
   case rel =>
    have hz2 := HBA.out.size
    have hbl := HBL.out.size
    have hzq := HSQ.out
    have hz2w := HK2.out.size
    have h1 : RowF w2a (fun b => w.heap.size <= b /\ (Value.slice ao1 k cap1).ownBlock ≠ some b /\ b < wr.heap.size) vals ((xs.take k).map foldF) := RowF.keeps HKA.out (fun b e e2 => by have h9 : wr.heap.size <= b := e2; omega) _ _ (RowF.mono (fun b hb e => ⟨e.1, e.2, hb⟩) _ _ HVL.out)
    have hm := HV2.out
    have hG : ∀ b, b < w2a.heap.size -> wq.heap.size <= b -> wq.heap.size <= b /\ b < w2a.heap.size := fun b h1 h2 => ⟨h2, h1⟩
    have hKB : ∀ b, wq.heap.size <= b /\ b < w2a.heap.size -> ¬ (Value.slice ao1 k cap1).ownBlock = some b := fun b e e2 => by have := (HLO.out b e2).2; have := e.1; omega
    have hFR : ∀ b, b < w3.heap.size -> wq.heap.size <= b /\ b < w2a.heap.size -> w.heap.size <= b /\ (Value.slice ao' (k + 1) cap').ownBlock ≠ some b := fun b _ e => ⟨by have := e.1; omega, fun e4 => by
     rcases HN3.out b e4 with h | h
     ·have := (HLO.out b h).2; have := e.1; omega
     ·have := e.2; omega⟩
    have hkA : Keeps (fun k => w2.heap.size <= k) w2 w2a := Keeps.of_below (S := fun k => w2.heap.size <= k) HBA.out (fun _ _ e => e)
    have hg3 := stsF_on (k := wq.heap.size) hm.2 hkA (fun b _ h2 e => by have h9 : w2.heap.size <= b := e; omega) (Nat.le_refl _)
    have hg4 := stsF_monoB hFR (stsF_keeps (stsF_monoB hG hg3) HK3.out hKB)
    have hp3 := paRow_on (k := wq.heap.size) hm.1 hkA (fun b _ h2 e => by have h9 : w2.heap.size <= b := e; omega) (Nat.le_refl _)
    have hp4 := paRow_mono hFR ((paRow_mono hG hp3).keeps HK3.out hKB)
    refine ⟨k + 1, _, by omega, by go_num, HO3.out, ?_, ?_, fun e => absurd e (by omega)⟩
    ·rw [HTK.out, HD2.out]
     refine RowF.snoc ?_ _ _ ?_
     ·exact ⟨_, _, rfl, hp4, hg4⟩
     ·exact RowF.mono (fun b _ e => ⟨e.1, fun e4 => by
       rcases HN3.out b e4 with h | h
       ·exact e.2.1 h
       ·omega⟩) _ _ (RowF.keeps HK3.out (fun b e e2 => e.2.1 e2) _ _ h1)
    ·exact HB2a.out.trans (HK3.out.below HSZ.out (fun b _ e => by have := (HLO.out b e).1; omega))
   case measure => simp [intOf]; omega
  ·have hki : ¬ (k : Int) < (xs.length : Int) := by omega
   have hkk : k = xs.length := by omega
   subst hkk
   go_wp2_with fail
   go_ret
   have hv := HVL.out
   rw [List.take_of_length_le (Nat.le_refl _)] at hv
   refine ⟨_, rfl, fuRow_own (vs := vals) (by rw [List.length_map]; exact HOW.out) (RowF.mono (fun b _ e => e.1) _ _ hv) (fun e => H0.out (by rw [List.length_map] at e; exact e)), HBL.out⟩
structure FoldOk (src : Src) : Prop where
 gl : src.globals.length <= 1000000
 fl : src.funcs.length <= 1000000
 fs : ∀ g ∈ src.funcs, g.params.length <= 1000000 /\ StsOk g.body /\ szSs g.body <= 1000000
theorem glRow_len {F : Nat -> Prop} {v : Value} {l : List Gl} (h : GlRow w F v l) : ∃ o c, v = .slice o l.length c := by
 rcases h with ⟨e, e0⟩ | ⟨g, cap, e, _⟩
 ·exact ⟨none, 0, by rw [e, e0]; rfl⟩
 ·exact ⟨_, _, e⟩
theorem glRow_keeps {F S : Nat -> Prop} {v : Value} {l : List Gl} (h : GlRow w F v l) (hk : Keeps S w w') (hF : ∀ b, F b -> ¬ S b) : GlRow w' F v l := by
 rcases h with h | ⟨g, cap, h1, h2, h3, h4, h5, h6⟩
 ·exact Or.inl h
 ·exact Or.inr ⟨g, cap, h1, h2, h3, h4, h5, fun i p hi => ⟨hk.cell_of (h6 i p hi).1 (hF g h4), hk.cell_of (h6 i p hi).2 (hF g h4)⟩⟩
theorem glRow_mono {F G : Nat -> Prop} (hF : ∀ b, b < w.heap.size -> F b -> G b) {v : Value} {l : List Gl} (h : GlRow w F v l) : GlRow w G v l := by
 rcases h with h | ⟨g, cap, h1, h2, h3, h4, h5, h6⟩
 ·exact Or.inl h
 ·obtain ⟨p, hp⟩ : ∃ p, l[0]? = some p := ⟨_, List.getElem?_eq_getElem h5⟩
  exact Or.inr ⟨g, cap, h1, h2, h3, hF g (block_lt_of_cell (h6 0 p hp).1) h4, h5, h6⟩
theorem glRow_on {B k : Nat} {S : Nat -> Prop} {v : Value} {x : List Gl} (h : GlRow w (fun b => B <= b) v x) (hk : Keeps S w w') (hS : ∀ b, B <= b -> b < w.heap.size -> ¬ S b) (hB : k <= B) : GlRow w' (fun b => k <= b) v x :=
 glRow_mono (fun _ _ e => Nat.le_trans hB e.1) (glRow_keeps (glRow_mono (G := fun b => B <= b /\ b < w.heap.size) (fun _ h1 h2 => ⟨h2, h1⟩) h) hk (fun b e => hS b e.1 e.2))
theorem fuRow_on {B k : Nat} {S : Nat -> Prop} {v : Value} {x : List Fu} (h : FuRow w (fun b => B <= b) v x) (hk : Keeps S w w') (hS : ∀ b, B <= b -> b < w.heap.size -> ¬ S b) (hB : k <= B) : FuRow w' (fun b => k <= b) v x :=
 fuRow_mono (fun _ _ e => Nat.le_trans hB e.1) (fuRow_keeps (fuRow_mono (G := fun b => B <= b /\ b < w.heap.size) (fun _ h1 h2 => ⟨h2, h1⟩) h) hk (fun b e => hS b e.1 e.2))
theorem fold_any {src : Src} (hok : FoldOk src) {F : Nat -> Prop} {ga fa : Option Addr} {gc fc : Nat} (w : World) (hF : ∀ b, F b -> b < w.heap.size) (hg : GlRow w F (.slice ga src.globals.length gc) src.globals) (hf : FuRow w F (.slice fa src.funcs.length fc) src.funcs) :
  Calls Tryz.prog 30 #[.agg #[.slice ga src.globals.length gc, .slice fa src.funcs.length fc]] w fun e w' => ∃ ga' gc' fa' fc', e = .returned (.agg #[.slice ga' src.globals.length gc', .slice fa' src.funcs.length fc']) /\ GlRow w' (fun b => w.heap.size <= b) (.slice ga' src.globals.length gc') src.globals /\ FuRow w' (fun b => w.heap.size <= b) (.slice fa' src.funcs.length fc') (src.funcs.map foldF) /\ Below w.heap.size w w' := by
 obtain ⟨w1, hw1⟩ : ∃ W, W = (w.alloc (.cells #[.slice ga src.globals.length gc, .slice fa src.funcs.length fc] 26)).alloc (.cells #[.slice none 0 0, .slice none 0 0] 26) := ⟨_, rfl⟩
 have HW1 := zz hw1
 have hB1 : Below w.heap.size w w1 := by rw [hw1]; exact two_new w _ _ _ _
 have hz1 : w1.heap.size = w.heap.size + 2 := by rw [hw1]; simp
 have hs1 : Blk w1 w.heap.size [.slice ga src.globals.length gc, .slice fa src.funcs.length fc] := by
  rw [hw1]; exact (Blk.new w _ _).fresh (fresh_al _ _ _)
 have hr1 : Blk w1 (w.heap.size + 1) [.slice none 0 0, .slice none 0 0] := by
  rw [hw1]; exact Blk.new' _ _ _ (by simp)
 have hn : ∀ b, F b -> ¬ w.heap.size <= b := fun b e e2 => by have := hF b e; omega
 have HV : Hid (∀ W, Below w.heap.size w W -> GlRow W F (.slice ga src.globals.length gc) src.globals /\ FuRow W F (.slice fa src.funcs.length fc) src.funcs) := zz fun W hb => by
  have hk : Keeps (fun k => w.heap.size <= k) w W := Keeps.of_below (S := fun k => w.heap.size <= k) hb (fun _ _ e => e)
  exact ⟨glRow_keeps hg hk hn, fuRow_keeps hf hk hn⟩
 have HF := zz hF
 have HFN : Hid (∀ g ∈ src.funcs, FuFn g) := zz fun g hg => fuFn_any (hok.fs g hg).1 (stmtsC_all g.body (hok.fs g hg).2.1 (hok.fs g hg).2.2)
 have HFL := zz hok.fl
 have HB1 := zz hB1
 have HZ1 := zz hz1
 have SB1 := zz hs1
 have RB1 := zz hr1
 have hbd : Below w1.heap.size w1 w1.drew := Below.drew (Below.refl _ w1)
 have HC := zz (cloneG_any hok.gl w1.drew (HV.out _ (hB1.trans (hbd.mono hB1.size))).1)
 have HBD := zz hbd
 have i0 := hs1.at_ 0 _ rfl
 have i1 := hs1.at_ 1 _ rfl
 clear hg hf hok hw1 hB1 hz1 hs1 hr1 hn hF hbd
 go_enter Tryz.func30, Tryz.ntmps30
 go_upto_region 1 with fail
 rw [<- HW1.out]
 refine wp_region_held_drew (S := (fun W' : World => W'.cell? ⟨w.heap.size, 0, none⟩ = some (.slice ga src.globals.length gc) /\ W'.cell? ⟨w.heap.size, 1, none⟩ = some (.slice fa src.funcs.length fc))) (by kernel_rfl) ⟨by simp only [World.cell?_drew]; assumption, by simp only [World.cell?_drew]; assumption⟩ (fun hHeld => ?_)
 refine tk 0 3 (.pointer (some ⟨w.heap.size, 0, none⟩)) rfl (.inl ⟨by rfl, ?_⟩) hHeld ?_
 ·intro W9 hSW; (try dsimp only at hSW); go_simp
 try simp only [Act.put, List.setIfInBounds_toArray, List.set_cons_zero, List.set_cons_succ]
 refine tk 1 4 (.slice ga src.globals.length gc) rfl (.inl ⟨by rfl, ?_⟩) hHeld ?_
 ·intro W9 hSW; (try dsimp only at hSW); go_simp
 try simp only [Act.put, List.setIfInBounds_toArray, List.set_cons_zero, List.set_cons_succ]
 refine tk 3 6 (.pointer (some ⟨w.heap.size, 1, none⟩)) rfl (.inl ⟨by rfl, ?_⟩) hHeld ?_
 ·intro W9 hSW; (try dsimp only at hSW); go_simp
 try simp only [Act.put, List.setIfInBounds_toArray, List.set_cons_zero, List.set_cons_succ]
 refine tk 4 7 (.slice fa src.funcs.length fc) rfl (.inl ⟨by rfl, ?_⟩) hHeld ?_
 ·intro W9 hSW; (try dsimp only at hSW); go_simp
 try simp only [Act.put, List.setIfInBounds_toArray, List.set_cons_zero, List.set_cons_succ]
 refine wpAnyH_ready (rs := [2]) (by kernel_rfl) (by simp) ?_
 refine AllReadyH.cons (o := { dst := some 5, op := _, type := _, pos := _, after := _, guard := _ }) rfl (fun K hK => ?_) AllReadyH.nil
 go_simp
 go_at_call 71
 refine HC.out.mono ?_
 rintro e w2 ⟨v1, rfl, hv1, hb2⟩
 obtain ⟨g1, c1, rfl⟩ := glRow_len hv1
 have HB2 : Hid (Below w1.heap.size w1 w2) := zz (HBD.out.trans (hb2.mono HBD.out.size))
 have SB2 := zz (SB1.out.fresh HB2.out)
 have k0 := SB2.out.at_ 0 _ rfl
 have k1 := SB2.out.at_ 1 _ rfl
 have HV1 : Hid (GlRow w2 (fun b => w1.heap.size <= b) (.slice g1 src.globals.length c1) src.globals) := zz hv1
 have hBw2 := HB1.out.trans (HB2.out.mono HB1.out.size)
 have HE := zz (eachFus_any HFN.out HFL.out w2 _ (HV.out _ hBw2).2 (fun b hb => Nat.lt_of_lt_of_le (HF.out b hb) hBw2.size))
 clear hv1 hb2 hBw2
 refine hK.out _ _ ⟨k0, k1⟩ (fun hHeld => ?_)
 clear hK K
 refine wpAnyH_ready (rs := [5]) (by kernel_rfl) (by simp) ?_
 refine AllReadyH.cons (o := { dst := some 8, op := _, type := _, pos := _, after := _, guard := _ }) rfl (fun K hK => ?_) AllReadyH.nil
 go_simp
 go_at_call 72
 refine HE.out.mono ?_
 rintro e w3 ⟨v2, rfl, hv2, hb3⟩
 obtain ⟨f1, d1, hf1⟩ := fuRow_len hv2
 rw [List.length_map] at hf1
 subst hf1
 have HB3 : Hid (Below w1.heap.size w1 w3) := zz (HB2.out.trans (hb3.mono HB2.out.size))
 have SB3 := zz (SB1.out.fresh HB3.out)
 have RB3 := zz (RB1.out.fresh HB3.out)
 have k3 := SB3.out.at_ 0 _ rfl
 have k4 := SB3.out.at_ 1 _ rfl
 have r0 := RB3.out.at_ 0 _ rfl
 have r1 := RB3.out.at_ 1 _ rfl
 have y0 := RB3.out.free 0
 have y1 := RB3.out.free 1
 have HV1b : Hid (GlRow w3 (fun b => w1.heap.size <= b) (.slice g1 src.globals.length c1) src.globals) := zz (glRow_on HV1.out (Keeps.of_below (S := fun k => w2.heap.size <= k) hb3 (fun _ _ e => e)) (fun b _ h2 e => by have h9 : w2.heap.size <= b := e; omega) (Nat.le_refl _))
 have HV2 : Hid (FuRow w3 (fun b => w1.heap.size <= b) (.slice f1 src.funcs.length d1) (src.funcs.map foldF)) := zz (fuRow_mono (fun b _ e => Nat.le_trans HB2.out.size e) hv2)
 clear hv2 hb3
 refine hK.out _ _ ⟨k3, k4⟩ (fun hHeld => ?_)
 clear hK K
 refine tk 6 9 (.agg #[.slice g1 src.globals.length c1, .slice f1 src.funcs.length d1]) rfl (.inl ⟨by rfl, ?_⟩) hHeld ?_
 ·intro W9 hSW; (try dsimp only at hSW); go_simp
 try simp only [Act.put, List.setIfInBounds_toArray, List.set_cons_zero, List.set_cons_succ]
 have hks : Keeps (fun b => b = w.heap.size + 1) w3 ((w3.setCell ⟨w.heap.size + 1, 0, none⟩ (.slice g1 src.globals.length c1)).setCell ⟨w.heap.size + 1, 1, none⟩ (.slice f1 src.funcs.length d1)) := kown2
 have s0 := hks.cell_of k3 (fun e => by have h9 : w.heap.size = w.heap.size + 1 := e; omega)
 have s1 := hks.cell_of k4 (fun e => by have h9 : w.heap.size = w.heap.size + 1 := e; omega)
 refine wpAnyH_ready (rs := [7]) (by kernel_rfl) (by simp) ?_
 refine AllReadyH.cons (o := { dst := none, op := _, type := _, pos := _, after := _, guard := _ }) rfl (fun K hK => ?_) AllReadyH.nil
 go_simp
 refine hK.out _ _ ⟨s0, s1⟩ (fun hHeld => ?_)
 clear hK K
 refine wpAnyH_done (by kernel_rfl) ?_ _
 have HKS := zz hks
 clear hks
 go_wp2_with fail
 refine bodyPost_ret (v := .agg #[.slice g1 src.globals.length c1, .slice f1 src.funcs.length d1]) (by simp [results, Tryz.results30, go_sem, r0, r1]) rfl ?_
 have hks := HKS.out
 have hz1 := HZ1.out
 have hz3 := HB3.out.size
 exact ⟨g1, c1, f1, d1, rfl, glRow_on HV1b.out hks (fun b h1 _ e => by have h9 : b = w.heap.size + 1 := e; omega) (by omega), fuRow_on HV2.out hks (fun b h1 _ e => by have h9 : b = w.heap.size + 1 := e; omega) (by omega), HB1.out.trans ((HB3.out.mono HB1.out.size).trans (hks.below (by omega) (fun b _ e => by have h9 : b = w.heap.size + 1 := e; omega)))⟩
structure LawEnv (w : World) : Prop where
 tree : TreeEnv w
 pow : PowT w
 pb : 4 < w.heap.size
theorem LawEnv.penv (h : LawEnv w) : PEnv w.heap.size w := ⟨h.tree.signs, h.tree.b1, h.pow, h.pb, h.tree.kinds, h.tree.b2⟩
theorem LawEnv.below (h : LawEnv w) (hb : Below w.heap.size w w') : LawEnv w' := by
 have hl := h.tree.lex.below hb (Nat.le_refl _)
 have hp := h.penv.below hb
 have hz := hb.size
 exact ⟨⟨⟨hl.tabs, hl.errR, hl.sgs, by have := hl.b1; omega, by have := hl.b2; omega, by have := hl.b3; omega, by have := hl.b4; omega⟩, hp.signs, hp.kinds, by have := hp.b1; omega, by have := hp.b3; omega⟩, hp.pow, by have := hp.b2; omega⟩
theorem err_isNone (w : World) : (binOp BinOp.eql 35 .nilIface .nilIface).run Tryz.prog w = .ok (.bool true) w := by kernel_rfl
theorem ownsRow_form {w : World} {base : Nat} {e : TypeId} {size : Nat} {v : Value} {n : Nat} {xs : List Value} (h : w.ownsRow base e size v n xs) : ∃ ao cap, v = .slice ao n cap := by
 rcases h.2 with ⟨e1, e2⟩ | ⟨g, cap, cur, e1, _⟩
 ·exact ⟨none, 0, by rw [e1, e2]⟩
 ·exact ⟨_, _, e1⟩
theorem SrcO.toG {B : Nat} {G : Nat -> Prop} {src : Src} {gv fv : Value} (h : SrcO w B src gv fv) (hG : ∀ b, b < w.heap.size -> B <= b -> G b) : SrcF w G src gv fv := by
 obtain ⟨fvals, h2, h3, h4, h5, h6, h7⟩ := h
 refine ⟨?_, ?_⟩
 ·by_cases hz : src.globals = []
  ·exact Or.inl ⟨h5 hz, hz⟩
  ·have hpos : 0 < src.globals.length := List.length_pos_iff.2 hz
   rcases h2.2 with ⟨_, e⟩ | ⟨g, cap, cur, e1, e2, e5, e3, e4, _⟩
   ·omega
   ·refine Or.inr ⟨g, cap, e1, e3, e4, hG g (Array.getElem?_eq_some_iff.1 e5).1 e2, hpos, fun i p hi => ?_⟩
    obtain ⟨a1, a2⟩ := glCells_at src.globals i p hi
    have hin := (List.getElem?_eq_some_iff.1 hi).1
    subst e1
    rw [World.ownsRow.cellAt h2 (i * 2) (by omega), World.ownsRow.cellAt h2 (i * 2 + 1) (by omega)]
    exact ⟨a1, a2⟩
 ·by_cases hz : src.funcs = []
  ·exact Or.inl ⟨h6 hz, hz⟩
  ·have hpos : 0 < src.funcs.length := List.length_pos_iff.2 hz
   rcases h3.2 with ⟨_, e⟩ | ⟨g, cap, cur, e1, e2, e5, e3, e4, _⟩
   ·omega
   ·refine Or.inr ⟨g, cap, e1, e3, e4, hG g (Array.getElem?_eq_some_iff.1 e5).1 e2, hpos, fun i p hi => ?_⟩
    subst e1
    have h8 := RowF.lies src.funcs fvals 0 (g := g) (fun j v hj => by
     rw [show 0 * 5 + j = j by omega, World.ownsRow.cellAt h3 j (by have := (List.getElem?_eq_some_iff.1 hj).1; have := h3.1; omega)]
     exact hj) (RowF.mono (fun b hb e => hG b hb e.1) _ _ h4) i p hi
    rw [Nat.zero_add] at h8
    exact h8
theorem decS_ok {s y : St} (h : StOk s) (hy : decS s = some y) : StOk y := by
 obtain ⟨c, a, nm, x, v, t, e, cs⟩ := s
 obtain ⟨h1, h2, h3, h4, h5⟩ := h
 rw [decS_eq] at hy
 split at hy
 ·obtain rfl := Option.some.inj hy
  exact ⟨h1, h2, h3, h4, h5⟩
 ·split at hy
  ·split at hy
   ·obtain rfl := Option.some.inj hy
    exact ⟨h1, h2, h3, h4, h5⟩
   ·cases hy
  ·split at hy
   ·split at hy
    ·obtain rfl := Option.some.inj hy
     exact ⟨h1, h2, h3, trivial, h5⟩
    ·cases hy
   ·split at hy
    ·split at hy
     ·obtain rfl := Option.some.inj hy
      exact ⟨h1, h2, trivial, h4, h5⟩
     ·cases hy
    ·obtain rfl := Option.some.inj hy
     exact ⟨h1, h2, h3, h4, h5⟩
mutual
theorem foldS_ok : ∀ s : St, StOk s -> ∀ y, foldS s = some y -> StOk y
 | .mk c a nm x v t e cs, h, y, hy => by
  obtain ⟨h1, h2, h3, h4, h5⟩ := h
  rw [foldS] at hy
  have hk : StOk (.mk c a nm (foldE x) (foldE v) (foldSs t) (foldSs e) (foldCs cs)) := ⟨foldE_ok x h1, foldE_ok v h2, foldSs_ok t h3, foldSs_ok e h4, foldCs_ok cs h5⟩
  exact decS_ok hk hy
theorem foldSs_ok : ∀ ss : Sts, StsOk ss -> StsOk (foldSs ss)
 | .nil, _ => by rw [foldSs]; trivial
 | .cons s ss, h => by
  obtain ⟨h1, h2⟩ := h
  have hs := foldS_ok s h1
  have hss := foldSs_ok ss h2
  rw [foldSs]
  split
  ·rename_i y hy
   exact ⟨hs y hy, hss⟩
  ·exact hss
theorem foldC_ok : ∀ c : Ca, CaOk c -> CaOk (foldC c)
 | .mk c a nm x v b, h => by
  obtain ⟨h1, h2, h3⟩ := h
  rw [foldC]; exact ⟨foldE_ok x h1, foldE_ok v h2, foldSs_ok b h3⟩
theorem foldCs_ok : ∀ cs : Cas, CasOk cs -> CasOk (foldCs cs)
 | .nil, _ => by rw [foldCs]; trivial
 | .cons c cs, h => by
  obtain ⟨h1, h2⟩ := h
  rw [foldCs]; exact ⟨foldC_ok c h1, foldCs_ok cs h2⟩
end
theorem headX_ok {ss : Sts} (h : StsOk ss) : ExOk (headX ss) := by
 cases ss with
 | nil => trivial
 | cons s xs => obtain ⟨c, a, nm, x, v, t, e, cs⟩ := s; exact h.1.2.1
theorem fuRow_head {F : Nat -> Prop} {fa : Option Addr} {fc : Nat} {f : Fu} (h : FuRow w F (.slice fa 1 fc) [f]) (hl : f.body.len = 1) : ∃ g bo bc q, fa = some ⟨g, 0, none⟩ /\ 1 <= fc /\ w.cell? ⟨g, 4, none⟩ = some (.slice (some ⟨bo, 0, none⟩) 1 bc) /\ 1 <= bc /\ w.cell? ⟨bo, 4, none⟩ = some (.pointer q) /\ ExIn w F (.pointer q) (headX f.body) := by
 rcases h with ⟨_, e⟩ | ⟨g, cap, e, h1, h2, h3, h4, h5⟩
 ·cases e
 injection e with e1 _ e3
 subst e1
 subst e3
 obtain ⟨pv, bv, _, _, _, _, c4, _, hst⟩ := h5 0 f rfl
 cases hb : f.body with
 | nil => rw [hb] at hl; exact absurd hl (by decide)
 | cons s xs =>
  rw [hb] at hst hl
  rcases hst.1 with ⟨_, e0⟩ | ⟨bo, bc, e, k1, _, _, _⟩
  ·rw [e0] at hl; exact absurd hl (by decide)
  rw [hl] at e k1
  subst e
  have hin := hst.2 bo 1 bc rfl
  obtain ⟨c, a, nm, dst, val, thn, els, cs⟩ := s
  obtain ⟨tv, vv, nv, ev, cv, _, _, _, _, b4, _, _, _, _, hx, _⟩ := hin.1
  obtain ⟨q, rfl⟩ := exIn_ptr hx
  simp only [Nat.zero_mul, Nat.zero_add] at b4 c4
  exact ⟨g, bo, bc, q, rfl, h1, c4, k1, b4, hx⟩
theorem folded_parse {s : ByteArray} {e : Ending} (hs : s.size = 44) (hl : s.data.toList = foldedL) (h : ParseSays w w' s e) : ∃ f gv fv, e = .returned (.tuple #[.agg #[gv, fv], .nilIface]) /\ SrcO w' w.heap.size ⟨[], [f]⟩ gv fv /\ StsOk f.body /\ f.params = [] /\ szSs f.body <= 1000 /\ (foldSs f.body).len = 1 /\ exV 1 (headX (foldSs f.body)) = [55] := by
 obtain ⟨ts0, s0, m0, h1, _, _⟩ := folded_has
 unfold ParseSays at h
 rw [if_neg (by omega), hl, hs] at h
 rw [h1] at h
 simp only at h
 obtain ⟨r, hev, hr⟩ := h
 obtain ⟨src, m, f, rfl, a1, a2, a3, a4, a5, a6⟩ := folded_says h1 hev
 obtain ⟨gv, fv, rfl, hso⟩ := hr
 have hok := (text_len h1 hev).1
 obtain ⟨gs, fs⟩ := src
 simp only at a1 a2
 subst a1
 subst a2
 exact ⟨f, gv, fv, rfl, hso, hok f (List.mem_singleton.2 rfl), a3, a4, a5, a6⟩
theorem folded_any (w : World) (hE : LawEnv w) : Calls Tryz.prog 32 #[] w fun e w' => e = .returned (.bool true) /\ Below w.heap.size w w' := by
 have HE := zz hE
 clear hE
 go_enter Tryz.func32, Tryz.ntmps32
 go_wp2_with fail
 refine (treeParse_any _ _ HE.out.tree).mono ?_
 rintro e w1 ⟨hsay, hb1⟩
 obtain ⟨f, gv, fv, rfl, hso, hok, hp, hz, hl1, hx7⟩ := folded_parse (by kernel_rfl) (by kernel_rfl) hsay
 clear hsay
 have hg0 : gv = .slice none 0 0 := hso.choose_spec.2.2.2.1 rfl
 subst hg0
 obtain ⟨fa, fc, rfl⟩ := ownsRow_form hso.choose_spec.2.1
 have hso2 : SrcF (w1.alloc (.cells #[.slice none 0 0, .slice fa 1 fc] 26)) (fun b => b < (w1.alloc (.cells #[.slice none 0 0, .slice fa 1 fc] 26)).heap.size) ⟨[], [f]⟩ (.slice none 0 0) (.slice fa 1 fc) := (hso.keeps (S := fun _ => False) ((Keeps.refl _ _).alloc _) (fun _ _ e => e)).toG (fun b h1 _ => h1)
 have hbx := hb1.trans ((fresh_alloc w1 #[.slice none 0 0, .slice fa 1 fc] 26).mono hb1.size)
 have HF : Hid (Calls Tryz.prog 30 #[.agg #[.slice none 0 0, .slice fa 1 fc]] (w1.alloc (.cells #[.slice none 0 0, .slice fa 1 fc] 26)) _) := zz (fold_any (src := ⟨[], [f]⟩) ⟨Nat.zero_le _, (by show 1 <= 1000000; decide), fun g hg => by rw [List.mem_singleton.1 hg]; exact ⟨by rw [hp]; decide, hok, by omega⟩⟩ _ (fun _ h => h) hso2.1 hso2.2)
 have HBX := zz hbx
 have HOK := zz (headX_ok (foldSs_ok _ hok))
 have HL1 := zz hl1
 have HX7 := zz hx7
 clear hso hso2 hbx hb1 hok hp hz hl1 hx7
 have hEN := err_isNone
 go_wp2_with fail
 refine HF.out.mono ?_
 rintro e w2 ⟨ga', gc', fa', fc', rfl, _, hfu, hb2⟩
 have hb3 := HBX.out.trans (hb2.mono HBX.out.size)
 have hfu2 : FuRow (w2.alloc (.cells #[.slice ga' 0 gc', .slice fa' 1 fc'] 26)) (fun b => b < (w2.alloc (.cells #[.slice ga' 0 gc', .slice fa' 1 fc'] 26)).heap.size) (.slice fa' 1 fc') [foldF f] := fuRow_mono (fun b h1 _ => h1) (fuRow_keeps (S := fun _ => False) hfu ((Keeps.refl _ _).alloc _) (fun _ _ e => e))
 obtain ⟨g, bo, bc, q, rfl, k1, c4, k2, b4, hx⟩ := fuRow_head hfu2 HL1.out
 have hb4 := hb3.trans ((fresh_alloc w2 #[.slice ga' 0 gc', .slice (some ⟨g, 0, none⟩) 1 fc'] 26).mono hb3.size)
 have HT := zz (text_ex (headX (foldSs f.body)) HOK.out _ _ (Nat.le_refl _) (HE.out.below hb4).penv hx (by rw [HX7.out]; decide))
 rw [HX7.out] at HT
 unfold Tells at HT
 have HB4 := zz hb4
 clear hfu hfu2 hx hb2 hb3 hb4
 go_wp2_with fail
 refine HT.out.mono ?_
 rintro e w4 ⟨rfl, hb5⟩
 have HB5 := zz (HB4.out.trans (hb5.mono HB4.out.size))
 clear hb5
 go_wp2_with fail
 go_ret
 have hq : ((mkT [55]).toList == [55]) = true := by rw [ByteArray.toList_eq]; exact beq_self_eq_true _
 refine ⟨?_, HB5.out⟩
 first
  | rfl
  | (show Ending.returned (.bool ((mkT [55]).toList == [55])) = _; rw [hq])
def opX (op : Nat) (a b : Int) : Ex := .mk 5 0 0 op [] (newN a 0) (newN b 0) .nil
theorem knownE_newN (n : Int) (a : Nat) : knownE (newN n a) = some n := by
 unfold newN
 split
 ·rename_i h
  rw [knownE_mk, if_neg (by decide)]
  show (if (6 : Nat) = 6 /\ (17 : Nat) = 17 /\ (1 : Nat) = 1 /\ 0 < (-n).toNat then some (-((-n).toNat : Int)) else none) = some n
  rw [if_pos ⟨rfl, rfl, rfl, by omega⟩]
  congr 1
  omega
 ·rw [knownE_mk, if_pos rfl]
  congr 1
  omega
theorem bareV_leafN (k a : Nat) : bareV (.mk 1 a k 0 [] .nil .nil .nil) = Lib.itoa (k : Int) := by rw [bareV, if_pos rfl]; rfl
theorem exV_not5 (least : Nat) {c a n op : Nat} {nm : Lx.B} {l r : Ex} {zs : Exs} (h : c ≠ 5) : exV least (.mk c a n op nm l r zs) = bareV (.mk c a n op nm l r zs) := if_neg (fun e => h e.1)
theorem exV_newN (least : Nat) (n : Int) (a : Nat) : exV least (newN n a) = Lib.itoa n := by
 unfold newN
 split
 ·rename_i h
  obtain ⟨u, hu, rfl⟩ : ∃ u : Nat, 1 <= u /\ n = -(u : Int) := ⟨(-n).toNat, by omega, by omega⟩
  have e : (- -(u : Int)).toNat = u := by omega
  rw [e, Lib.itoa_neg u hu, <- Lib.itoa_nonneg u, <- bareV_leafN u a]
  rw [exV_not5 least (by decide), bareV, if_neg (by decide), if_neg (by decide), if_neg (by decide), if_neg (by decide), if_neg (by decide), if_pos rfl]
  rfl
 ·rename_i h
  obtain ⟨u, rfl⟩ : ∃ u : Nat, n = (u : Int) := ⟨n.toNat, by omega⟩
  rw [exV_not5 least (by decide), bareV_leafN]
  rfl
theorem sgV_small {op : Nat} (h1 : 1 <= op) (h2 : op <= 10) : (sgV op).length <= 3 := by
 have hop : op = 1 \/ op = 2 \/ op = 3 \/ op = 4 \/ op = 5 \/ op = 6 \/ op = 7 \/ op = 8 \/ op = 9 \/ op = 10 := by omega
 rcases hop with rfl | rfl | rfl | rfl | rfl | rfl | rfl | rfl | rfl | rfl <;> decide
theorem opX_len {op : Nat} (h1 : 1 <= op) (h2 : op <= 10) {a b : Int} (ha : I64 a) (hb : I64 b) : (exV 1 (opX op a b)).length <= 100 := by
 have l1 := Lib.itoa_length_le a ha.1 ha.2
 have l2 := Lib.itoa_length_le b hb.1 hb.2
 have l3 := sgV_small h1 h2
 have e : bareV (opX op a b) = exV (levV op) (newN a 0) ++ ([32] ++ (sgV op ++ ([32] ++ exV (levV op + 1) (newN b 0)))) := by
  unfold opX
  rw [bareV, if_neg (by decide), if_neg (by decide), if_neg (by decide), if_neg (by decide), if_pos rfl]
  rfl
 have e2 : (bareV (opX op a b)).length <= 50 := by
  rw [e, exV_newN, exV_newN]
  simp only [List.length_append, List.length_cons, List.length_nil]
  omega
 show (if (5 : Nat) = 5 /\ levV op < 1 then [40] ++ (bareV (opX op a b) ++ [41]) else bareV (opX op a b)).length <= 100
 split
 ·simp only [List.length_append, List.length_cons, List.length_nil]; omega
 ·omega
theorem opX_ok {op : Nat} {a b : Int} (ha : I64 a) (hb : I64 b) (ha0 : a ≠ -9223372036854775808) (hb0 : b ≠ -9223372036854775808) : ExOk (opX op a b) := ⟨Nat.zero_le _, newN_ok 0 ha ha0, newN_ok 0 hb hb0, trivial⟩
theorem opX_fold {op : Nat} (h1 : 1 <= op) (h2 : op <= 10) {a b : Int} : foldE (opX op a b) = if wayV (op : Int) b = 0 /\ binV (op : Int) a b ≠ -9223372036854775808 then newN (binV (op : Int) a b) 0 else opX op a b := by
 have hm : makesV (op : Int) = 1 := by unfold makesV; rw [if_pos (by omega)]
 unfold opX
 rw [foldE, foldE_newN, foldE_newN, foldEs]
 show topE (opX op a b) = _
 have e1 : topE (opX op a b) = reckE (opX op a b) := by
  show twoE (opX op a b) = _
  unfold twoE
  show (if op = 30 then _ else if op = 31 then _ else if 1 <= op /\ op <= 16 then reckE (opX op a b) else opX op a b) = _
  rw [if_neg (by omega), if_neg (by omega), if_pos (by omega)]
 have e2 : reckE (opX op a b) = if wayV (op : Int) b = 0 then madeE (opX op a b) (binV (op : Int) a b) else opX op a b := by
  unfold reckE
  have k1 : knownE (opX op a b).l = some a := knownE_newN a 0
  have k2 : knownE (opX op a b).r = some b := knownE_newN b 0
  rw [k1, k2]
  rfl
 have e3 : madeE (opX op a b) (binV (op : Int) a b) = if binV (op : Int) a b = -9223372036854775808 then opX op a b else newN (binV (op : Int) a b) 0 := by
  unfold madeE
  show (if makesV (op : Int) = 2 then _ else numOr (opX op a b) (binV (op : Int) a b)) = _
  rw [hm, if_neg (by decide)]
  rfl
 rw [e1, e2, e3]
 by_cases hw : wayV (op : Int) b = 0
 ·by_cases hn : binV (op : Int) a b = -9223372036854775808
  ·rw [if_pos hw, if_pos hn, if_neg (fun e => e.2 hn)]; rfl
  ·rw [if_pos hw, if_neg hn, if_pos ⟨hw, hn⟩]
 ·rw [if_neg hw, if_neg (fun e => hw e.1)]; rfl
def opS (x : Ex) : Sts := .cons (.mk 5 0 [] .nil x .nil .nil .nil) .nil
theorem opS_fold (x : Ex) : foldSs (opS x) = opS (foldE x) := by
 have h : foldS (.mk 5 0 [] .nil x .nil .nil .nil) = some (.mk 5 0 [] .nil (foldE x) .nil .nil .nil) := by
  rw [foldS, foldE, foldSs, foldCs, decS_eq]
  split
  ·rfl
  ·rw [if_neg (by decide), if_neg (fun e => absurd e.1 (by decide)), if_neg (by decide)]
 unfold opS
 rw [foldSs, h, foldSs]
theorem itoaI_any (n : Int) (h1 : I64 n) (w : World) (h : PowT w) : Calls Tryz.prog 39 #[.int .i64 n] w fun e w' => e = .returned (.string (mkT (Lib.itoa n))) /\ Below w.heap.size w w' := by
 refine (Tryz.strconv_Itoa n h1.1 h1.2 w h).mono ?_
 rintro e w' ⟨rfl, k, os, rfl⟩
 refine ⟨rfl, ⟨rfl, rfl, rfl, by simp [Sort.grow, World.drewN], fun k hk => by simp [Sort.grow, World.drewN, Array.getElem?_append, hk]⟩⟩
theorem numeral_any (n : Int) (h1 : I64 n) (hm : n ≠ -9223372036854775808) (w : World) : GivesX w.heap.size w 36 #[.int .i64 n] (newN n 0) := by
 unfold GivesX
 unfold I64 at h1
 by_cases h0 : n < 0
 ·have hw : IntKind.i64.wrap (-n) = -n := IntWalk.i64_in _ (by omega)
  have hn : ((-n).toNat : Int) = -n := by omega
  have e0 : decide (0 <= n) = false := decide_eq_false (by omega)
  have HN := zz hn
  have HE : Hid (newN n 0 = .mk 6 0 0 17 [] (.mk 1 0 (-n).toNat 0 [] .nil .nil .nil) .nil .nil) := zz (by unfold newN; rw [if_pos h0])
  rw [HE.out]
  clear h1 hm hn h0
  go_enter Tryz.func36, Tryz.ntmps36
  go_wp2_with fail
  go_ret
  obtain ⟨o1, ho1⟩ : ∃ o1 : Obj, o1 = .cells #[.int .i64 1, .int .i64 0, .int .i64 (-n), .string ⟨#[]⟩, .int .i64 0, .pointer none, .pointer none, .slice none 0 0] 64 := ⟨_, rfl⟩
  rw [<- ho1]
  obtain ⟨o2, ho2⟩ : ∃ o2 : Obj, o2 = .cells #[.int .i64 6, .int .i64 0, .int .i64 0, .string ⟨#[]⟩, .int .i64 17, .pointer (some ⟨w.heap.size, 0, none⟩), .pointer none, .slice none 0 0] 64 := ⟨_, rfl⟩
  rw [<- ho2]
  have hz : (w.alloc o1).heap.size = w.heap.size + 1 := by simp
  have k1 : ((w.alloc o1).alloc o2).heap[w.heap.size + 1]? = some o2 := by rw [<- hz]; exact heap_alloc_new _ _
  have k0 : ((w.alloc o1).alloc o2).heap[w.heap.size]? = some o1 := (heap_alloc_old _ _ (by rw [hz]; omega)).trans (heap_alloc_new _ _)
  have hbl : Below w.heap.size w ((w.alloc o1).alloc o2) := (((Keeps.refl (fun _ => False) w).alloc _).alloc _).below (Nat.le_refl _) (fun _ _ e => e.elim)
  obtain ⟨W, hW⟩ : ∃ W, W = (w.alloc o1).alloc o2 := ⟨_, rfl⟩
  rw [<- hW] at k1 k0 hbl ⊢
  rw [ho2] at k1
  rw [ho1, <- HN.out] at k0
  refine ⟨_, rfl, ⟨w.heap.size + 1, .pointer (some ⟨w.heap.size, 0, none⟩), .pointer none, .slice none 0 0, by first | rfl | simp, Nat.le_succ _, by rw [Lib.cell_of_heap k1]; rfl, by rw [Lib.cell_of_heap k1]; rfl, by rw [Lib.cell_of_heap k1]; rfl, by rw [Lib.cell_of_heap k1]; rfl, by rw [Lib.cell_of_heap k1]; rfl, by rw [Lib.cell_of_heap k1]; rfl, by rw [Lib.cell_of_heap k1]; rfl, by rw [Lib.cell_of_heap k1]; rfl, ?_, rfl, Or.inl ⟨rfl, rfl⟩, fun _ _ _ e => by cases e⟩, ?_⟩
  ·exact leaf_block (Nat.le_refl _) k0
  ·exact hbl
 ·have hn : (n.toNat : Int) = n := by omega
  have e0 : decide (0 <= n) = true := decide_eq_true (by omega)
  have HN := zz hn
  have HE : Hid (newN n 0 = .mk 1 0 n.toNat 0 [] .nil .nil .nil) := zz (by unfold newN; rw [if_neg h0])
  rw [HE.out]
  clear h1 hm hn h0
  go_enter Tryz.func36, Tryz.ntmps36
  go_wp2_with fail
  go_ret
  refine ⟨_, rfl, leaf_block (Nat.le_refl _) ?_, fresh_al w _ _⟩
  rw [HN.out]
  exact heap_alloc_new w _
end Go.Proofs.YtnpapppipccdbaaGreatDoor
namespace Go.Proofs.YtnpapppipccdbaaGreatDoor
open Go.RowKit
theorem pick_val (a : Int) (n : Nat) (h0 : 0 < n) (hn : n <= 9223372036854775807) : wrap64 ((IntKind.u64.wrap a).tmod n) = ((IntKind.u64.wrap a % (n : Int)).toNat : Int) /\ (IntKind.u64.wrap a % (n : Int)).toNat < n := by
 have hu : 0 <= IntKind.u64.wrap a := by rw [IntKind.wrap_u64]; omega
 have e1 : (IntKind.u64.wrap a).tmod n = IntKind.u64.wrap a % n := Int.tmod_eq_emod_of_nonneg hu
 have l0 : 0 <= IntKind.u64.wrap a % (n : Int) := Int.emod_nonneg _ (by omega)
 have l1 : IntKind.u64.wrap a % (n : Int) < n := Int.emod_lt_of_pos _ (by omega)
 rw [e1]
 refine ⟨?_, by omega⟩
 rw [IntWalk.wrap64_in _ ⟨by omega, by omega⟩]; omega
theorem pick_any (a : Int) (n : Nat) (w : World) (h0 : 0 < n) (hn : n <= 9223372036854775807) :
  Calls Tryz.prog 35 #[.int .i64 a, .int .i64 n] w fun e w' => ∃ r : Nat, r < n /\ e = .returned (.int .i64 r) /\ w = w' := by
 go_enter Tryz.func35, Tryz.ntmps35
 go_wp2_with fail
 go_ret
 obtain ⟨e, hl⟩ := pick_val a n h0 hn
 exact ⟨_, hl, by rw [<- e]; rfl, rfl⟩
end Go.Proofs.YtnpapppipccdbaaGreatDoor
