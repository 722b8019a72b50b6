/-
  Texts of one proof, in build order: TreeP6 TreeP7 TreeP8 TreeP9 TreePA TreePB TreePC TreePD TreePE TreePF TreePG TreePH TreePI TreePJ
-/
import Derived.Test.YtnpapppipccdbaaGreatDoorU6
import Derived.Deep.RegionHeld
set_option maxRecDepth 100000
set_option maxHeartbeats 12800000
namespace Go.Proofs.YtnpapppipccdbaaGreatDoor
open Go.RowKit Lx Tr
variable {w w' : World}
theorem s8 (n : Nat) : oU (n : Int) = cQ n := by
 unfold oU
 by_cases h : 1 <= (n : Int) /\ (n : Int) <= 19
 ·rw [if_pos h]; rfl
 ·rw [if_neg h]
  by_cases h0 : n = 0
  ·subst h0; rfl
  ·unfold cQ
   rw [List.getD_eq_getElem?_getD, List.getElem?_eq_none]
   ·rfl
   ·have : n9.length = 20 := rfl
    omega
theorem DQ (op : Nat) (w : World) (hS : lB w) : Calls Tryz.prog 234 #[.int .i64 op] w fun e w' => e = .returned (.string (mkT (sgV op))) /\ w = w' := by
 by_cases h1 : op = 30
 ·subst h1
  go_enter Tryz.func234, Tryz.ntmps234
  go_wp2_with fail
  try simp only [Exit.inBlock, Exit.then]
  go_ret
  exact ⟨rfl, rfl⟩
 ·by_cases h2 : op = 31
  ·subst h2
   go_enter Tryz.func234, Tryz.ntmps234
   go_wp2_with fail
   try simp only [Exit.inBlock, Exit.then]
   go_ret
   exact ⟨rfl, rfl⟩
  ·have e1 : ((op : Int) == 30) = false := beq_eq_false_iff_ne.2 (by omega)
   have e2 : ((op : Int) == 31) = false := beq_eq_false_iff_ne.2 (by omega)
   have HC := zz (vG (op : Int) w hS)
   have HE : Hid (mkT (sgV op) = ⟨(oU (op : Int)).toArray⟩) := zz (by rw [s8]; unfold sgV; rw [if_neg h1, if_neg h2]; rfl)
   clear hS h1 h2
   rw [HE.out]
   go_enter Tryz.func234, Tryz.ntmps234
   go_wp2_with fail
   refine HC.out.mono ?_
   rintro e w2 ⟨rfl, rfl⟩
   go_wp2_with fail
   try simp only [Exit.inBlock, Exit.then]
   go_ret
   exact ⟨rfl, rfl⟩
theorem DR (c : Bool) (w : World) : Calls Tryz.prog 233 #[.bool c] w fun e w' => e = .returned (.string (mkT (if c then eY else cW))) /\ w = w' := by
 refine (Tryz.strconv_FormatBool c w).mono ?_
 rintro e w' ⟨rfl, rfl⟩
 cases c <;> exact ⟨rfl, rfl⟩
theorem DS (n : Nat) (h1 : n <= 9223372036854775807) (w : World) (h : PowT w) : Calls Tryz.prog 39 #[.int .i64 (n : Nat)] w fun e w' => e = .returned (.string (mkT (kM n))) /\ Below w.heap.size w w' := by
 refine (Tryz.strconv_Itoa (n : Int) (by omega) (by omega) w h).mono ?_
 rintro e w' ⟨rfl, k, os, rfl⟩
 refine ⟨rfl, ⟨rfl, rfl, rfl, by simp [Sort.grow, World.drewN], fun k hk => by simp [Sort.grow, World.drewN, Array.getElem?_append, hk]⟩⟩
theorem F1 {B b bk : Nat} {n : Nat} (l : List UInt8) (w : World) (h : PC B b l w) (hB : B <= w.heap.size) (hP : PEnv B w) (c0 : w.cell? ⟨bk, 0, none⟩ = some (.int .i64 1)) (c2 : w.cell? ⟨bk, 2, none⟩ = some (.int .i64 (n : Nat))) (hn : n <= 9223372036854775807) (hlen : l.length + (kM n).length <= 100000000) :
  aI B b l (kM n) w 187 #[.pointer (some ⟨b, 0, none⟩), .pointer (some ⟨bk, 0, none⟩)] := by
 unfold aI
 have HC := zz (DS n hn w hP.pow)
 have H := zz h
 have HB := zz hB
 have HL := zz hlen
 clear h hB hP hn hlen
 go_enter Tryz.func187, Tryz.ntmps187
 go_wp2_with fail
 refine HC.out.mono ?_
 rintro e w1 ⟨rfl, hb1⟩
 have HPUT := zz (bZ B b l [mkT (kM n)] w1 (H.out.fresh hb1) (Nat.le_trans HB.out hb1.size) (by have := HL.out; show l.length + (kM n ++ []).length <= _; rw [List.append_nil]; exact this) (by simp))
 have HB1 := zz (hb1.mono HB.out)
 have HO1 : Hid (Others b w w1) := zz (Others.of_new hb1)
 clear hb1
 go_wp2_with fail
 refine HPUT.out.mono ?_
 rintro e w2 ⟨rfl, h2, hb2, ho2⟩
 have h2' : PC B b (l ++ kM n) w2 := by
  have e : l ++ kM n = l ++ bU [mkT (kM n)] := by show _ = l ++ (kM n ++ []); rw [List.append_nil]
  rw [e]; exact h2
 have H2 := zz h2'
 have HB2 := zz (HB1.out.trans hb2)
 have HO2 := zz (HO1.out.trans ho2)
 clear h2 h2' hb2 ho2
 go_wp2_with fail
 try simp only [Exit.inBlock, Exit.then]
 go_end0
 exact ⟨rfl, H2.out, HB2.out, HO2.out⟩
theorem DT {B b bk : Nat} {n : Nat} (l : List UInt8) (w : World) (h : PC B b l w) (hB : B <= w.heap.size) (c0 : w.cell? ⟨bk, 0, none⟩ = some (.int .i64 2)) (c2 : w.cell? ⟨bk, 2, none⟩ = some (.int .i64 (n : Nat))) (hlen : l.length + (if n = 0 then cW else eY).length <= 100000000) :
  aI B b l (if n = 0 then cW else eY) w 187 #[.pointer (some ⟨b, 0, none⟩), .pointer (some ⟨bk, 0, none⟩)] := by
 unfold aI
 obtain ⟨t, ht⟩ : ∃ t, t = (if n = 0 then cW else eY) := ⟨_, rfl⟩
 rw [<- ht] at hlen ⊢
 have HC : Hid (∀ W, Calls Tryz.prog 233 #[.bool !((n : Int) == 0)] W fun e w' => e = .returned (.string (mkT t)) /\ W = w') := zz fun W => by
  have := DR (!((n : Int) == 0)) W
  have e : (if (!((n : Int) == 0)) then eY else cW) = t := by
   rw [ht]
   by_cases h0 : n = 0
   ·subst h0; rfl
   ·rw [if_neg h0, if_pos]
    simp; omega
  rw [e] at this
  exact this
 have H := zz (bZ B b l [mkT t] w h hB (by show l.length + (t ++ []).length <= _; rw [List.append_nil]; exact hlen) (by simp))
 clear h hB hlen ht
 go_enter Tryz.func187, Tryz.ntmps187
 go_wp2_with fail
 refine (HC.out _).mono ?_
 rintro e w1 ⟨rfl, rfl⟩
 go_wp2_with fail
 refine H.out.mono ?_
 rintro e w2 ⟨rfl, h2, hb2, ho2⟩
 have h2' : PC B b (l ++ t) w2 := by
  have e : l ++ t = l ++ bU [mkT t] := by show _ = l ++ (t ++ []); rw [List.append_nil]
  rw [e]; exact h2
 have H2 := zz h2'
 have HB2 := zz hb2
 have HO2 := zz ho2
 clear h2 h2' hb2 ho2
 go_wp2_with fail
 try simp only [Exit.inBlock, Exit.then]
 go_end0
 exact ⟨rfl, H2.out, HB2.out, HO2.out⟩
theorem F2 {B b bk : Nat}  (l : List UInt8) (w : World) (h : PC B b l w) (hB : B <= w.heap.size) (c0 : w.cell? ⟨bk, 0, none⟩ = some (.int .i64 3)) (hlen : l.length + (iS).length <= 100000000) :
  aI B b l (iS) w 187 #[.pointer (some ⟨b, 0, none⟩), .pointer (some ⟨bk, 0, none⟩)] := by
 unfold aI
 have H := zz (bZ B b l [mkT iS] w h hB (by show l.length + (iS ++ []).length <= _; rw [List.append_nil]; exact hlen) (by simp))
 clear h hB hlen
 go_enter Tryz.func187, Tryz.ntmps187
 go_wp2_with fail
 refine H.out.mono ?_
 rintro e w2 ⟨rfl, h2, hb2, ho2⟩
 have h2' : PC B b (l ++ iS) w2 := by
  have e : l ++ iS = l ++ bU [mkT iS] := by show _ = l ++ (iS ++ []); rw [List.append_nil]
  rw [e]; exact h2
 have H2 := zz h2'
 have HB2 := zz hb2
 have HO2 := zz ho2
 clear h2 h2' hb2 ho2
 go_wp2_with fail
 try simp only [Exit.inBlock, Exit.then]
 go_end0
 exact ⟨rfl, H2.out, HB2.out, HO2.out⟩
theorem DU {B b bk : Nat} {name : Lx.B} (l : List UInt8) (w : World) (h : PC B b l w) (hB : B <= w.heap.size) (c0 : w.cell? ⟨bk, 0, none⟩ = some (.int .i64 4)) (c3 : w.cell? ⟨bk, 3, none⟩ = some (.string (mkT name))) (hlen : l.length + (name).length <= 100000000) :
  aI B b l (name) w 187 #[.pointer (some ⟨b, 0, none⟩), .pointer (some ⟨bk, 0, none⟩)] := by
 unfold aI
 have H := zz (bZ B b l [mkT name] w h hB (by show l.length + (name ++ []).length <= _; rw [List.append_nil]; exact hlen) (by simp))
 clear h hB hlen
 go_enter Tryz.func187, Tryz.ntmps187
 go_wp2_with fail
 refine H.out.mono ?_
 rintro e w2 ⟨rfl, h2, hb2, ho2⟩
 have h2' : PC B b (l ++ name) w2 := by
  have e : l ++ name = l ++ bU [mkT name] := by show _ = l ++ (name ++ []); rw [List.append_nil]
  rw [e]; exact h2
 have H2 := zz h2'
 have HB2 := zz hb2
 have HO2 := zz ho2
 clear h2 h2' hb2 ho2
 go_wp2_with fail
 try simp only [Exit.inBlock, Exit.then]
 go_end0
 exact ⟨rfl, H2.out, HB2.out, HO2.out⟩
theorem JB {B b bk : Nat} {op : Nat} {x : Ex} {lv : Value} (l : List UInt8) (w : World) (h : PC B b l w) (hB : B <= w.heap.size) (hP : PEnv B w) (c0 : w.cell? ⟨bk, 0, none⟩ = some (.int .i64 6)) (c4 : w.cell? ⟨bk, 4, none⟩ = some (.int .i64 (op : Nat))) (c5 : w.cell? ⟨bk, 5, none⟩ = some lv) (hx : ExIn w (fun k => k < B) lv x) (hE : gI B b x) (hbk : bk < B) (hlen : l.length + (cQ op ++ exV 6 x).length <= 100000000) :
  aI B b l (cQ op ++ exV 6 x) w 187 #[.pointer (some ⟨b, 0, none⟩), .pointer (some ⟨bk, 0, none⟩)] := by
 unfold aI
 rw [List.length_append] at hlen
 have HL : Hid (l.length + (List.length (cQ op) + (exV 6 x).length) <= 100000000) := zz hlen
 have HPUT := zz (bZ B b l [mkT (cQ op)] w h hB (by have := HL.out; show l.length + (cQ op ++ []).length <= _; rw [List.append_nil]; omega) (by simp))
 have HB := zz hB
 have HP := zz hP
 have HX := zz hx
 have HE := zz hE
 have HC5 : Hid (∀ W', Below B w W' -> W'.cell? ⟨bk, 5, none⟩ = some lv) := zz fun W' hb => by rw [hb.cell (p := ⟨bk, 5, none⟩) hbk]; exact c5
 have HC0 : Hid (∀ W', Below B w W' -> W'.cell? ⟨bk, 0, none⟩ = some (.int .i64 6)) := zz fun W' hb => by rw [hb.cell (p := ⟨bk, 0, none⟩) hbk]; exact c0
 have HS : Hid (Calls Tryz.prog 235 #[.int .i64 (op : Nat)] w fun e w' => e = .returned (.string (mkT (cQ op))) /\ w = w') := zz (by have := vG (op : Int) w hP.signs; rw [s8] at this; exact this)
 clear h hB hP hx hE hlen hbk
 go_enter Tryz.func187, Tryz.ntmps187
 go_wp2_with fail
 refine HS.out.mono ?_
 rintro e w1 ⟨rfl, rfl⟩
 go_wp2_with fail
 refine HPUT.out.mono ?_
 rintro e w2 ⟨rfl, h2, hb2, ho2⟩
 have h2' : PC B b (l ++ cQ op) w2 := by
  have e : l ++ cQ op = l ++ bU [mkT (cQ op)] := by show _ = l ++ (cQ op ++ []); rw [List.append_nil]
  rw [e]; exact h2
 have d5 := HC5.out w2 hb2
 have HEX := zz (HE.out 6 _ w2 lv h2' (Nat.le_trans HB.out hb2.size) (HP.out.below hb2) (HX.out.below hb2) (by have := HL.out; rw [List.length_append]; omega))
 have HB2 := zz hb2
 have HO2 := zz ho2
 clear h2 h2' hb2 ho2 c5
 go_wp2_with fail
 refine HEX.out.mono ?_
 rintro e w3 ⟨rfl, h3, hb3, ho3⟩
 have H3 : Hid (PC B b (l ++ (cQ op ++ exV 6 x)) w3) := zz (by rw [<- List.append_assoc]; exact h3)
 have HB3 := zz (HB2.out.trans hb3)
 have HO3 := zz (HO2.out.trans ho3)
 clear h3 hb3 ho3
 go_wp2_with fail
 try simp only [Exit.inBlock, Exit.then]
 go_end0
 exact ⟨rfl, H3.out, HB3.out, HO3.out⟩
theorem DV {B b bk : Nat} {x : Ex} {lv : Value} (l : List UInt8) (w : World) (h : PC B b l w) (hB : B <= w.heap.size) (hP : PEnv B w) (c0 : w.cell? ⟨bk, 0, none⟩ = some (.int .i64 10)) (c5 : w.cell? ⟨bk, 5, none⟩ = some lv) (hx : ExIn w (fun k => k < B) lv x) (hE : gI B b x) (hbk : bk < B) (hlen : l.length + (aM ++ exV 6 x).length <= 100000000) :
  aI B b l (aM ++ exV 6 x) w 187 #[.pointer (some ⟨b, 0, none⟩), .pointer (some ⟨bk, 0, none⟩)] := by
 unfold aI
 rw [List.length_append] at hlen
 have HL : Hid (l.length + (List.length (aM) + (exV 6 x).length) <= 100000000) := zz hlen
 have HPUT := zz (bZ B b l [mkT aM] w h hB (by have := HL.out; show l.length + (aM ++ []).length <= _; rw [List.append_nil]; omega) (by simp))
 have HB := zz hB
 have HP := zz hP
 have HX := zz hx
 have HE := zz hE
 have HC5 : Hid (∀ W', Below B w W' -> W'.cell? ⟨bk, 5, none⟩ = some lv) := zz fun W' hb => by rw [hb.cell (p := ⟨bk, 5, none⟩) hbk]; exact c5
 have HC0 : Hid (∀ W', Below B w W' -> W'.cell? ⟨bk, 0, none⟩ = some (.int .i64 10)) := zz fun W' hb => by rw [hb.cell (p := ⟨bk, 0, none⟩) hbk]; exact c0
 clear h hB hP hx hE hlen hbk
 go_enter Tryz.func187, Tryz.ntmps187
 go_wp2_with fail
 refine HPUT.out.mono ?_
 rintro e w2 ⟨rfl, h2, hb2, ho2⟩
 have h2' : PC B b (l ++ aM) w2 := by
  have e : l ++ aM = l ++ bU [mkT aM] := by show _ = l ++ (aM ++ []); rw [List.append_nil]
  rw [e]; exact h2
 have d5 := HC5.out w2 hb2
 have HEX := zz (HE.out 6 _ w2 lv h2' (Nat.le_trans HB.out hb2.size) (HP.out.below hb2) (HX.out.below hb2) (by have := HL.out; rw [List.length_append]; omega))
 have HB2 := zz hb2
 have HO2 := zz ho2
 clear h2 h2' hb2 ho2 c5
 go_wp2_with fail
 refine HEX.out.mono ?_
 rintro e w3 ⟨rfl, h3, hb3, ho3⟩
 have H3 : Hid (PC B b (l ++ (aM ++ exV 6 x)) w3) := zz (by rw [<- List.append_assoc]; exact h3)
 have HB3 := zz (HB2.out.trans hb3)
 have HO3 := zz (HO2.out.trans ho3)
 clear h3 hb3 ho3
 go_wp2_with fail
 try simp only [Exit.inBlock, Exit.then]
 go_end0
 exact ⟨rfl, H3.out, HB3.out, HO3.out⟩
theorem DW {B b bk : Nat} {x : Ex} {q : Option Addr} (l : List UInt8) (w : World) (h : PC B b l w) (hB : B <= w.heap.size) (hP : PEnv B w) (c0 : w.cell? ⟨bk, 0, none⟩ = some (.int .i64 8)) (c5 : w.cell? ⟨bk, 5, none⟩ = some (.pointer q)) (hx : ExIn w (fun k => k < B) (.pointer q) x) (hE : gI B b x) (hlen : l.length + (dZ ++ ([40] ++ (exV 1 x ++ [41]))).length <= 100000000) :
    aI B b l (dZ ++ ([40] ++ (exV 1 x ++ [41]))) w 187 #[.pointer (some ⟨b, 0, none⟩), .pointer (some ⟨bk, 0, none⟩)] := by
  unfold aI
  have hb : Below w.heap.size w (w.alloc (.cells #[.pointer q] 60)) := ((Keeps.refl (fun _ => False) w).alloc _).below (Nat.le_refl _) (fun _ _ e => e.elim)
  have hcw : (w.alloc (.cells #[.pointer q] 60)).heap[w.heap.size]? = some (.cells #[.pointer q] 60 (0, 0)) := heap_alloc_new w _
  have hblt := h.1.lt
  have H := zz (oO (B := B) (b := b) dZ [x] (fun y hy => by cases hy with | head => exact hE | tail _ h => cases h) l (w.alloc (.cells #[.pointer q] 60)) (.slice (some ⟨w.heap.size, 0, none⟩) 1 1) (h.fresh hb) (Nat.le_trans hB hb.size) (hP.below (hb.mono hB))
    (Or.inr ⟨w.heap.size, 1, rfl, fun W' _ ho i => by
        rw [Lib.cell_of_heap (ho w.heap.size _ _ _ (by omega) (by decide) hcw), Lib.cell_of_heap hcw], fun i y hy => by
        cases i with
        | zero => exact ⟨.pointer q, by rw [Lib.cell_of_heap hcw]; rfl, by cases hy; exact hx.below (hb.mono hB)⟩
        | succ i => simp at hy⟩)
    (by show l.length + (dZ ++ ([40] ++ ((exV 1 x ++ []) ++ [41]))).length <= _; rw [List.append_nil]; exact hlen))
  have HBW := zz (hb.mono hB)
  have HOW : Hid (Others b w (w.alloc (.cells #[.pointer q] 60))) := zz (Others.of_new hb)
  clear h hB hP hx hE hlen hb hcw hblt
  go_enter Tryz.func187, Tryz.ntmps187
  go_wp2_with fail
  refine H.out.mono ?_
  rintro e w2 ⟨rfl, h2, hb2, ho2⟩
  have H2 : Hid (PC B b (l ++ (dZ ++ ([40] ++ (exV 1 x ++ [41])))) w2) := zz (by
    have e : dZ ++ ([40] ++ (exV 1 x ++ [41])) = dZ ++ ([40] ++ (eE true [x] ++ [41])) := by show _ = dZ ++ ([40] ++ ((exV 1 x ++ []) ++ [41])); rw [List.append_nil]
    rw [e]; exact h2)
  have HB2 := zz (HBW.out.trans hb2)
  have HO2 := zz (HOW.out.trans ho2)
  clear h2 hb2 ho2
  go_wp2_with fail
  try simp only [Exit.inBlock, Exit.then]
  go_end0
  exact ⟨rfl, H2.out, HB2.out, HO2.out⟩
theorem F3 {B b bk : Nat} {x : Ex} {q : Option Addr} (l : List UInt8) (w : World) (h : PC B b l w) (hB : B <= w.heap.size) (hP : PEnv B w) (c0 : w.cell? ⟨bk, 0, none⟩ = some (.int .i64 9)) (c5 : w.cell? ⟨bk, 5, none⟩ = some (.pointer q)) (hx : ExIn w (fun k => k < B) (.pointer q) x) (hE : gI B b x) (hlen : l.length + (iR ++ ([40] ++ (exV 1 x ++ [41]))).length <= 100000000) :
    aI B b l (iR ++ ([40] ++ (exV 1 x ++ [41]))) w 187 #[.pointer (some ⟨b, 0, none⟩), .pointer (some ⟨bk, 0, none⟩)] := by
  unfold aI
  have hb : Below w.heap.size w (w.alloc (.cells #[.pointer q] 60)) := ((Keeps.refl (fun _ => False) w).alloc _).below (Nat.le_refl _) (fun _ _ e => e.elim)
  have hcw : (w.alloc (.cells #[.pointer q] 60)).heap[w.heap.size]? = some (.cells #[.pointer q] 60 (0, 0)) := heap_alloc_new w _
  have hblt := h.1.lt
  have H := zz (oO (B := B) (b := b) iR [x] (fun y hy => by cases hy with | head => exact hE | tail _ h => cases h) l (w.alloc (.cells #[.pointer q] 60)) (.slice (some ⟨w.heap.size, 0, none⟩) 1 1) (h.fresh hb) (Nat.le_trans hB hb.size) (hP.below (hb.mono hB))
    (Or.inr ⟨w.heap.size, 1, rfl, fun W' _ ho i => by
        rw [Lib.cell_of_heap (ho w.heap.size _ _ _ (by omega) (by decide) hcw), Lib.cell_of_heap hcw], fun i y hy => by
        cases i with
        | zero => exact ⟨.pointer q, by rw [Lib.cell_of_heap hcw]; rfl, by cases hy; exact hx.below (hb.mono hB)⟩
        | succ i => simp at hy⟩)
    (by show l.length + (iR ++ ([40] ++ ((exV 1 x ++ []) ++ [41]))).length <= _; rw [List.append_nil]; exact hlen))
  have HBW := zz (hb.mono hB)
  have HOW : Hid (Others b w (w.alloc (.cells #[.pointer q] 60))) := zz (Others.of_new hb)
  clear h hB hP hx hE hlen hb hcw hblt
  go_enter Tryz.func187, Tryz.ntmps187
  go_wp2_with fail
  refine H.out.mono ?_
  rintro e w2 ⟨rfl, h2, hb2, ho2⟩
  have H2 : Hid (PC B b (l ++ (iR ++ ([40] ++ (exV 1 x ++ [41])))) w2) := zz (by
    have e : iR ++ ([40] ++ (exV 1 x ++ [41])) = iR ++ ([40] ++ (eE true [x] ++ [41])) := by show _ = iR ++ ([40] ++ ((exV 1 x ++ []) ++ [41])); rw [List.append_nil]
    rw [e]; exact h2)
  have HB2 := zz (HBW.out.trans hb2)
  have HO2 := zz (HOW.out.trans ho2)
  clear h2 hb2 ho2
  go_wp2_with fail
  try simp only [Exit.inBlock, Exit.then]
  go_end0
  exact ⟨rfl, H2.out, HB2.out, HO2.out⟩
theorem ArgsAt.drew {B b : Nat} {av : Value} {l : List Ex} (h : ArgsAt B b w av l) : ArgsAt B b w.drew av l := by
 rcases h with h | ⟨g, cap, e, h1, h2⟩
 ·exact Or.inl h
 ·exact Or.inr ⟨g, cap, e, fun W' hb ho i => h1 W' (Below.trans (Below.drew (Below.refl B w)) hb) (Others.trans (Others.of_new (Below.drew (Below.refl _ _))) ho) i, fun i x hi => by
   obtain ⟨v, a1, a2⟩ := h2 i x hi
   exact ⟨v, a1, a2.below (Below.drew (Below.refl B w))⟩⟩
theorem F4 {B b bk op : Nat} {x y : Ex} {q p : Option Addr} (l : List UInt8) (w : World) (h : PC B b l w) (hB : B <= w.heap.size) (hP : PEnv B w) (c0 : w.cell? ⟨bk, 0, none⟩ = some (.int .i64 5)) (c4 : w.cell? ⟨bk, 4, none⟩ = some (.int .i64 (op : Nat))) (c5 : w.cell? ⟨bk, 5, none⟩ = some (.pointer q)) (c6 : w.cell? ⟨bk, 6, none⟩ = some (.pointer p)) (hbk : bk < B)
  (hx : ExIn w (fun k => k < B) (.pointer q) x) (hy : ExIn w (fun k => k < B) (.pointer p) y) (hE : gI B b x) (hF : gI B b y) (hlen : l.length + (exV (bN op) x ++ ([32] ++ (sgV op ++ ([32] ++ exV (bN op + 1) y)))).length <= 100000000) :
  aI B b l (exV (bN op) x ++ ([32] ++ (sgV op ++ ([32] ++ exV (bN op + 1) y)))) w 187 #[.pointer (some ⟨b, 0, none⟩), .pointer (some ⟨bk, 0, none⟩)] := by
 unfold aI
 simp only [List.length_append] at hlen
 have HL : Hid (l.length + ((exV (bN op) x).length + (1 + (List.length (sgV op) + (1 + (exV (bN op + 1) y).length)))) <= 100000000) := zz hlen
 have HC : Hid (∀ W', Below B w W' -> W'.cell? ⟨bk, 4, none⟩ = some (.int .i64 (op : Nat)) /\ W'.cell? ⟨bk, 6, none⟩ = some (.pointer p)) := zz fun W' hb => ⟨by rw [hb.cell (p := ⟨bk, 4, none⟩) hbk]; exact c4, by rw [hb.cell (p := ⟨bk, 6, none⟩) hbk]; exact c6⟩
 have hbd : Below B w w.drew := Below.drew (Below.refl B w)
 have HC5 : Hid (∀ W', Below B w W' -> W'.cell? ⟨bk, 5, none⟩ = some (.pointer q)) := zz fun W' hb => by rw [hb.cell (p := ⟨bk, 5, none⟩) hbk]; exact c5
 have HLV : Hid (∀ W, Calls Tryz.prog 186 #[.int .i64 (op : Nat)] W fun e w' => e = .returned (.int .i64 (bN op : Nat)) /\ W = w') := zz fun W => oG op W
 have HEX := zz (hE (bN op) l w.drew _ (h.fresh (Below.drew (Below.refl _ _))) hB (hP.below hbd) (hx.below hbd) (by have := HL.out; omega))
 have HB := zz hB
 have HP := zz hP
 have HY := zz hy
 have HF := zz hF
 have HBD := zz hbd
 clear h hB hP hx hy hE hF hlen hbk hbd
 go_enter Tryz.func187, Tryz.ntmps187
 go_wp2_with fail
 refine wp_region_held_drew (S := (fun W' : World => W'.cell? ⟨bk, 4, none⟩ = some (.int .i64 (op : Nat)) /\ W'.cell? ⟨bk, 5, none⟩ = some (.pointer q))) (by kernel_rfl) ⟨by simp only [World.cell?_drew]; assumption, by simp only [World.cell?_drew]; assumption⟩ (fun hHeld => ?_)
 refine tk 0 45 (.pointer (some ⟨b, 0, none⟩)) rfl (.inl ⟨by rfl, ?_⟩) hHeld ?_
 ·intro W9 hSW; (try dsimp only at hSW); go_simp
 try simp only [Act.put, sA, sB, sC]
 refine tk 1 46 (.pointer (some ⟨bk, 0, none⟩)) rfl (.inl ⟨by rfl, ?_⟩) hHeld ?_
 ·intro W9 hSW; (try dsimp only at hSW); go_simp
 try simp only [Act.put, sA, sB, sC]
 refine tk 2 47 (.pointer (some ⟨bk, 0, none⟩)) rfl (.inl ⟨by rfl, ?_⟩) hHeld ?_
 ·intro W9 hSW; (try dsimp only at hSW); go_simp
 try simp only [Act.put, sA, sB, sC]
 refine tk 3 48 (.pointer (some ⟨bk, 5, none⟩)) rfl (.inl ⟨by rfl, ?_⟩) hHeld ?_
 ·intro W9 hSW; (try dsimp only at hSW); go_simp
 try simp only [Act.put, sA, sB, sC]
 refine tk 4 49 (.pointer q) rfl (.inl ⟨by rfl, ?_⟩) hHeld ?_
 ·intro W9 hSW; (try dsimp only at hSW); go_simp
 try simp only [Act.put, sA, sB, sC]
 refine tk 5 50 (.pointer (some ⟨bk, 0, none⟩)) rfl (.inl ⟨by rfl, ?_⟩) hHeld ?_
 ·intro W9 hSW; (try dsimp only at hSW); go_simp
 try simp only [Act.put, sA, sB, sC]
 refine tk 6 51 (.pointer (some ⟨bk, 0, none⟩)) rfl (.inl ⟨by rfl, ?_⟩) hHeld ?_
 ·intro W9 hSW; (try dsimp only at hSW); go_simp
 try simp only [Act.put, sA, sB, sC]
 refine tk 7 52 (.pointer (some ⟨bk, 4, none⟩)) rfl (.inl ⟨by rfl, ?_⟩) hHeld ?_
 ·intro W9 hSW; (try dsimp only at hSW); go_simp
 try simp only [Act.put, sA, sB, sC]
 refine tk 8 53 (.int .i64 (op : Nat)) rfl (.inl ⟨by rfl, ?_⟩) hHeld ?_
 ·intro W9 hSW; (try dsimp only at hSW); go_simp
 try simp only [Act.put, sA, sB, sC]
 refine ra 9 (some 54) rfl fun K hK => ?_
 go_simp
 go_at_call 186
 refine (HLV.out _).mono ?_
 rintro e w1 ⟨rfl, rfl⟩
 refine hK.out _ _ hHeld (fun hHeld => ?_)
 clear hK K
 refine ra 10 (some 55) rfl fun K hK => ?_
 go_simp
 go_at_call 132
 refine HEX.out.mono ?_
 rintro e w2 ⟨rfl, h2, hb2, ho2⟩
 have HB2 := zz (HBD.out.trans hb2)
 have HO2 : Hid (Others b w w2) := zz ((Others.of_new (Below.drew (Below.refl _ _))).trans ho2)
 have H2 := zz h2
 have d4 := (HC.out w2 HB2.out).1
 have d6 := (HC.out w2 HB2.out).2
 have d5 : w2.cell? ⟨bk, 5, none⟩ = some (.pointer q) := HC5.out w2 HB2.out
 clear h2 hb2 ho2
 refine hK.out _ _ ⟨d4, d5⟩ (fun hHeld => ?_)
 clear hK K
 refine wpAnyH_done (by kernel_rfl) ?_ _
 have HSG := zz (DQ op w2 (HP.out.below HB2.out).signs)
 have HPUT := zz (bZ B b _ [⟨#[32]⟩, mkT (sgV op), ⟨#[32]⟩] w2 H2.out (Nat.le_trans HB.out HB2.out.size) (by have := HL.out; rw [List.length_append]; show l.length + _ + ([32] ++ (sgV op ++ ([32] ++ []))).length <= _; simp only [List.length_append, List.length_singleton, List.length_nil]; omega) (by simp))
 clear c4 c5 c6
 go_wp2_with fail
 refine HSG.out.mono ?_
 rintro e w3 ⟨rfl, rfl⟩
 go_wp2_with fail
 refine HPUT.out.mono ?_
 rintro e w4 ⟨rfl, h4, hb4, ho4⟩
 have HB4 := zz (HB2.out.trans hb4)
 have HO4 := zz (HO2.out.trans ho4)
 have hbd : Below B w w4.drew := HB4.out.trans (Below.drew (Below.refl B w4))
 have hcat : bU [⟨#[32]⟩, mkT (sgV op), ⟨#[32]⟩] = [32] ++ (sgV op ++ ([32] ++ [])) := rfl
 have HEY := zz (HF.out (bN op + 1) _ w4.drew _ (h4.fresh (Below.drew (Below.refl _ _))) (Nat.le_trans HB.out HB4.out.size) (HP.out.below hbd) (HY.out.below hbd) (by have := HL.out; rw [hcat]; simp only [List.length_append, List.length_singleton, List.length_nil]; omega))
 have d6 := (HC.out w4 HB4.out).2
 have d4 := (HC.out w4 HB4.out).1
 have HBD2 := zz hbd
 have hw : IntKind.i64.wrap ((bN op : Nat) + 1 : Int) = ((bN op + 1 : Nat) : Int) := by
  rw [IntWalk.i64_in _ (by have : bN op <= 5 := (by unfold bN; (repeat' split) <;> omega); omega)]; omega
 clear h4 hb4 ho4 hbd hcat
 go_wp2_with fail
 refine wp_region_held_drew (S := (fun W' : World => W'.cell? ⟨bk, 4, none⟩ = some (.int .i64 (op : Nat)) /\ W'.cell? ⟨bk, 6, none⟩ = some (.pointer p))) (by kernel_rfl) ⟨by simp only [World.cell?_drew]; assumption, by simp only [World.cell?_drew]; assumption⟩ (fun hHeld => ?_)
 refine tk 0 64 (.pointer (some ⟨b, 0, none⟩)) rfl (.inl ⟨by rfl, ?_⟩) hHeld ?_
 ·intro W9 hSW; (try dsimp only at hSW); go_simp
 try simp only [Act.put, sA, sB, sC]
 refine tk 1 65 (.pointer (some ⟨bk, 0, none⟩)) rfl (.inl ⟨by rfl, ?_⟩) hHeld ?_
 ·intro W9 hSW; (try dsimp only at hSW); go_simp
 try simp only [Act.put, sA, sB, sC]
 refine tk 2 66 (.pointer (some ⟨bk, 0, none⟩)) rfl (.inl ⟨by rfl, ?_⟩) hHeld ?_
 ·intro W9 hSW; (try dsimp only at hSW); go_simp
 try simp only [Act.put, sA, sB, sC]
 refine tk 3 67 (.pointer (some ⟨bk, 6, none⟩)) rfl (.inl ⟨by rfl, ?_⟩) hHeld ?_
 ·intro W9 hSW; (try dsimp only at hSW); go_simp
 try simp only [Act.put, sA, sB, sC]
 refine tk 4 68 (.pointer p) rfl (.inl ⟨by rfl, ?_⟩) hHeld ?_
 ·intro W9 hSW; (try dsimp only at hSW); go_simp
 try simp only [Act.put, sA, sB, sC]
 refine tk 5 69 (.pointer (some ⟨bk, 0, none⟩)) rfl (.inl ⟨by rfl, ?_⟩) hHeld ?_
 ·intro W9 hSW; (try dsimp only at hSW); go_simp
 try simp only [Act.put, sA, sB, sC]
 refine tk 6 70 (.pointer (some ⟨bk, 0, none⟩)) rfl (.inl ⟨by rfl, ?_⟩) hHeld ?_
 ·intro W9 hSW; (try dsimp only at hSW); go_simp
 try simp only [Act.put, sA, sB, sC]
 refine tk 7 71 (.pointer (some ⟨bk, 4, none⟩)) rfl (.inl ⟨by rfl, ?_⟩) hHeld ?_
 ·intro W9 hSW; (try dsimp only at hSW); go_simp
 try simp only [Act.put, sA, sB, sC]
 refine tk 8 72 (.int .i64 (op : Nat)) rfl (.inl ⟨by rfl, ?_⟩) hHeld ?_
 ·intro W9 hSW; (try dsimp only at hSW); go_simp
 try simp only [Act.put, sA, sB, sC]
 refine ra 9 (some 73) rfl fun K hK => ?_
 go_simp
 go_at_call 186
 refine (HLV.out _).mono ?_
 rintro e w5 ⟨rfl, rfl⟩
 refine hK.out _ _ hHeld (fun hHeld => ?_)
 clear hK K
 refine tk 10 74 (.int .i64 ((bN op + 1 : Nat) : Int)) rfl (.inl ⟨by rfl, ?_⟩) hHeld ?_
 ·intro W9 hSW; (try dsimp only at hSW); go_simp
 try simp only [Act.put, sA, sB, sC]
 refine ra 11 (some 75) rfl fun K hK => ?_
 go_simp
 go_at_call 132
 refine HEY.out.mono ?_
 rintro e w6 ⟨rfl, h6, hb6, ho6⟩
 have HB6 := zz (HBD2.out.trans hb6)
 have HO6 : Hid (Others b w w6) := zz ((HO4.out.trans (Others.of_new (Below.drew (Below.refl _ _)))).trans ho6)
 have h6' : PC B b (l ++ (exV (bN op) x ++ ([32] ++ (sgV op ++ ([32] ++ exV (bN op + 1) y))))) w6 := by
  have e : l ++ (exV (bN op) x ++ ([32] ++ (sgV op ++ ([32] ++ exV (bN op + 1) y)))) = l ++ exV (bN op) x ++ bU [⟨#[32]⟩, mkT (sgV op), ⟨#[32]⟩] ++ exV (bN op + 1) y := by
   show _ = l ++ exV (bN op) x ++ ([32] ++ (sgV op ++ ([32] ++ []))) ++ exV (bN op + 1) y
   simp only [List.append_assoc, List.append_nil]
  rw [e]; exact h6
 have H6 := zz h6'
 have e4 := (HC.out w6 HB6.out).1
 have e6 := (HC.out w6 HB6.out).2
 clear h6 h6' hb6 ho6
 refine hK.out _ _ ⟨e4, e6⟩ (fun hHeld => ?_)
 clear hK K
 refine wpAnyH_done (by kernel_rfl) ?_ _
 go_wp2_with fail
 try simp only [Exit.inBlock, Exit.then]
 go_end0
 exact ⟨rfl, H6.out, HB6.out, HO6.out⟩
theorem DX {B b bk : Nat} {name : Lx.B} {ar : List Ex} {av : Value} (l : List UInt8) (w : World) (h : PC B b l w) (hB : B <= w.heap.size) (hP : PEnv B w) (c0 : w.cell? ⟨bk, 0, none⟩ = some (.int .i64 7)) (c3 : w.cell? ⟨bk, 3, none⟩ = some (.string (mkT name))) (c7 : w.cell? ⟨bk, 7, none⟩ = some av) (hbk : bk < B)
  (hx : ArgsAt B b w av ar) (hA : ∀ x ∈ ar, gI B b x) (hlen : l.length + (name ++ ([40] ++ (eE true ar ++ [41]))).length <= 100000000) :
  aI B b l (name ++ ([40] ++ (eE true ar ++ [41]))) w 187 #[.pointer (some ⟨b, 0, none⟩), .pointer (some ⟨bk, 0, none⟩)] := by
 unfold aI
 have hbd : Below B w w.drew := Below.drew (Below.refl B w)
 have hxd : ArgsAt B b w.drew av ar := hx.drew
 obtain ⟨ao, n, cap, rfl⟩ : ∃ ao n cap, av = .slice ao n cap := by
  rcases hx with ⟨e1, e2⟩ | ⟨g, cap, e1, _⟩
  ·exact ⟨_, _, _, e1⟩
  ·exact ⟨_, _, _, e1⟩
 have H := zz (oO name ar hA l w.drew _ (h.fresh (Below.drew (Below.refl _ _))) hB (hP.below hbd) hxd hlen)
 have HC : Hid (∀ W', Below B w W' -> W'.cell? ⟨bk, 3, none⟩ = some (.string (mkT name)) /\ W'.cell? ⟨bk, 7, none⟩ = some (.slice ao n cap)) := zz fun W' hb => ⟨by rw [hb.cell (p := ⟨bk, 3, none⟩) hbk]; exact c3, by rw [hb.cell (p := ⟨bk, 7, none⟩) hbk]; exact c7⟩
 have HBD := zz hbd
 clear h hB hP hx hA hlen hbk hbd hxd
 go_enter Tryz.func187, Tryz.ntmps187
 go_wp2_with fail
 refine wp_region_held_drew (S := (fun W' : World => W'.cell? ⟨bk, 3, none⟩ = some (.string (mkT name)) /\ W'.cell? ⟨bk, 7, none⟩ = some (.slice ao n cap))) (by kernel_rfl) ⟨by simp only [World.cell?_drew]; assumption, by simp only [World.cell?_drew]; assumption⟩ (fun hHeld => ?_)
 refine tk 0 123 (.pointer (some ⟨b, 0, none⟩)) rfl (.inl ⟨by rfl, ?_⟩) hHeld ?_
 ·intro W9 hSW; (try dsimp only at hSW); go_simp
 try simp only [Act.put, sA, sB, sC]
 refine tk 1 124 (.pointer (some ⟨bk, 0, none⟩)) rfl (.inl ⟨by rfl, ?_⟩) hHeld ?_
 ·intro W9 hSW; (try dsimp only at hSW); go_simp
 try simp only [Act.put, sA, sB, sC]
 refine tk 2 125 (.pointer (some ⟨bk, 0, none⟩)) rfl (.inl ⟨by rfl, ?_⟩) hHeld ?_
 ·intro W9 hSW; (try dsimp only at hSW); go_simp
 try simp only [Act.put, sA, sB, sC]
 refine tk 3 126 (.pointer (some ⟨bk, 3, none⟩)) rfl (.inl ⟨by rfl, ?_⟩) hHeld ?_
 ·intro W9 hSW; (try dsimp only at hSW); go_simp
 try simp only [Act.put, sA, sB, sC]
 refine tk 4 127 (.string (mkT name)) rfl (.inl ⟨by rfl, ?_⟩) hHeld ?_
 ·intro W9 hSW; (try dsimp only at hSW); go_simp
 try simp only [Act.put, sA, sB, sC]
 refine tk 5 128 (.pointer (some ⟨bk, 0, none⟩)) rfl (.inl ⟨by rfl, ?_⟩) hHeld ?_
 ·intro W9 hSW; (try dsimp only at hSW); go_simp
 try simp only [Act.put, sA, sB, sC]
 refine tk 6 129 (.pointer (some ⟨bk, 0, none⟩)) rfl (.inl ⟨by rfl, ?_⟩) hHeld ?_
 ·intro W9 hSW; (try dsimp only at hSW); go_simp
 try simp only [Act.put, sA, sB, sC]
 refine tk 7 130 (.pointer (some ⟨bk, 7, none⟩)) rfl (.inl ⟨by rfl, ?_⟩) hHeld ?_
 ·intro W9 hSW; (try dsimp only at hSW); go_simp
 try simp only [Act.put, sA, sB, sC]
 refine tk 8 131 (.slice ao n cap) rfl (.inl ⟨by rfl, ?_⟩) hHeld ?_
 ·intro W9 hSW; (try dsimp only at hSW); go_simp
 try simp only [Act.put, sA, sB, sC]
 refine ra 9 (some 132) rfl fun K hK => ?_
 go_simp
 go_at_call 236
 refine H.out.mono ?_
 rintro e w2 ⟨rfl, h2, hb2, ho2⟩
 have HB2 := zz (HBD.out.trans hb2)
 have HO2 : Hid (Others b w w2) := zz ((Others.of_new (Below.drew (Below.refl _ _))).trans ho2)
 have H2 := zz h2
 clear h2 hb2 ho2
 refine hK.out _ _ (HC.out w2 HB2.out) (fun hHeld => ?_)
 clear hK K
 refine wpAnyH_done (by kernel_rfl) ?_ _
 go_wp2_with fail
 try simp only [Exit.inBlock, Exit.then]
 go_end0
 exact ⟨rfl, H2.out, HB2.out, HO2.out⟩
theorem zK {B b bk code : Nat} (hc : code = 0 \/ 10 < code) (l : List UInt8) (w : World) (h : PC B b l w) (c0 : w.cell? ⟨bk, 0, none⟩ = some (.int .i64 (code : Nat))) :
  aI B b l [] w 187 #[.pointer (some ⟨b, 0, none⟩), .pointer (some ⟨bk, 0, none⟩)] := by
 unfold aI
 rw [List.append_nil]
 have H := zz h
 have e1 : ((code : Int) == 1) = false := beq_eq_false_iff_ne.2 (by omega)
 have e2 : ((code : Int) == 2) = false := beq_eq_false_iff_ne.2 (by omega)
 have e3 : ((code : Int) == 3) = false := beq_eq_false_iff_ne.2 (by omega)
 have e4 : ((code : Int) == 4) = false := beq_eq_false_iff_ne.2 (by omega)
 have e5 : ((code : Int) == 5) = false := beq_eq_false_iff_ne.2 (by omega)
 have e6 : ((code : Int) == 6) = false := beq_eq_false_iff_ne.2 (by omega)
 have e7 : ((code : Int) == 7) = false := beq_eq_false_iff_ne.2 (by omega)
 have e8 : ((code : Int) == 8) = false := beq_eq_false_iff_ne.2 (by omega)
 have e9 : ((code : Int) == 9) = false := beq_eq_false_iff_ne.2 (by omega)
 have e10 : ((code : Int) == 10) = false := beq_eq_false_iff_ne.2 (by omega)
 clear h hc
 go_enter Tryz.func187, Tryz.ntmps187
 go_wp2_with fail
 try simp only [Exit.inBlock, Exit.then]
 go_end0
 exact ⟨rfl, H.out, Below.refl _ _, Others.refl _ _⟩
theorem xI {F : Nat -> Prop} {g : Nat} : ∀ (xs : Exs) (i : Nat), ExsIn w F g i xs -> ∀ (j : Nat) (x : Ex), xs.toList[j]? = some x -> ∃ v, w.cell? ⟨g, (i + j : Nat), none⟩ = some v /\ ExIn w F v x
 | .nil, _, _, j, x, h => by simp [Exs.toList] at h
 | .cons y ys, i, ⟨h1, h2⟩, 0, x, h => by
  obtain ⟨v, a1, a2⟩ := h1
  have e : y = x := by simpa [Exs.toList] using h
  subst e
  exact ⟨v, a1, a2⟩
 | .cons y ys, i, ⟨h1, h2⟩, j + 1, x, h => by
  obtain ⟨v, a1, a2⟩ := xI ys (i + 1) h2 j x (by simpa [Exs.toList] using h)
  exact ⟨v, by rw [show i + (j + 1) = i + 1 + j by omega]; exact a1, a2⟩
theorem DY {B b : Nat} {av : Value} {args : Exs} (ha : (av = .slice none 0 0 /\ args.len = 0) \/ ∃ g cap, av = .slice (some ⟨g, 0, none⟩) args.len cap /\ args.len <= cap /\ cap <= maxLen /\ 0 < args.len /\ g < B)
  (has : ∀ g n cap, av = .slice (some ⟨g, 0, none⟩) n cap -> ExsIn w (fun k => k < B) g 0 args) : ArgsAt B b w av args.toList := by
 rcases ha with ⟨e1, e2⟩ | ⟨g, cap, e1, _, _, _, hg⟩
 ·refine Or.inl ⟨e1, ?_⟩
  cases args with
  | nil => rfl
  | cons x xs => exact absurd e2 (by show xs.len + 1 ≠ 0; omega)
 ·refine Or.inr ⟨g, cap, by rw [e1, Exs.len_list], fun W' hb _ i => hb.cell (p := ⟨g, i, none⟩) hg, fun i x hi => ?_⟩
  obtain ⟨v, a1, a2⟩ := xI args 0 (has g _ _ e1) i x hi
  rw [Nat.zero_add] at a1
  exact ⟨v, a1, a2⟩
theorem eM {F : Nat -> Prop} {v : Value} {x : Ex} (h : ExIn w F v x) : ∃ q, v = .pointer q := by
 cases x with
 | nil => exact ⟨none, h⟩
 | mk => obtain ⟨b, _, _, _, e, _⟩ := h; exact ⟨_, e⟩
theorem F5 {B b : Nat} (code at_ n op : Nat) (name : Lx.B) (lx rx : Ex) (args : Exs) (hn : n <= 9223372036854775807) (hL : gI B b lx) (hR : gI B b rx) (hA : ∀ x ∈ args.toList, gI B b x) : J2 B b (.mk code at_ n op name lx rx args) := by
 intro l w v h hB hP hx hlen _
 obtain ⟨bk, lv, rv, av, rfl, hbk, c0, _, c2, c3, c4, c5, c6, c7, hl, hr, ha, has⟩ := hx
 obtain ⟨q, rfl⟩ := eM hl
 obtain ⟨p, rfl⟩ := eM hr
 by_cases h1 : code = 1
 ·subst h1
  have e : aH (.mk 1 at_ n op name lx rx args) = kM n := by rw [aH]; rfl
  rw [e] at hlen ⊢
  exact F1 l w h hB hP c0 c2 hn hlen
 by_cases h2 : code = 2
 ·subst h2
  have e : aH (.mk 2 at_ n op name lx rx args) = if n = 0 then cW else eY := by rw [aH]; rfl
  rw [e] at hlen ⊢
  exact DT l w h hB c0 c2 hlen
 by_cases h3 : code = 3
 ·subst h3
  have e : aH (.mk 3 at_ n op name lx rx args) = iS := by rw [aH]; rfl
  rw [e] at hlen ⊢
  exact F2 l w h hB c0 hlen
 by_cases h4 : code = 4
 ·subst h4
  have e : aH (.mk 4 at_ n op name lx rx args) = name := by rw [aH]; rfl
  rw [e] at hlen ⊢
  exact DU l w h hB c0 c3 hlen
 by_cases h5 : code = 5
 ·subst h5
  have e : aH (.mk 5 at_ n op name lx rx args) = exV (bN op) lx ++ ([32] ++ (sgV op ++ ([32] ++ exV (bN op + 1) rx))) := by rw [aH]; rfl
  rw [e] at hlen ⊢
  exact F4 l w h hB hP c0 c4 c5 c6 hbk hl hr hL hR hlen
 by_cases h6 : code = 6
 ·subst h6
  have e : aH (.mk 6 at_ n op name lx rx args) = cQ op ++ exV 6 lx := by rw [aH]; rfl
  rw [e] at hlen ⊢
  exact JB l w h hB hP c0 c4 c5 hl hL hbk hlen
 by_cases h7 : code = 7
 ·subst h7
  have e : aH (.mk 7 at_ n op name lx rx args) = name ++ ([40] ++ (eE true args.toList ++ [41])) := by rw [aH, s4]; rfl
  rw [e] at hlen ⊢
  exact DX l w h hB hP c0 c3 c7 hbk (DY ha has) hA hlen
 by_cases h8 : code = 8
 ·subst h8
  have e : aH (.mk 8 at_ n op name lx rx args) = dZ ++ ([40] ++ (exV 1 lx ++ [41])) := by rw [aH]; rfl
  rw [e] at hlen ⊢
  exact DW l w h hB hP c0 c5 hl hL hlen
 by_cases h9 : code = 9
 ·subst h9
  have e : aH (.mk 9 at_ n op name lx rx args) = iR ++ ([40] ++ (exV 1 lx ++ [41])) := by rw [aH]; rfl
  rw [e] at hlen ⊢
  exact F3 l w h hB hP c0 c5 hl hL hlen
 by_cases h10 : code = 10
 ·subst h10
  have e : aH (.mk 10 at_ n op name lx rx args) = aM ++ exV 6 lx := by rw [aH]; rfl
  rw [e] at hlen ⊢
  exact DV l w h hB hP c0 c5 hl hL hbk hlen
 ·have e : aH (.mk code at_ n op name lx rx args) = [] := by rw [aH, if_neg h1, if_neg h2, if_neg h3, if_neg h4, if_neg h5, if_neg h6, if_neg h10, if_neg h8, if_neg h9, if_neg h7]
  rw [e]
  exact zK (by omega) l w h c0
mutual
theorem lZ {B b : Nat} : ∀ x : Ex, bB x -> gI B b x
 | .nil, _ => sZ (fun _ _ _ _ _ _ _ _ h => absurd rfl h)
 | .mk code at_ n op name lx rx args, h => sZ (F5 code at_ n op name lx rx args h.1 (lZ lx h.2.1) (lZ rx h.2.2.1) (qS args h.2.2.2))
theorem qS {B b : Nat} : ∀ xs : Exs, kZ xs -> ∀ x ∈ xs.toList, gI B b x
 | .nil, _, x, hx => by cases hx
 | .cons y ys, h, x, hx => by
  rcases List.mem_cons.1 hx with e | e
  ·rw [e]; exact lZ y h.1
  ·exact qS ys h.2 x e
end
theorem kN (a c : Lx.B) : mkT a ++ mkT c = mkT (a ++ c) := by
 apply ByteArray.ext
 rw [ByteArray.data_append]
 simp [mkT]
theorem aG (w : World) (xs : Array Value) (e : TypeId) : Below w.heap.size w (w.alloc (.cells xs e)) := ((Keeps.refl (fun _ => False) w).alloc _).below (Nat.le_refl _) (fun _ _ e => e.elim)
theorem F6 (w : World) : PC w.heap.size w.heap.size [] (w.alloc (.cells #[.pointer none, .slice none 0 0] 129)) :=
 ⟨Lib.fresh_isBuilder _ _ w, fun _ => by rw [Lib.cell_of_heap (heap_alloc_new w _)]; rfl⟩
def fB (w : World) (f : FuncId) (args : Array Value) (t : List UInt8) : Prop := Calls Tryz.prog f args w fun e w' => e = .returned (.string (mkT t)) /\ Below w.heap.size w w'
theorem kO {B : Nat} (x : Ex) (hok : bB x) (least : Nat) (w : World) (v : Value) (hB : B <= w.heap.size) (hP : PEnv B w) (hx : ExIn w (fun k => k < B) v x) (hlen : (exV least x).length <= 100000000) :
  fB w 81 #[v, .int .i64 (least : Nat)] (exV least x) := by
 unfold fB
 obtain ⟨q, rfl⟩ := eM hx
 have hb := aG w #[.pointer none, .slice none 0 0] 129
 have HE := zz (lZ x hok least [] (w.alloc (.cells #[.pointer none, .slice none 0 0] 129)) (.pointer q) (F6 w) hb.size ((hP.mono hB).below hb) ((ExIn.mono (fun k _ (hk : k < B) => Nat.lt_of_lt_of_le hk hB) _ _ hx).below hb) (by rw [List.length_nil, Nat.zero_add]; exact hlen))
 have HB := zz hb
 clear hB hP hx hlen hb hok
 go_enter Tryz.func81, Tryz.ntmps81
 go_wp2_with fail
 refine HE.out.mono ?_
 rintro e w2 ⟨rfl, h2, hb2, ho2⟩
 have HS := zz (o7 _ _ _ _ h2)
 have HB2 := zz (HB.out.trans hb2)
 clear h2 hb2 ho2
 go_wp2_with fail
 refine HS.out.mono ?_
 rintro e w3 ⟨rfl, hb3⟩
 have HB3 := zz (HB2.out.trans hb3)
 clear hb3
 go_wp2_with fail
 try simp only [Exit.inBlock, Exit.then]
 go_ret
 exact ⟨rfl, HB3.out⟩
theorem eS {B : Nat} (x : Ex) (hok : bB x) (w : World) (v : Value) (hB : B <= w.heap.size) (hP : PEnv B w) (hx : ExIn w (fun k => k < B) v x) (hlen : (exV 1 x).length <= 100000000) :
  fB w 37 #[v] (exV 1 x) := by
 unfold fB
 obtain ⟨q, rfl⟩ := eM hx
 have HC := zz (kO x hok 1 w _ hB hP hx hlen)
 clear hB hP hx hlen hok
 go_enter Tryz.func37, Tryz.ntmps37
 go_wp2_with fail
 refine HC.out.mono ?_
 rintro e w2 ⟨rfl, hb2⟩
 have HB2 := zz hb2
 clear hb2
 go_wp2_with fail
 try simp only [Exit.inBlock, Exit.then]
 go_ret
 exact ⟨rfl, HB2.out⟩
def cY (x y : Ex) : Lx.B := exV 6 x ++ ([32, 60, 45, 32] ++ exV 1 y)
theorem BG {B : Nat} (x y : Ex) (hokx : bB x) (hoky : bB y) (w : World) (v u : Value) (hB : B <= w.heap.size) (hP : PEnv B w) (hx : ExIn w (fun k => k < B) v x) (hy : ExIn w (fun k => k < B) u y) (hlen : (cY x y).length <= 100000000) :
  fB w 229 #[v, u] (cY x y) := by
 unfold fB
 have hl : (exV 6 x).length + (4 + (exV 1 y).length) <= 100000000 := by
  unfold cY at hlen
  simpa only [List.length_append, List.length_cons, List.length_nil] using hlen
 obtain ⟨q, rfl⟩ := eM hx
 obtain ⟨p, rfl⟩ := eM hy
 have hs1 : ¬ 9223372036854775807 < (mkT (exV 6 x)).size + 4 := by rw [eI]; omega
 have hs2 : ¬ 9223372036854775807 < (mkT (exV 6 x)).size + 4 + (mkT (exV 1 y)).size := by rw [eI, eI]; omega
 have HC := zz (kO x hokx 6 w _ hB hP hx (by omega))
 have HT : Hid (∀ W, Below w.heap.size w W -> fB W 37 #[.pointer p] (exV 1 y)) := zz fun W hb => eS y hoky W _ (Nat.le_trans hB hb.size) (hP.below (hb.mono hB)) (hy.below (hb.mono hB)) (by omega)
 clear hB hP hx hy hlen hokx hoky hl
 go_enter Tryz.func229, Tryz.ntmps229
 go_wp2_with fail
 refine HC.out.mono ?_
 rintro e w2 ⟨rfl, hb2⟩
 have HT2 := zz (HT.out w2 hb2)
 have HB2 := zz hb2
 clear hb2
 go_wp2_with fail
 refine HT2.out.mono ?_
 rintro e w3 ⟨rfl, hb3⟩
 have HB3 := zz (HB2.out.trans (hb3.mono HB2.out.size))
 clear hb3
 go_wp2_with fail
 try simp only [Exit.inBlock, Exit.then]
 go_ret
 refine ⟨?_, HB3.out⟩
 refine congrArg Ending.returned (congrArg Value.string ?_)
 rw [show (⟨#[32, 60, 45, 32]⟩ : ByteArray) = mkT [32, 60, 45, 32] from rfl, kN, kN, List.append_assoc]
 rfl
def iE (k : Nat) : Lx.B := gG.getD k []
theorem kP (k : Nat) (w : World) (hK : mM w) : Calls Tryz.prog 130 #[.int .i64 (k : Nat)] w fun e w' => e = .returned (.string (mkT (iE k))) /\ w = w' := by
 by_cases h : k < 4
 ·have hc := hK k h
  have h1 : (k : Int) < 4 := by omega
  have h0 : decide ((k : Int) < 0) = false := by simp
  have h2 : 0 <= (k : Int) := by omega
  have h3 : decide (4 <= (k : Int)) = false := by simpa using h1
  have HE : Hid (mkT (iE k) = ⟨(gG.getD k []).toArray⟩) := zz rfl
  rw [HE.out]
  clear hK h
  go_enter Tryz.func130, Tryz.ntmps130
  go_wp2_with fail
  try simp only [Exit.inBlock, Exit.then]
  go_ret
  exact ⟨rfl, rfl⟩
 ·have h0 : decide ((k : Int) < 0) = false := by simp
  have h3 : decide (4 <= (k : Int)) = true := by simp; omega
  have HE : Hid (mkT (iE k) = ⟨#[]⟩) := zz (by
   unfold iE
   rw [List.getD_eq_getElem?_getD, List.getElem?_eq_none]
   ·rfl
   ·have : gG.length = 4 := rfl
    omega)
  rw [HE.out]
  clear hK h
  go_enter Tryz.func130, Tryz.ntmps130
  go_wp2_with fail
  try simp only [Exit.inBlock, Exit.then]
  go_ret
  exact ⟨rfl, rfl⟩
def rS : Nat -> Lx.B
 | 0 => []
 | n + 1 => rS n ++ [32, 32]
theorem lR : ∀ n, (rS n).length = 2 * n
 | 0 => rfl
 | n + 1 => by show (rS n ++ [32, 32]).length = _; rw [List.length_append, lR n]; show 2 * n + 2 = _; omega
def aC (d : Nat) (t : Lx.B) : Lx.B := rS d ++ (t ++ [10])
theorem aD (d : Nat) (t : Lx.B) : (aC d t).length = 2 * d + (t.length + 1) := by unfold aC; rw [List.length_append, lR, List.length_append]; rfl
theorem Others.heap {b g : Nat} {xs : Array Value} {e : TypeId} {fz : Nat × Nat} (h : Others b w w') (hg : g ≠ b) (he : e ≠ 5) (hx : w.heap[g]? = some (Obj.cells xs e fz)) : w'.heap[g]? = some (Obj.cells xs e fz) := h g xs e fz hg he hx
theorem F7 (B b g cap d : Nat) (l : List UInt8) (ps : List ByteArray) (xs : Array Value) (fz : Nat × Nat) (w : World) (h : PC B b l w) (hB : B <= w.heap.size) (hg : w.heap[g]? = some (Obj.cells xs 9 fz)) (hgb : g ≠ b) (hx : ∀ j x, ps[j]? = some x -> w.cell? ⟨g, j, none⟩ = some (.string x)) (hlen : l.length + (aC d (bU ps)).length <= 100000000) (hn : ps.length <= 10000) :
  aI B b l (aC d (bU ps)) w 77 #[.pointer (some ⟨b, 0, none⟩), .int .i64 (d : Nat), .slice (some ⟨g, 0, none⟩) ps.length cap] := by
 unfold aI
 rw [aD] at hlen
 have hd : d <= 100000000 := by omega
 have HI0 : Hid (PC B b (l ++ rS 0) w) := zz (by show PC B b (l ++ []) w; rw [List.append_nil]; exact h)
 have HB := zz hB
 have HG := zz hg
 have HX := zz hx
 have HGB := zz hgb
 have HLEN := zz hlen
 have HN := zz hn
 clear h hB hg hgb hx hlen hn
 go_enter Tryz.func77, Tryz.ntmps77
 go_wp2_with fail
 go_loopw [7] (fun i wr => ∃ k : Nat, k <= d /\ i = .int .i64 k /\ PC B b (l ++ rS k) wr /\ Below B w wr /\ Others b w wr) (fun i _ => d - (intOf i).toNat)
 case atStart => exact ⟨0, Nat.zero_le _, rfl, HI0.out, Below.refl _ _, Others.refl _ _⟩
 case round =>
  obtain ⟨k, hk, rfl, hp, hb, ho⟩ := hrel
  have HP := zz hp
  have HBL := zz hb
  have HO := zz ho
  clear hp hb ho
  by_cases hlt : k < d
  ·have hki : (k : Int) < (d : Int) := by omega
   have hw : IntKind.i64.wrap ((k : Int) + 1) = (k : Int) + 1 := IntWalk.i64_in _ (by omega)
   have HPUT := zz (bZ B b _ [⟨#[32, 32]⟩] wr HP.out (Nat.le_trans HB.out HBL.out.size) (by have := HLEN.out; rw [List.length_append, lR]; show _ + 2 <= _; omega) (by simp))
   go_wp2_with fail
   refine HPUT.out.mono ?_
   rintro e w2 ⟨rfl, hp2, hb2, ho2⟩
   have hp2' : PC B b (l ++ rS (k + 1)) w2 := by
    have e : l ++ rS (k + 1) = l ++ rS k ++ bU [⟨#[32, 32]⟩] := by rw [List.append_assoc]; rfl
    rw [e]; exact hp2
   have HP2 := zz hp2'
   have HB2 := zz (HBL.out.trans hb2)
   have HO2 := zz (HO.out.trans ho2)
   clear hp2 hp2' hb2 ho2
   go_wp2_with fail
   exact ⟨⟨k + 1, by omega, by simp, HP2.out, HB2.out, HO2.out⟩, by simp [intOf]; omega⟩
  ·have hki : ¬ (k : Int) < (d : Int) := by omega
   have hkk : k = d := by omega
   have h1 := HP.out
   rw [hkk] at h1
   have hgw := HO.out.heap HGB.out (by decide) HG.out
   have HPUT := zz (BE B b g cap _ ps xs fz wr h1 (Nat.le_trans HB.out HBL.out.size) hgw HGB.out (fun j x hj => by have := HX.out j x hj; rw [Lib.cell_of_heap HG.out] at this; rw [Lib.cell_of_heap hgw]; exact this) (by have := HLEN.out; rw [List.length_append, lR]; omega) HN.out)
   clear h1 hgw hkk
   go_wp2_with fail
   refine HPUT.out.mono ?_
   rintro e w2 ⟨rfl, h2, hb2, ho2⟩
   have HPUT2 := zz (bZ B b _ [⟨#[10]⟩] w2 h2 (Nat.le_trans HB.out (HBL.out.trans hb2).size) (by have := HLEN.out; rw [List.length_append, List.length_append, lR]; show _ + 1 <= _; omega) (by simp))
   have HB2 := zz (HBL.out.trans hb2)
   have HO2 := zz (HO.out.trans ho2)
   clear h2 hb2 ho2
   go_wp2_with fail
   refine HPUT2.out.mono ?_
   rintro e w3 ⟨rfl, h3, hb3, ho3⟩
   have H3 : Hid (PC B b (l ++ aC d (bU ps)) w3) := zz (by
    have e : l ++ aC d (bU ps) = l ++ rS d ++ bU ps ++ bU [⟨#[10]⟩] := by unfold aC; simp only [List.append_assoc]; rfl
    rw [e]; exact h3)
   have HB3 := zz (HB2.out.trans hb3)
   have HO3 := zz (HO2.out.trans ho3)
   clear h3 hb3 ho3
   go_wp2_with fail
   go_end0
   exact ⟨rfl, H3.out, HB3.out, HO3.out⟩
theorem bC (B b d : Nat) (l : List UInt8) (ps : List ByteArray) (w : World) (h : PC B b l w) (hB : B <= w.heap.size) (hlen : l.length + (aC d (bU ps)).length <= 100000000) (hn : ps.length <= 10000) :
  Calls Tryz.prog 77 #[.pointer (some ⟨b, 0, none⟩), .int .i64 (d : Nat), .slice (some ⟨w.heap.size, 0, none⟩) ps.length ps.length] (w.alloc (.cells (ps.map Value.string).toArray 9)) fun e w' => e = .returned (.tuple #[]) /\ PC B b (l ++ aC d (bU ps)) w' /\ Below B w w' /\ Others b w w' := by
 have hb := aG w (ps.map Value.string).toArray 9
 have hlt := h.1.lt
 refine (F7 B b w.heap.size ps.length d l ps (ps.map Value.string).toArray (0, 0) _ (h.fresh hb) (Nat.le_trans hB hb.size) (heap_alloc_new w _) (by omega) (fun j x hj => bK _ _ _ j _ (by simp [hj]) rfl) hlen hn).mono ?_
 rintro e w' ⟨rfl, h1, h2, h3⟩
 exact ⟨rfl, h1, (hb.mono hB).trans h2, (Others.of_new hb).trans h3⟩
end Go.Proofs.YtnpapppipccdbaaGreatDoor
namespace Go.Proofs.YtnpapppipccdbaaGreatDoor
open Go.RowKit Lx Tr
def mW : Lx.B := [32, 58, 61, 32]
def mX : Lx.B := [32, 61, 32]
def fR : Lx.B := [99, 108, 111, 115, 101, 40]
def cRp : Lx.B := [41]
def fS : Lx.B := [112, 114, 105, 110, 116, 32]
def fT : Lx.B := [115, 108, 101, 101, 112, 32]
def cGo : Lx.B := [103, 111, 32]
def fC : Lx.B := [114, 101, 116, 117, 114, 110]
def d9 : Lx.B := [114, 101, 116, 117, 114, 110, 32]
def jR : Lx.B := [98, 114, 101, 97, 107]
def dW : Lx.B := [99, 111, 110, 116, 105, 110, 117, 101]
def cIf : Lx.B := [105, 102, 32]
def cV : Lx.B := [32, 123]
def iO : Lx.B := [125, 32, 101, 108, 115, 101, 32, 123]
def rT : Lx.B := [102, 111, 114, 32]
def cF : Lx.B := [125]
def cG : Lx.B := [115, 101, 108, 101, 99, 116, 32, 123]
def jE : Lx.B := [99, 97, 115, 101, 32]
def fY : Lx.B := [99, 97, 115, 101, 32, 60, 45]
def iH : Lx.B := [32, 58, 61, 32, 60, 45]
def lS : Lx.B := [100, 101, 102, 97, 117, 108, 116]
def kQ : Lx.B := [58]
def iP (d : Nat) (val : Ex) : Lx.B := match val with
 | .nil => aC d fC
 | x => aC d (d9 ++ exV 1 x)
def dG (code : Nat) (name : Lx.B) (dst val : Ex) : Lx.B :=
 if code = 3 then jE ++ cY dst val
 else if code = 10 then (if name = [] then fY ++ exV 6 dst else jE ++ (name ++ (iH ++ exV 6 dst)))
 else lS
mutual
def stV : Nat -> St -> Lx.B
 | d, .mk code _ name dst val thn els cases =>
  if code = 1 then aC d (name ++ (mW ++ exV 1 val))
  else if code = 2 then aC d (name ++ (mX ++ exV 1 val))
  else if code = 3 then aC d (cY dst val)
  else if code = 4 then aC d (fR ++ (exV 1 val ++ cRp))
  else if code = 5 then aC d (fS ++ exV 1 val)
  else if code = 6 then aC d (fT ++ exV 1 val)
  else if code = 7 then aC d (cGo ++ exV 1 val)
  else if code = 8 then iP d val
  else if code = 9 then aC d jR
  else if code = 10 then aC d dW
  else if code = 11 then aC d (exV 1 val)
  else if code = 12 then aC d (cIf ++ (exV 1 val ++ cV)) ++ (bG (d + 1) thn ++ ((if els.len = 0 then [] else aC d iO ++ bG (d + 1) els) ++ aC d cF))
  else if code = 13 then aC d (rT ++ (exV 1 val ++ cV)) ++ (bG (d + 1) thn ++ aC d cF)
  else if code = 14 then aC d cG ++ (jS d cases ++ aC d cF)
  else []
def bG : Nat -> Sts -> Lx.B
 | _, .nil => []
 | d, .cons x xs => stV d x ++ bG d xs
def caV : Nat -> Ca -> Lx.B
 | d, .mk code _ name dst val body => aC d (dG code name dst val ++ kQ) ++ bG (d + 1) body
def jS : Nat -> Cas -> Lx.B
 | _, .nil => []
 | d, .cons x xs => caV d x ++ jS d xs
end
end Go.Proofs.YtnpapppipccdbaaGreatDoor
namespace Go.Proofs.YtnpapppipccdbaaGreatDoor
open Go.RowKit Lx Tr
variable {w w' : World}
theorem bO (w : World) (o : Obj) : (w.alloc o).heap.size = w.heap.size + 1 := Array.size_push _ ..
theorem zL {B b d : Nat} {at_ : Int} {name : ByteArray} {tq vq no eo co : Option Addr} {nn nc en ec cn cc : Nat} (l : List UInt8) (w : World) (h : PC B b l w) (hB : B <= w.heap.size) (hlen : l.length + (aC d (jR)).length <= 100000000) :
  aI B b l (aC d (jR)) w 185 #[.pointer (some ⟨b, 0, none⟩), .agg #[.int .i64 9, .int .i64 at_, .string name, .pointer tq, .pointer vq, .slice no nn nc, .slice eo en ec, .slice co cn cc], .int .i64 (d : Nat)] := by
 unfold aI
 have hb := aG w #[.int .i64 9, .int .i64 at_, .string name, .pointer tq, .pointer vq, .slice no nn nc, .slice eo en ec, .slice co cn cc] 71
 have hcat : bU [mkT jR] = jR := List.append_nil _
 have HL2 := zz (bC B b d l [mkT jR] (w.alloc (.cells #[.int .i64 9, .int .i64 at_, .string name, .pointer tq, .pointer vq, .slice no nn nc, .slice eo en ec, .slice co cn cc] 71)) (h.fresh hb) (Nat.le_trans hB hb.size) (by rw [hcat]; exact hlen) (by simp))
 rw [hcat, bO w] at HL2
 have HB2 := zz (hb.mono hB)
 have HO2 : Hid (Others b w (w.alloc (.cells #[.int .i64 9, .int .i64 at_, .string name, .pointer tq, .pointer vq, .slice no nn nc, .slice eo en ec, .slice co cn cc] 71))) := zz (Others.of_new hb)
 clear h hB hlen hb hcat
 go_enter Tryz.func185, Tryz.ntmps185
 go_wp2_with fail
 refine HL2.out.mono ?_
 rintro e w3 ⟨rfl, h3, hb3, ho3⟩
 have H3 := zz h3
 have HB3 := zz (HB2.out.trans hb3)
 have HO3 := zz (HO2.out.trans ho3)
 clear h3 hb3 ho3
 go_wp2_with fail
 try simp only [Exit.inBlock, Exit.then]
 go_end0
 exact ⟨rfl, H3.out, HB3.out, HO3.out⟩
theorem rU {B b d : Nat} {at_ : Int} {name : ByteArray} {tq vq no eo co : Option Addr} {nn nc en ec cn cc : Nat} (l : List UInt8) (w : World) (h : PC B b l w) (hB : B <= w.heap.size) (hlen : l.length + (aC d (dW)).length <= 100000000) :
  aI B b l (aC d (dW)) w 185 #[.pointer (some ⟨b, 0, none⟩), .agg #[.int .i64 10, .int .i64 at_, .string name, .pointer tq, .pointer vq, .slice no nn nc, .slice eo en ec, .slice co cn cc], .int .i64 (d : Nat)] := by
 unfold aI
 have hb := aG w #[.int .i64 10, .int .i64 at_, .string name, .pointer tq, .pointer vq, .slice no nn nc, .slice eo en ec, .slice co cn cc] 71
 have hcat : bU [mkT dW] = dW := List.append_nil _
 have HL2 := zz (bC B b d l [mkT dW] (w.alloc (.cells #[.int .i64 10, .int .i64 at_, .string name, .pointer tq, .pointer vq, .slice no nn nc, .slice eo en ec, .slice co cn cc] 71)) (h.fresh hb) (Nat.le_trans hB hb.size) (by rw [hcat]; exact hlen) (by simp))
 rw [hcat, bO w] at HL2
 have HB2 := zz (hb.mono hB)
 have HO2 : Hid (Others b w (w.alloc (.cells #[.int .i64 10, .int .i64 at_, .string name, .pointer tq, .pointer vq, .slice no nn nc, .slice eo en ec, .slice co cn cc] 71))) := zz (Others.of_new hb)
 clear h hB hlen hb hcat
 go_enter Tryz.func185, Tryz.ntmps185
 go_wp2_with fail
 refine HL2.out.mono ?_
 rintro e w3 ⟨rfl, h3, hb3, ho3⟩
 have H3 := zz h3
 have HB3 := zz (HB2.out.trans hb3)
 have HO3 := zz (HO2.out.trans ho3)
 clear h3 hb3 ho3
 go_wp2_with fail
 try simp only [Exit.inBlock, Exit.then]
 go_end0
 exact ⟨rfl, H3.out, HB3.out, HO3.out⟩
theorem zM {B b d : Nat} {at_ : Int} {name : ByteArray} {tq vq no eo co : Option Addr} {nn nc en ec cn cc : Nat} {val : Ex} (l : List UInt8) (w : World) (h : PC B b l w) (hB : B <= w.heap.size) (hP : PEnv B w) (hok : bB val) (hV : ExIn w (fun k => k < B) (.pointer vq) val) (hlen : l.length + (aC d (fR ++ (exV 1 val ++ cRp))).length <= 100000000) :
  aI B b l (aC d (fR ++ (exV 1 val ++ cRp))) w 185 #[.pointer (some ⟨b, 0, none⟩), .agg #[.int .i64 4, .int .i64 at_, .string name, .pointer tq, .pointer vq, .slice no nn nc, .slice eo en ec, .slice co cn cc], .int .i64 (d : Nat)] := by
 unfold aI
 have hb := aG w #[.int .i64 4, .int .i64 at_, .string name, .pointer tq, .pointer vq, .slice no nn nc, .slice eo en ec, .slice co cn cc] 71
 have hcat : bU [mkT fR, mkT (exV 1 val), mkT cRp] = fR ++ (exV 1 val ++ cRp) := by show fR ++ (exV 1 val ++ (cRp ++ [])) = _; rw [List.append_nil]
 have hl0 := hlen
 rw [aD, List.length_append, List.length_append] at hlen
 have HT := zz (eS val hok (w.alloc (.cells #[.int .i64 4, .int .i64 at_, .string name, .pointer tq, .pointer vq, .slice no nn nc, .slice eo en ec, .slice co cn cc] 71)) (.pointer vq) (Nat.le_trans hB hb.size) (hP.below (hb.mono hB)) (hV.below (hb.mono hB)) (by omega))
 have HL : Hid (∀ w2, Below (w.alloc (.cells #[.int .i64 4, .int .i64 at_, .string name, .pointer tq, .pointer vq, .slice no nn nc, .slice eo en ec, .slice co cn cc] 71)).heap.size (w.alloc (.cells #[.int .i64 4, .int .i64 at_, .string name, .pointer tq, .pointer vq, .slice no nn nc, .slice eo en ec, .slice co cn cc] 71)) w2 -> Calls Tryz.prog 77 #[.pointer (some ⟨b, 0, none⟩), .int .i64 (d : Nat), .slice (some ⟨w2.heap.size, 0, none⟩) [mkT fR, mkT (exV 1 val), mkT cRp].length [mkT fR, mkT (exV 1 val), mkT cRp].length] (w2.alloc (.cells ([mkT fR, mkT (exV 1 val), mkT cRp].map Value.string).toArray 9)) fun e w' => e = .returned (.tuple #[]) /\ PC B b (l ++ aC d (fR ++ (exV 1 val ++ cRp))) w' /\ Below B w2 w' /\ Others b w2 w') := zz fun w2 hb2 => by
  have := bC B b d l [mkT fR, mkT (exV 1 val), mkT cRp] w2 ((h.fresh hb).fresh hb2) (Nat.le_trans hB (Nat.le_trans hb.size hb2.size)) (by rw [hcat]; exact hl0) (by simp)
  rw [hcat] at this
  exact this
 have HBW := zz (hb.mono hB)
 have HSZ : Hid (B <= (w.alloc (.cells #[.int .i64 4, .int .i64 at_, .string name, .pointer tq, .pointer vq, .slice no nn nc, .slice eo en ec, .slice co cn cc] 71)).heap.size) := zz (Nat.le_trans hB hb.size)
 have HO1 : Hid (Others b w (w.alloc (.cells #[.int .i64 4, .int .i64 at_, .string name, .pointer tq, .pointer vq, .slice no nn nc, .slice eo en ec, .slice co cn cc] 71))) := zz (Others.of_new hb)
 clear h hB hP hV hlen hl0 hb hcat hok
 go_enter Tryz.func185, Tryz.ntmps185
 go_wp2_with fail
 refine HT.out.mono ?_
 rintro e w2 ⟨rfl, hb2⟩
 have HL2 := zz (HL.out w2 hb2)
 have HB2 := zz (HBW.out.trans (hb2.mono HSZ.out))
 have HO2 : Hid (Others b w w2) := zz (HO1.out.trans (Others.of_new hb2))
 clear hb2
 go_wp2_with fail
 refine HL2.out.mono ?_
 rintro e w3 ⟨rfl, h3, hb3, ho3⟩
 have H3 := zz h3
 have HB3 := zz (HB2.out.trans hb3)
 have HO3 := zz (HO2.out.trans ho3)
 clear h3 hb3 ho3
 go_wp2_with fail
 try simp only [Exit.inBlock, Exit.then]
 go_end0
 exact ⟨rfl, H3.out, HB3.out, HO3.out⟩
theorem zN {B b d : Nat} {at_ : Int} {name : ByteArray} {tq vq no eo co : Option Addr} {nn nc en ec cn cc : Nat} {val : Ex} (l : List UInt8) (w : World) (h : PC B b l w) (hB : B <= w.heap.size) (hP : PEnv B w) (hok : bB val) (hV : ExIn w (fun k => k < B) (.pointer vq) val) (hlen : l.length + (aC d (fS ++ exV 1 val)).length <= 100000000) :
  aI B b l (aC d (fS ++ exV 1 val)) w 185 #[.pointer (some ⟨b, 0, none⟩), .agg #[.int .i64 5, .int .i64 at_, .string name, .pointer tq, .pointer vq, .slice no nn nc, .slice eo en ec, .slice co cn cc], .int .i64 (d : Nat)] := by
 unfold aI
 have hb := aG w #[.int .i64 5, .int .i64 at_, .string name, .pointer tq, .pointer vq, .slice no nn nc, .slice eo en ec, .slice co cn cc] 71
 have hcat : bU [mkT fS, mkT (exV 1 val)] = fS ++ exV 1 val := by show fS ++ (exV 1 val ++ []) = _; rw [List.append_nil]
 have hl0 := hlen
 rw [aD, List.length_append] at hlen
 have HT := zz (eS val hok (w.alloc (.cells #[.int .i64 5, .int .i64 at_, .string name, .pointer tq, .pointer vq, .slice no nn nc, .slice eo en ec, .slice co cn cc] 71)) (.pointer vq) (Nat.le_trans hB hb.size) (hP.below (hb.mono hB)) (hV.below (hb.mono hB)) (by omega))
 have HL : Hid (∀ w2, Below (w.alloc (.cells #[.int .i64 5, .int .i64 at_, .string name, .pointer tq, .pointer vq, .slice no nn nc, .slice eo en ec, .slice co cn cc] 71)).heap.size (w.alloc (.cells #[.int .i64 5, .int .i64 at_, .string name, .pointer tq, .pointer vq, .slice no nn nc, .slice eo en ec, .slice co cn cc] 71)) w2 -> Calls Tryz.prog 77 #[.pointer (some ⟨b, 0, none⟩), .int .i64 (d : Nat), .slice (some ⟨w2.heap.size, 0, none⟩) [mkT fS, mkT (exV 1 val)].length [mkT fS, mkT (exV 1 val)].length] (w2.alloc (.cells ([mkT fS, mkT (exV 1 val)].map Value.string).toArray 9)) fun e w' => e = .returned (.tuple #[]) /\ PC B b (l ++ aC d (fS ++ exV 1 val)) w' /\ Below B w2 w' /\ Others b w2 w') := zz fun w2 hb2 => by
  have := bC B b d l [mkT fS, mkT (exV 1 val)] w2 ((h.fresh hb).fresh hb2) (Nat.le_trans hB (Nat.le_trans hb.size hb2.size)) (by rw [hcat]; exact hl0) (by simp)
  rw [hcat] at this
  exact this
 have HBW := zz (hb.mono hB)
 have HSZ : Hid (B <= (w.alloc (.cells #[.int .i64 5, .int .i64 at_, .string name, .pointer tq, .pointer vq, .slice no nn nc, .slice eo en ec, .slice co cn cc] 71)).heap.size) := zz (Nat.le_trans hB hb.size)
 have HO1 : Hid (Others b w (w.alloc (.cells #[.int .i64 5, .int .i64 at_, .string name, .pointer tq, .pointer vq, .slice no nn nc, .slice eo en ec, .slice co cn cc] 71))) := zz (Others.of_new hb)
 clear h hB hP hV hlen hl0 hb hcat hok
 go_enter Tryz.func185, Tryz.ntmps185
 go_wp2_with fail
 refine HT.out.mono ?_
 rintro e w2 ⟨rfl, hb2⟩
 have HL2 := zz (HL.out w2 hb2)
 have HB2 := zz (HBW.out.trans (hb2.mono HSZ.out))
 have HO2 : Hid (Others b w w2) := zz (HO1.out.trans (Others.of_new hb2))
 clear hb2
 go_wp2_with fail
 refine HL2.out.mono ?_
 rintro e w3 ⟨rfl, h3, hb3, ho3⟩
 have H3 := zz h3
 have HB3 := zz (HB2.out.trans hb3)
 have HO3 := zz (HO2.out.trans ho3)
 clear h3 hb3 ho3
 go_wp2_with fail
 try simp only [Exit.inBlock, Exit.then]
 go_end0
 exact ⟨rfl, H3.out, HB3.out, HO3.out⟩
theorem zO {B b d : Nat} {at_ : Int} {name : ByteArray} {tq vq no eo co : Option Addr} {nn nc en ec cn cc : Nat} {val : Ex} (l : List UInt8) (w : World) (h : PC B b l w) (hB : B <= w.heap.size) (hP : PEnv B w) (hok : bB val) (hV : ExIn w (fun k => k < B) (.pointer vq) val) (hlen : l.length + (aC d (fT ++ exV 1 val)).length <= 100000000) :
  aI B b l (aC d (fT ++ exV 1 val)) w 185 #[.pointer (some ⟨b, 0, none⟩), .agg #[.int .i64 6, .int .i64 at_, .string name, .pointer tq, .pointer vq, .slice no nn nc, .slice eo en ec, .slice co cn cc], .int .i64 (d : Nat)] := by
 unfold aI
 have hb := aG w #[.int .i64 6, .int .i64 at_, .string name, .pointer tq, .pointer vq, .slice no nn nc, .slice eo en ec, .slice co cn cc] 71
 have hcat : bU [mkT fT, mkT (exV 1 val)] = fT ++ exV 1 val := by show fT ++ (exV 1 val ++ []) = _; rw [List.append_nil]
 have hl0 := hlen
 rw [aD, List.length_append] at hlen
 have HT := zz (eS val hok (w.alloc (.cells #[.int .i64 6, .int .i64 at_, .string name, .pointer tq, .pointer vq, .slice no nn nc, .slice eo en ec, .slice co cn cc] 71)) (.pointer vq) (Nat.le_trans hB hb.size) (hP.below (hb.mono hB)) (hV.below (hb.mono hB)) (by omega))
 have HL : Hid (∀ w2, Below (w.alloc (.cells #[.int .i64 6, .int .i64 at_, .string name, .pointer tq, .pointer vq, .slice no nn nc, .slice eo en ec, .slice co cn cc] 71)).heap.size (w.alloc (.cells #[.int .i64 6, .int .i64 at_, .string name, .pointer tq, .pointer vq, .slice no nn nc, .slice eo en ec, .slice co cn cc] 71)) w2 -> Calls Tryz.prog 77 #[.pointer (some ⟨b, 0, none⟩), .int .i64 (d : Nat), .slice (some ⟨w2.heap.size, 0, none⟩) [mkT fT, mkT (exV 1 val)].length [mkT fT, mkT (exV 1 val)].length] (w2.alloc (.cells ([mkT fT, mkT (exV 1 val)].map Value.string).toArray 9)) fun e w' => e = .returned (.tuple #[]) /\ PC B b (l ++ aC d (fT ++ exV 1 val)) w' /\ Below B w2 w' /\ Others b w2 w') := zz fun w2 hb2 => by
  have := bC B b d l [mkT fT, mkT (exV 1 val)] w2 ((h.fresh hb).fresh hb2) (Nat.le_trans hB (Nat.le_trans hb.size hb2.size)) (by rw [hcat]; exact hl0) (by simp)
  rw [hcat] at this
  exact this
 have HBW := zz (hb.mono hB)
 have HSZ : Hid (B <= (w.alloc (.cells #[.int .i64 6, .int .i64 at_, .string name, .pointer tq, .pointer vq, .slice no nn nc, .slice eo en ec, .slice co cn cc] 71)).heap.size) := zz (Nat.le_trans hB hb.size)
 have HO1 : Hid (Others b w (w.alloc (.cells #[.int .i64 6, .int .i64 at_, .string name, .pointer tq, .pointer vq, .slice no nn nc, .slice eo en ec, .slice co cn cc] 71))) := zz (Others.of_new hb)
 clear h hB hP hV hlen hl0 hb hcat hok
 go_enter Tryz.func185, Tryz.ntmps185
 go_wp2_with fail
 refine HT.out.mono ?_
 rintro e w2 ⟨rfl, hb2⟩
 have HL2 := zz (HL.out w2 hb2)
 have HB2 := zz (HBW.out.trans (hb2.mono HSZ.out))
 have HO2 : Hid (Others b w w2) := zz (HO1.out.trans (Others.of_new hb2))
 clear hb2
 go_wp2_with fail
 refine HL2.out.mono ?_
 rintro e w3 ⟨rfl, h3, hb3, ho3⟩
 have H3 := zz h3
 have HB3 := zz (HB2.out.trans hb3)
 have HO3 := zz (HO2.out.trans ho3)
 clear h3 hb3 ho3
 go_wp2_with fail
 try simp only [Exit.inBlock, Exit.then]
 go_end0
 exact ⟨rfl, H3.out, HB3.out, HO3.out⟩
theorem JC {B b d : Nat} {at_ : Int} {name : ByteArray} {tq vq no eo co : Option Addr} {nn nc en ec cn cc : Nat} {val : Ex} (l : List UInt8) (w : World) (h : PC B b l w) (hB : B <= w.heap.size) (hP : PEnv B w) (hok : bB val) (hV : ExIn w (fun k => k < B) (.pointer vq) val) (hlen : l.length + (aC d (cGo ++ exV 1 val)).length <= 100000000) :
  aI B b l (aC d (cGo ++ exV 1 val)) w 185 #[.pointer (some ⟨b, 0, none⟩), .agg #[.int .i64 7, .int .i64 at_, .string name, .pointer tq, .pointer vq, .slice no nn nc, .slice eo en ec, .slice co cn cc], .int .i64 (d : Nat)] := by
 unfold aI
 have hb := aG w #[.int .i64 7, .int .i64 at_, .string name, .pointer tq, .pointer vq, .slice no nn nc, .slice eo en ec, .slice co cn cc] 71
 have hcat : bU [mkT cGo, mkT (exV 1 val)] = cGo ++ exV 1 val := by show cGo ++ (exV 1 val ++ []) = _; rw [List.append_nil]
 have hl0 := hlen
 rw [aD, List.length_append] at hlen
 have HT := zz (eS val hok (w.alloc (.cells #[.int .i64 7, .int .i64 at_, .string name, .pointer tq, .pointer vq, .slice no nn nc, .slice eo en ec, .slice co cn cc] 71)) (.pointer vq) (Nat.le_trans hB hb.size) (hP.below (hb.mono hB)) (hV.below (hb.mono hB)) (by omega))
 have HL : Hid (∀ w2, Below (w.alloc (.cells #[.int .i64 7, .int .i64 at_, .string name, .pointer tq, .pointer vq, .slice no nn nc, .slice eo en ec, .slice co cn cc] 71)).heap.size (w.alloc (.cells #[.int .i64 7, .int .i64 at_, .string name, .pointer tq, .pointer vq, .slice no nn nc, .slice eo en ec, .slice co cn cc] 71)) w2 -> Calls Tryz.prog 77 #[.pointer (some ⟨b, 0, none⟩), .int .i64 (d : Nat), .slice (some ⟨w2.heap.size, 0, none⟩) [mkT cGo, mkT (exV 1 val)].length [mkT cGo, mkT (exV 1 val)].length] (w2.alloc (.cells ([mkT cGo, mkT (exV 1 val)].map Value.string).toArray 9)) fun e w' => e = .returned (.tuple #[]) /\ PC B b (l ++ aC d (cGo ++ exV 1 val)) w' /\ Below B w2 w' /\ Others b w2 w') := zz fun w2 hb2 => by
  have := bC B b d l [mkT cGo, mkT (exV 1 val)] w2 ((h.fresh hb).fresh hb2) (Nat.le_trans hB (Nat.le_trans hb.size hb2.size)) (by rw [hcat]; exact hl0) (by simp)
  rw [hcat] at this
  exact this
 have HBW := zz (hb.mono hB)
 have HSZ : Hid (B <= (w.alloc (.cells #[.int .i64 7, .int .i64 at_, .string name, .pointer tq, .pointer vq, .slice no nn nc, .slice eo en ec, .slice co cn cc] 71)).heap.size) := zz (Nat.le_trans hB hb.size)
 have HO1 : Hid (Others b w (w.alloc (.cells #[.int .i64 7, .int .i64 at_, .string name, .pointer tq, .pointer vq, .slice no nn nc, .slice eo en ec, .slice co cn cc] 71))) := zz (Others.of_new hb)
 clear h hB hP hV hlen hl0 hb hcat hok
 go_enter Tryz.func185, Tryz.ntmps185
 go_wp2_with fail
 refine HT.out.mono ?_
 rintro e w2 ⟨rfl, hb2⟩
 have HL2 := zz (HL.out w2 hb2)
 have HB2 := zz (HBW.out.trans (hb2.mono HSZ.out))
 have HO2 : Hid (Others b w w2) := zz (HO1.out.trans (Others.of_new hb2))
 clear hb2
 go_wp2_with fail
 refine HL2.out.mono ?_
 rintro e w3 ⟨rfl, h3, hb3, ho3⟩
 have H3 := zz h3
 have HB3 := zz (HB2.out.trans hb3)
 have HO3 := zz (HO2.out.trans ho3)
 clear h3 hb3 ho3
 go_wp2_with fail
 try simp only [Exit.inBlock, Exit.then]
 go_end0
 exact ⟨rfl, H3.out, HB3.out, HO3.out⟩
theorem JD {B b d : Nat} {at_ : Int} {name : ByteArray} {tq vq no eo co : Option Addr} {nn nc en ec cn cc : Nat} {val : Ex} (l : List UInt8) (w : World) (h : PC B b l w) (hB : B <= w.heap.size) (hP : PEnv B w) (hok : bB val) (hV : ExIn w (fun k => k < B) (.pointer vq) val) (hlen : l.length + (aC d (exV 1 val)).length <= 100000000) :
  aI B b l (aC d (exV 1 val)) w 185 #[.pointer (some ⟨b, 0, none⟩), .agg #[.int .i64 11, .int .i64 at_, .string name, .pointer tq, .pointer vq, .slice no nn nc, .slice eo en ec, .slice co cn cc], .int .i64 (d : Nat)] := by
 unfold aI
 have hb := aG w #[.int .i64 11, .int .i64 at_, .string name, .pointer tq, .pointer vq, .slice no nn nc, .slice eo en ec, .slice co cn cc] 71
 have hcat : bU [mkT (exV 1 val)] = exV 1 val := by show exV 1 val ++ [] = _; rw [List.append_nil]
 have hl0 := hlen
 rw [aD] at hlen
 have HT := zz (eS val hok (w.alloc (.cells #[.int .i64 11, .int .i64 at_, .string name, .pointer tq, .pointer vq, .slice no nn nc, .slice eo en ec, .slice co cn cc] 71)) (.pointer vq) (Nat.le_trans hB hb.size) (hP.below (hb.mono hB)) (hV.below (hb.mono hB)) (by omega))
 have HL : Hid (∀ w2, Below (w.alloc (.cells #[.int .i64 11, .int .i64 at_, .string name, .pointer tq, .pointer vq, .slice no nn nc, .slice eo en ec, .slice co cn cc] 71)).heap.size (w.alloc (.cells #[.int .i64 11, .int .i64 at_, .string name, .pointer tq, .pointer vq, .slice no nn nc, .slice eo en ec, .slice co cn cc] 71)) w2 -> Calls Tryz.prog 77 #[.pointer (some ⟨b, 0, none⟩), .int .i64 (d : Nat), .slice (some ⟨w2.heap.size, 0, none⟩) [mkT (exV 1 val)].length [mkT (exV 1 val)].length] (w2.alloc (.cells ([mkT (exV 1 val)].map Value.string).toArray 9)) fun e w' => e = .returned (.tuple #[]) /\ PC B b (l ++ aC d (exV 1 val)) w' /\ Below B w2 w' /\ Others b w2 w') := zz fun w2 hb2 => by
  have := bC B b d l [mkT (exV 1 val)] w2 ((h.fresh hb).fresh hb2) (Nat.le_trans hB (Nat.le_trans hb.size hb2.size)) (by rw [hcat]; exact hl0) (by simp)
  rw [hcat] at this
  exact this
 have HBW := zz (hb.mono hB)
 have HSZ : Hid (B <= (w.alloc (.cells #[.int .i64 11, .int .i64 at_, .string name, .pointer tq, .pointer vq, .slice no nn nc, .slice eo en ec, .slice co cn cc] 71)).heap.size) := zz (Nat.le_trans hB hb.size)
 have HO1 : Hid (Others b w (w.alloc (.cells #[.int .i64 11, .int .i64 at_, .string name, .pointer tq, .pointer vq, .slice no nn nc, .slice eo en ec, .slice co cn cc] 71))) := zz (Others.of_new hb)
 clear h hB hP hV hlen hl0 hb hcat hok
 go_enter Tryz.func185, Tryz.ntmps185
 go_wp2_with fail
 refine HT.out.mono ?_
 rintro e w2 ⟨rfl, hb2⟩
 have HL2 := zz (HL.out w2 hb2)
 have HB2 := zz (HBW.out.trans (hb2.mono HSZ.out))
 have HO2 : Hid (Others b w w2) := zz (HO1.out.trans (Others.of_new hb2))
 clear hb2
 go_wp2_with fail
 refine HL2.out.mono ?_
 rintro e w3 ⟨rfl, h3, hb3, ho3⟩
 have H3 := zz h3
 have HB3 := zz (HB2.out.trans hb3)
 have HO3 := zz (HO2.out.trans ho3)
 clear h3 hb3 ho3
 go_wp2_with fail
 try simp only [Exit.inBlock, Exit.then]
 go_end0
 exact ⟨rfl, H3.out, HB3.out, HO3.out⟩
theorem DZ {B b d : Nat} {at_ : Int} {name : ByteArray} {tq vq no eo co : Option Addr} {nn nc en ec cn cc : Nat} {dst val : Ex} (l : List UInt8) (w : World) (h : PC B b l w) (hB : B <= w.heap.size) (hP : PEnv B w) (hokd : bB dst) (hok : bB val) (hD : ExIn w (fun k => k < B) (.pointer tq) dst) (hV : ExIn w (fun k => k < B) (.pointer vq) val) (hlen : l.length + (aC d (cY dst val)).length <= 100000000) :
  aI B b l (aC d (cY dst val)) w 185 #[.pointer (some ⟨b, 0, none⟩), .agg #[.int .i64 3, .int .i64 at_, .string name, .pointer tq, .pointer vq, .slice no nn nc, .slice eo en ec, .slice co cn cc], .int .i64 (d : Nat)] := by
 unfold aI
 have hb := aG w #[.int .i64 3, .int .i64 at_, .string name, .pointer tq, .pointer vq, .slice no nn nc, .slice eo en ec, .slice co cn cc] 71
 have hcat : bU [mkT (cY dst val)] = cY dst val := by show cY dst val ++ [] = _; rw [List.append_nil]
 have hl0 := hlen
 rw [aD] at hlen
 have HT := zz (BG dst val hokd hok (w.alloc (.cells #[.int .i64 3, .int .i64 at_, .string name, .pointer tq, .pointer vq, .slice no nn nc, .slice eo en ec, .slice co cn cc] 71)) (.pointer tq) (.pointer vq) (Nat.le_trans hB hb.size) (hP.below (hb.mono hB)) (hD.below (hb.mono hB)) (hV.below (hb.mono hB)) (by omega))
 have HL : Hid (∀ w2, Below (w.alloc (.cells #[.int .i64 3, .int .i64 at_, .string name, .pointer tq, .pointer vq, .slice no nn nc, .slice eo en ec, .slice co cn cc] 71)).heap.size (w.alloc (.cells #[.int .i64 3, .int .i64 at_, .string name, .pointer tq, .pointer vq, .slice no nn nc, .slice eo en ec, .slice co cn cc] 71)) w2 -> Calls Tryz.prog 77 #[.pointer (some ⟨b, 0, none⟩), .int .i64 (d : Nat), .slice (some ⟨w2.heap.size, 0, none⟩) [mkT (cY dst val)].length [mkT (cY dst val)].length] (w2.alloc (.cells ([mkT (cY dst val)].map Value.string).toArray 9)) fun e w' => e = .returned (.tuple #[]) /\ PC B b (l ++ aC d (cY dst val)) w' /\ Below B w2 w' /\ Others b w2 w') := zz fun w2 hb2 => by
  have := bC B b d l [mkT (cY dst val)] w2 ((h.fresh hb).fresh hb2) (Nat.le_trans hB (Nat.le_trans hb.size hb2.size)) (by rw [hcat]; exact hl0) (by simp)
  rw [hcat] at this
  exact this
 have HBW := zz (hb.mono hB)
 have HSZ : Hid (B <= (w.alloc (.cells #[.int .i64 3, .int .i64 at_, .string name, .pointer tq, .pointer vq, .slice no nn nc, .slice eo en ec, .slice co cn cc] 71)).heap.size) := zz (Nat.le_trans hB hb.size)
 have HO1 : Hid (Others b w (w.alloc (.cells #[.int .i64 3, .int .i64 at_, .string name, .pointer tq, .pointer vq, .slice no nn nc, .slice eo en ec, .slice co cn cc] 71))) := zz (Others.of_new hb)
 clear h hB hP hV hD hlen hl0 hb hcat hok hokd
 go_enter Tryz.func185, Tryz.ntmps185
 go_wp2_with fail
 refine HT.out.mono ?_
 rintro e w2 ⟨rfl, hb2⟩
 have HL2 := zz (HL.out w2 hb2)
 have HB2 := zz (HBW.out.trans (hb2.mono HSZ.out))
 have HO2 : Hid (Others b w w2) := zz (HO1.out.trans (Others.of_new hb2))
 clear hb2
 go_wp2_with fail
 refine HL2.out.mono ?_
 rintro e w3 ⟨rfl, h3, hb3, ho3⟩
 have H3 := zz h3
 have HB3 := zz (HB2.out.trans hb3)
 have HO3 := zz (HO2.out.trans ho3)
 clear h3 hb3 ho3
 go_wp2_with fail
 try simp only [Exit.inBlock, Exit.then]
 go_end0
 exact ⟨rfl, H3.out, HB3.out, HO3.out⟩
theorem F8 {B b d : Nat} {at_ : Int} {tq vq no eo co : Option Addr} {nn nc en ec cn cc : Nat} {name : Lx.B} {val : Ex} (l : List UInt8) (w : World) (h : PC B b l w) (hB : B <= w.heap.size) (hP : PEnv B w) (hok : bB val) (hV : ExIn w (fun k => k < B) (.pointer vq) val) (hlen : l.length + (aC d (name ++ (mW ++ exV 1 val))).length <= 100000000) :
  aI B b l (aC d (name ++ (mW ++ exV 1 val))) w 185 #[.pointer (some ⟨b, 0, none⟩), .agg #[.int .i64 1, .int .i64 at_, .string (mkT name), .pointer tq, .pointer vq, .slice no nn nc, .slice eo en ec, .slice co cn cc], .int .i64 (d : Nat)] := by
 unfold aI
 have hbw := aG w #[.int .i64 1, .int .i64 at_, .string (mkT name), .pointer tq, .pointer vq, .slice no nn nc, .slice eo en ec, .slice co cn cc] 71
 have hb : Below w.heap.size w (w.alloc (.cells #[.int .i64 1, .int .i64 at_, .string (mkT name), .pointer tq, .pointer vq, .slice no nn nc, .slice eo en ec, .slice co cn cc] 71)).drew := hbw.trans (Below.drew (Below.refl _ _))
 have hcat : bU [mkT name, mkT mW, mkT (exV 1 val)] = name ++ (mW ++ exV 1 val) := by show name ++ (mW ++ (exV 1 val ++ [])) = _; rw [List.append_nil]
 have hl0 := hlen
 rw [aD, List.length_append, List.length_append] at hlen
 have HT := zz (eS val hok (w.alloc (.cells #[.int .i64 1, .int .i64 at_, .string (mkT name), .pointer tq, .pointer vq, .slice no nn nc, .slice eo en ec, .slice co cn cc] 71)).drew (.pointer vq) (Nat.le_trans hB hb.size) (hP.below (hb.mono hB)) (hV.below (hb.mono hB)) (by omega))
 have HL : Hid (∀ w2, Below (w.alloc (.cells #[.int .i64 1, .int .i64 at_, .string (mkT name), .pointer tq, .pointer vq, .slice no nn nc, .slice eo en ec, .slice co cn cc] 71)).drew.heap.size (w.alloc (.cells #[.int .i64 1, .int .i64 at_, .string (mkT name), .pointer tq, .pointer vq, .slice no nn nc, .slice eo en ec, .slice co cn cc] 71)).drew w2 -> Calls Tryz.prog 77 #[.pointer (some ⟨b, 0, none⟩), .int .i64 (d : Nat), .slice (some ⟨w2.heap.size, 0, none⟩) [mkT name, mkT mW, mkT (exV 1 val)].length [mkT name, mkT mW, mkT (exV 1 val)].length] (w2.alloc (.cells ([mkT name, mkT mW, mkT (exV 1 val)].map Value.string).toArray 9)) fun e w' => e = .returned (.tuple #[]) /\ PC B b (l ++ aC d (name ++ (mW ++ exV 1 val))) w' /\ Below B w2 w' /\ Others b w2 w') := zz fun w2 hb2 => by
  have := bC B b d l [mkT name, mkT mW, mkT (exV 1 val)] w2 ((h.fresh hb).fresh hb2) (Nat.le_trans hB (Nat.le_trans hb.size hb2.size)) (by rw [hcat]; exact hl0) (by simp)
  rw [hcat] at this
  exact this
 have hblt := h.1.lt
 have HBW := zz (hb.mono hB)
 have HSZ : Hid (B <= (w.alloc (.cells #[.int .i64 1, .int .i64 at_, .string (mkT name), .pointer tq, .pointer vq, .slice no nn nc, .slice eo en ec, .slice co cn cc] 71)).drew.heap.size) := zz (Nat.le_trans hB hb.size)
 have HO1 : Hid (Others b w (w.alloc (.cells #[.int .i64 1, .int .i64 at_, .string (mkT name), .pointer tq, .pointer vq, .slice no nn nc, .slice eo en ec, .slice co cn cc] 71)).drew) := zz (Others.of_new hb)
 have HLT : Hid (w.heap.size < (w.alloc (.cells #[.int .i64 1, .int .i64 at_, .string (mkT name), .pointer tq, .pointer vq, .slice no nn nc, .slice eo en ec, .slice co cn cc] 71)).drew.heap.size) := zz (by show w.heap.size < (w.alloc (.cells #[.int .i64 1, .int .i64 at_, .string (mkT name), .pointer tq, .pointer vq, .slice no nn nc, .slice eo en ec, .slice co cn cc] 71)).heap.size; rw [bO]; exact Nat.lt_succ_self _)
 have HNE : Hid (w.heap.size ≠ b) := zz (by omega)
 have HH : Hid ((w.alloc (.cells #[.int .i64 1, .int .i64 at_, .string (mkT name), .pointer tq, .pointer vq, .slice no nn nc, .slice eo en ec, .slice co cn cc] 71)).drew.heap[w.heap.size]? = some (Obj.cells #[.int .i64 1, .int .i64 at_, .string (mkT name), .pointer tq, .pointer vq, .slice no nn nc, .slice eo en ec, .slice co cn cc] 71 (0, 0))) := zz (heap_alloc_new w _)
 have HCL : Hid (∀ V : World, V.heap[w.heap.size]? = some (Obj.cells #[.int .i64 1, .int .i64 at_, .string (mkT name), .pointer tq, .pointer vq, .slice no nn nc, .slice eo en ec, .slice co cn cc] 71 (0, 0)) -> V.cell? ⟨w.heap.size, 2, none⟩ = some (.string (mkT name)) /\ V.cell? ⟨w.heap.size, 4, none⟩ = some (.pointer vq)) := zz fun V hV => ⟨by rw [Lib.cell_of_heap hV]; rfl, by rw [Lib.cell_of_heap hV]; rfl⟩
 clear h hB hP hV hlen hl0 hb hbw hcat hok hblt
 go_enter Tryz.func185, Tryz.ntmps185
 go_wp2_with fail
 refine wp_region_held_drew (S := (fun W' : World => W'.cell? ⟨w.heap.size, 2, none⟩ = some (.string (mkT name)) /\ W'.cell? ⟨w.heap.size, 4, none⟩ = some (.pointer vq))) (by kernel_rfl) (HCL.out _ HH.out) (fun hHeld => ?_)
 refine tk 0 10 (.pointer (some ⟨b, 0, none⟩)) rfl (.inl ⟨by rfl, ?_⟩) hHeld ?_
 ·intro W9 hSW; (try dsimp only at hSW); go_simp
 try simp only [Act.put, sA, sB, sC]
 refine tk 1 11 (.int .i64 (d : Nat)) rfl (.inl ⟨by rfl, ?_⟩) hHeld ?_
 ·intro W9 hSW; (try dsimp only at hSW); go_simp
 try simp only [Act.put, sA, sB, sC]
 refine tk 2 12 (.pointer (some ⟨w.heap.size, 2, none⟩)) rfl (.inl ⟨by rfl, ?_⟩) hHeld ?_
 ·intro W9 hSW; (try dsimp only at hSW); go_simp
 try simp only [Act.put, sA, sB, sC]
 refine tk 3 13 (.string (mkT name)) rfl (.inl ⟨by rfl, ?_⟩) hHeld ?_
 ·intro W9 hSW; (try dsimp only at hSW); go_simp
 try simp only [Act.put, sA, sB, sC]
 refine tk 4 14 (.pointer (some ⟨w.heap.size, 4, none⟩)) rfl (.inl ⟨by rfl, ?_⟩) hHeld ?_
 ·intro W9 hSW; (try dsimp only at hSW); go_simp
 try simp only [Act.put, sA, sB, sC]
 refine tk 5 15 (.pointer vq) rfl (.inl ⟨by rfl, ?_⟩) hHeld ?_
 ·intro W9 hSW; (try dsimp only at hSW); go_simp
 try simp only [Act.put, sA, sB, sC]
 refine ra 6 (some 16) rfl fun K hK => ?_
 go_simp
 go_at_call 37
 refine HT.out.mono ?_
 rintro e w2 ⟨rfl, hb2⟩
 have hh2 : w2.heap[w.heap.size]? = some (Obj.cells #[.int .i64 1, .int .i64 at_, .string (mkT name), .pointer tq, .pointer vq, .slice no nn nc, .slice eo en ec, .slice co cn cc] 71 (0, 0)) := by rw [hb2.block _ HLT.out]; exact HH.out
 have HL2 := zz (HL.out w2 hb2)
 have HB2 := zz (HBW.out.trans (hb2.mono HSZ.out))
 have HO2 : Hid (Others b w w2) := zz (HO1.out.trans (Others.of_new hb2))
 have HH2 := zz hh2
 have HLT2 : Hid (w.heap.size < w2.heap.size) := zz (Nat.lt_of_lt_of_le HLT.out hb2.size)
 clear hb2 hh2
 refine hK.out _ _ (HCL.out _ HH2.out) (fun hHeld => ?_)
 clear hK K
 refine ra 7 (some 17) rfl fun K hK => ?_
 go_simp
 refine hK.out _ _ (HCL.out _ (by rw [Below.heap_alloc _ _ _ HLT2.out]; exact HH2.out)) (fun hHeld => ?_)
 clear hK K
 refine ra 8 (some 18) rfl fun K hK => ?_
 go_simp
 go_at_call 77
 refine HL2.out.mono ?_
 rintro e w3 ⟨rfl, h3, hb3, ho3⟩
 have H3 := zz h3
 have HB3 := zz (HB2.out.trans hb3)
 have HO3 := zz (HO2.out.trans ho3)
 have HH3 := zz (ho3.heap HNE.out (by decide) HH2.out)
 clear h3 hb3 ho3
 refine hK.out _ _ (HCL.out _ HH3.out) (fun hHeld => ?_)
 clear hK K
 refine wpAnyH_done (by kernel_rfl) ?_ _
 go_wp2_with fail
 try simp only [Exit.inBlock, Exit.then]
 go_end0
 exact ⟨rfl, H3.out, HB3.out, HO3.out⟩
theorem F9 {B b d : Nat} {at_ : Int} {tq vq no eo co : Option Addr} {nn nc en ec cn cc : Nat} {name : Lx.B} {val : Ex} (l : List UInt8) (w : World) (h : PC B b l w) (hB : B <= w.heap.size) (hP : PEnv B w) (hok : bB val) (hV : ExIn w (fun k => k < B) (.pointer vq) val) (hlen : l.length + (aC d (name ++ (mX ++ exV 1 val))).length <= 100000000) :
  aI B b l (aC d (name ++ (mX ++ exV 1 val))) w 185 #[.pointer (some ⟨b, 0, none⟩), .agg #[.int .i64 2, .int .i64 at_, .string (mkT name), .pointer tq, .pointer vq, .slice no nn nc, .slice eo en ec, .slice co cn cc], .int .i64 (d : Nat)] := by
 unfold aI
 have hbw := aG w #[.int .i64 2, .int .i64 at_, .string (mkT name), .pointer tq, .pointer vq, .slice no nn nc, .slice eo en ec, .slice co cn cc] 71
 have hb : Below w.heap.size w (w.alloc (.cells #[.int .i64 2, .int .i64 at_, .string (mkT name), .pointer tq, .pointer vq, .slice no nn nc, .slice eo en ec, .slice co cn cc] 71)).drew := hbw.trans (Below.drew (Below.refl _ _))
 have hcat : bU [mkT name, mkT mX, mkT (exV 1 val)] = name ++ (mX ++ exV 1 val) := by show name ++ (mX ++ (exV 1 val ++ [])) = _; rw [List.append_nil]
 have hl0 := hlen
 rw [aD, List.length_append, List.length_append] at hlen
 have HT := zz (eS val hok (w.alloc (.cells #[.int .i64 2, .int .i64 at_, .string (mkT name), .pointer tq, .pointer vq, .slice no nn nc, .slice eo en ec, .slice co cn cc] 71)).drew (.pointer vq) (Nat.le_trans hB hb.size) (hP.below (hb.mono hB)) (hV.below (hb.mono hB)) (by omega))
 have HL : Hid (∀ w2, Below (w.alloc (.cells #[.int .i64 2, .int .i64 at_, .string (mkT name), .pointer tq, .pointer vq, .slice no nn nc, .slice eo en ec, .slice co cn cc] 71)).drew.heap.size (w.alloc (.cells #[.int .i64 2, .int .i64 at_, .string (mkT name), .pointer tq, .pointer vq, .slice no nn nc, .slice eo en ec, .slice co cn cc] 71)).drew w2 -> Calls Tryz.prog 77 #[.pointer (some ⟨b, 0, none⟩), .int .i64 (d : Nat), .slice (some ⟨w2.heap.size, 0, none⟩) [mkT name, mkT mX, mkT (exV 1 val)].length [mkT name, mkT mX, mkT (exV 1 val)].length] (w2.alloc (.cells ([mkT name, mkT mX, mkT (exV 1 val)].map Value.string).toArray 9)) fun e w' => e = .returned (.tuple #[]) /\ PC B b (l ++ aC d (name ++ (mX ++ exV 1 val))) w' /\ Below B w2 w' /\ Others b w2 w') := zz fun w2 hb2 => by
  have := bC B b d l [mkT name, mkT mX, mkT (exV 1 val)] w2 ((h.fresh hb).fresh hb2) (Nat.le_trans hB (Nat.le_trans hb.size hb2.size)) (by rw [hcat]; exact hl0) (by simp)
  rw [hcat] at this
  exact this
 have hblt := h.1.lt
 have HBW := zz (hb.mono hB)
 have HSZ : Hid (B <= (w.alloc (.cells #[.int .i64 2, .int .i64 at_, .string (mkT name), .pointer tq, .pointer vq, .slice no nn nc, .slice eo en ec, .slice co cn cc] 71)).drew.heap.size) := zz (Nat.le_trans hB hb.size)
 have HO1 : Hid (Others b w (w.alloc (.cells #[.int .i64 2, .int .i64 at_, .string (mkT name), .pointer tq, .pointer vq, .slice no nn nc, .slice eo en ec, .slice co cn cc] 71)).drew) := zz (Others.of_new hb)
 have HLT : Hid (w.heap.size < (w.alloc (.cells #[.int .i64 2, .int .i64 at_, .string (mkT name), .pointer tq, .pointer vq, .slice no nn nc, .slice eo en ec, .slice co cn cc] 71)).drew.heap.size) := zz (by show w.heap.size < (w.alloc (.cells #[.int .i64 2, .int .i64 at_, .string (mkT name), .pointer tq, .pointer vq, .slice no nn nc, .slice eo en ec, .slice co cn cc] 71)).heap.size; rw [bO]; exact Nat.lt_succ_self _)
 have HNE : Hid (w.heap.size ≠ b) := zz (by omega)
 have HH : Hid ((w.alloc (.cells #[.int .i64 2, .int .i64 at_, .string (mkT name), .pointer tq, .pointer vq, .slice no nn nc, .slice eo en ec, .slice co cn cc] 71)).drew.heap[w.heap.size]? = some (Obj.cells #[.int .i64 2, .int .i64 at_, .string (mkT name), .pointer tq, .pointer vq, .slice no nn nc, .slice eo en ec, .slice co cn cc] 71 (0, 0))) := zz (heap_alloc_new w _)
 have HCL : Hid (∀ V : World, V.heap[w.heap.size]? = some (Obj.cells #[.int .i64 2, .int .i64 at_, .string (mkT name), .pointer tq, .pointer vq, .slice no nn nc, .slice eo en ec, .slice co cn cc] 71 (0, 0)) -> V.cell? ⟨w.heap.size, 2, none⟩ = some (.string (mkT name)) /\ V.cell? ⟨w.heap.size, 4, none⟩ = some (.pointer vq)) := zz fun V hV => ⟨by rw [Lib.cell_of_heap hV]; rfl, by rw [Lib.cell_of_heap hV]; rfl⟩
 clear h hB hP hV hlen hl0 hb hbw hcat hok hblt
 go_enter Tryz.func185, Tryz.ntmps185
 go_wp2_with fail
 refine wp_region_held_drew (S := (fun W' : World => W'.cell? ⟨w.heap.size, 2, none⟩ = some (.string (mkT name)) /\ W'.cell? ⟨w.heap.size, 4, none⟩ = some (.pointer vq))) (by kernel_rfl) (HCL.out _ HH.out) (fun hHeld => ?_)
 refine tk 0 21 (.pointer (some ⟨b, 0, none⟩)) rfl (.inl ⟨by rfl, ?_⟩) hHeld ?_
 ·intro W9 hSW; (try dsimp only at hSW); go_simp
 try simp only [Act.put, sA, sB, sC]
 refine tk 1 22 (.int .i64 (d : Nat)) rfl (.inl ⟨by rfl, ?_⟩) hHeld ?_
 ·intro W9 hSW; (try dsimp only at hSW); go_simp
 try simp only [Act.put, sA, sB, sC]
 refine tk 2 23 (.pointer (some ⟨w.heap.size, 2, none⟩)) rfl (.inl ⟨by rfl, ?_⟩) hHeld ?_
 ·intro W9 hSW; (try dsimp only at hSW); go_simp
 try simp only [Act.put, sA, sB, sC]
 refine tk 3 24 (.string (mkT name)) rfl (.inl ⟨by rfl, ?_⟩) hHeld ?_
 ·intro W9 hSW; (try dsimp only at hSW); go_simp
 try simp only [Act.put, sA, sB, sC]
 refine tk 4 25 (.pointer (some ⟨w.heap.size, 4, none⟩)) rfl (.inl ⟨by rfl, ?_⟩) hHeld ?_
 ·intro W9 hSW; (try dsimp only at hSW); go_simp
 try simp only [Act.put, sA, sB, sC]
 refine tk 5 26 (.pointer vq) rfl (.inl ⟨by rfl, ?_⟩) hHeld ?_
 ·intro W9 hSW; (try dsimp only at hSW); go_simp
 try simp only [Act.put, sA, sB, sC]
 refine ra 6 (some 27) rfl fun K hK => ?_
 go_simp
 go_at_call 37
 refine HT.out.mono ?_
 rintro e w2 ⟨rfl, hb2⟩
 have hh2 : w2.heap[w.heap.size]? = some (Obj.cells #[.int .i64 2, .int .i64 at_, .string (mkT name), .pointer tq, .pointer vq, .slice no nn nc, .slice eo en ec, .slice co cn cc] 71 (0, 0)) := by rw [hb2.block _ HLT.out]; exact HH.out
 have HL2 := zz (HL.out w2 hb2)
 have HB2 := zz (HBW.out.trans (hb2.mono HSZ.out))
 have HO2 : Hid (Others b w w2) := zz (HO1.out.trans (Others.of_new hb2))
 have HH2 := zz hh2
 have HLT2 : Hid (w.heap.size < w2.heap.size) := zz (Nat.lt_of_lt_of_le HLT.out hb2.size)
 clear hb2 hh2
 refine hK.out _ _ (HCL.out _ HH2.out) (fun hHeld => ?_)
 clear hK K
 refine ra 7 (some 28) rfl fun K hK => ?_
 go_simp
 refine hK.out _ _ (HCL.out _ (by rw [Below.heap_alloc _ _ _ HLT2.out]; exact HH2.out)) (fun hHeld => ?_)
 clear hK K
 refine ra 8 (some 29) rfl fun K hK => ?_
 go_simp
 go_at_call 77
 refine HL2.out.mono ?_
 rintro e w3 ⟨rfl, h3, hb3, ho3⟩
 have H3 := zz h3
 have HB3 := zz (HB2.out.trans hb3)
 have HO3 := zz (HO2.out.trans ho3)
 have HH3 := zz (ho3.heap HNE.out (by decide) HH2.out)
 clear h3 hb3 ho3
 refine hK.out _ _ (HCL.out _ HH3.out) (fun hHeld => ?_)
 clear hK K
 refine wpAnyH_done (by kernel_rfl) ?_ _
 go_wp2_with fail
 try simp only [Exit.inBlock, Exit.then]
 go_end0
 exact ⟨rfl, H3.out, HB3.out, HO3.out⟩
theorem D0 {B b d : Nat} {at_ : Int} {tq no eo co : Option Addr} {nn nc en ec cn cc : Nat} {name : ByteArray} (l : List UInt8) (w : World) (h : PC B b l w) (hB : B <= w.heap.size) (hlen : l.length + (aC d fC).length <= 100000000) :
  aI B b l (aC d fC) w 230 #[.pointer (some ⟨b, 0, none⟩), .agg #[.int .i64 8, .int .i64 at_, .string name, .pointer tq, .pointer none, .slice no nn nc, .slice eo en ec, .slice co cn cc], .int .i64 (d : Nat)] := by
 unfold aI
 have hb := aG w #[.int .i64 8, .int .i64 at_, .string name, .pointer tq, .pointer none, .slice no nn nc, .slice eo en ec, .slice co cn cc] 71
 have hcat : bU [mkT fC] = fC := List.append_nil _
 have HL2 := zz (bC B b d l [mkT fC] (w.alloc (.cells #[.int .i64 8, .int .i64 at_, .string name, .pointer tq, .pointer none, .slice no nn nc, .slice eo en ec, .slice co cn cc] 71)) (h.fresh hb) (Nat.le_trans hB hb.size) (by rw [hcat]; exact hlen) (by simp))
 rw [hcat, bO w] at HL2
 have HB2 := zz (hb.mono hB)
 have HO2 : Hid (Others b w (w.alloc (.cells #[.int .i64 8, .int .i64 at_, .string name, .pointer tq, .pointer none, .slice no nn nc, .slice eo en ec, .slice co cn cc] 71))) := zz (Others.of_new hb)
 clear h hB hlen hb hcat
 go_enter Tryz.func230, Tryz.ntmps230
 go_wp2_with fail
 refine HL2.out.mono ?_
 rintro e w3 ⟨rfl, h3, hb3, ho3⟩
 have H3 := zz h3
 have HB3 := zz (HB2.out.trans hb3)
 have HO3 := zz (HO2.out.trans ho3)
 clear h3 hb3 ho3
 go_wp2_with fail
 try simp only [Exit.inBlock, Exit.then]
 refine bodyPost_ret (results_none rfl _ _ _) rfl ?_
 exact ⟨rfl, H3.out, HB3.out, HO3.out⟩
theorem D1 {B b d : Nat} {at_ : Int} {tq no eo co : Option Addr} {nn nc en ec cn cc : Nat} {name : ByteArray} {val : Ex} {va : Addr} (l : List UInt8) (w : World) (h : PC B b l w) (hB : B <= w.heap.size) (hP : PEnv B w) (hok : bB val) (hV : ExIn w (fun k => k < B) (.pointer (some va)) val) (hlen : l.length + (aC d (d9 ++ exV 1 val)).length <= 100000000) :
  aI B b l (aC d (d9 ++ exV 1 val)) w 230 #[.pointer (some ⟨b, 0, none⟩), .agg #[.int .i64 8, .int .i64 at_, .string name, .pointer tq, .pointer (some va), .slice no nn nc, .slice eo en ec, .slice co cn cc], .int .i64 (d : Nat)] := by
 unfold aI
 have hb := aG w #[.int .i64 8, .int .i64 at_, .string name, .pointer tq, .pointer (some va), .slice no nn nc, .slice eo en ec, .slice co cn cc] 71
 have hcat : bU [mkT d9, mkT (exV 1 val)] = d9 ++ exV 1 val := by show d9 ++ (exV 1 val ++ []) = _; rw [List.append_nil]
 have hl0 := hlen
 rw [aD, List.length_append] at hlen
 have HT := zz (eS val hok (w.alloc (.cells #[.int .i64 8, .int .i64 at_, .string name, .pointer tq, .pointer (some va), .slice no nn nc, .slice eo en ec, .slice co cn cc] 71)) (.pointer (some va)) (Nat.le_trans hB hb.size) (hP.below (hb.mono hB)) (hV.below (hb.mono hB)) (by omega))
 have HL : Hid (∀ w2, Below (w.alloc (.cells #[.int .i64 8, .int .i64 at_, .string name, .pointer tq, .pointer (some va), .slice no nn nc, .slice eo en ec, .slice co cn cc] 71)).heap.size (w.alloc (.cells #[.int .i64 8, .int .i64 at_, .string name, .pointer tq, .pointer (some va), .slice no nn nc, .slice eo en ec, .slice co cn cc] 71)) w2 -> Calls Tryz.prog 77 #[.pointer (some ⟨b, 0, none⟩), .int .i64 (d : Nat), .slice (some ⟨w2.heap.size, 0, none⟩) [mkT d9, mkT (exV 1 val)].length [mkT d9, mkT (exV 1 val)].length] (w2.alloc (.cells ([mkT d9, mkT (exV 1 val)].map Value.string).toArray 9)) fun e w' => e = .returned (.tuple #[]) /\ PC B b (l ++ aC d (d9 ++ exV 1 val)) w' /\ Below B w2 w' /\ Others b w2 w') := zz fun w2 hb2 => by
  have := bC B b d l [mkT d9, mkT (exV 1 val)] w2 ((h.fresh hb).fresh hb2) (Nat.le_trans hB (Nat.le_trans hb.size hb2.size)) (by rw [hcat]; exact hl0) (by simp)
  rw [hcat] at this
  exact this
 have HBW := zz (hb.mono hB)
 have HSZ : Hid (B <= (w.alloc (.cells #[.int .i64 8, .int .i64 at_, .string name, .pointer tq, .pointer (some va), .slice no nn nc, .slice eo en ec, .slice co cn cc] 71)).heap.size) := zz (Nat.le_trans hB hb.size)
 have HO1 : Hid (Others b w (w.alloc (.cells #[.int .i64 8, .int .i64 at_, .string name, .pointer tq, .pointer (some va), .slice no nn nc, .slice eo en ec, .slice co cn cc] 71))) := zz (Others.of_new hb)
 clear h hB hP hV hlen hl0 hb hcat hok
 go_enter Tryz.func230, Tryz.ntmps230
 go_wp2_with fail
 refine HT.out.mono ?_
 rintro e w2 ⟨rfl, hb2⟩
 have HL2 := zz (HL.out w2 hb2)
 have HB2 := zz (HBW.out.trans (hb2.mono HSZ.out))
 have HO2 : Hid (Others b w w2) := zz (HO1.out.trans (Others.of_new hb2))
 clear hb2
 go_wp2_with fail
 refine HL2.out.mono ?_
 rintro e w3 ⟨rfl, h3, hb3, ho3⟩
 have H3 := zz h3
 have HB3 := zz (HB2.out.trans hb3)
 have HO3 := zz (HO2.out.trans ho3)
 clear h3 hb3 ho3
 go_wp2_with fail
 try simp only [Exit.inBlock, Exit.then]
 go_end0
 exact ⟨rfl, H3.out, HB3.out, HO3.out⟩
theorem GA {B b d : Nat} {at_ : Int} {tq vq no eo co : Option Addr} {nn nc en ec cn cc : Nat} {name : ByteArray} {val : Ex} (l : List UInt8) (w : World) (h : PC B b l w) (hB : B <= w.heap.size) (hP : PEnv B w) (hok : bB val) (hV : ExIn w (fun k => k < B) (.pointer vq) val) (hlen : l.length + (iP d val).length <= 100000000) :
  aI B b l (iP d val) w 230 #[.pointer (some ⟨b, 0, none⟩), .agg #[.int .i64 8, .int .i64 at_, .string name, .pointer tq, .pointer vq, .slice no nn nc, .slice eo en ec, .slice co cn cc], .int .i64 (d : Nat)] := by
 cases val with
 | nil =>
  have e : Value.pointer vq = .pointer none := hV
  injection e with e
  subst e
  exact D0 l w h hB hlen
 | mk =>
  obtain ⟨bk, lv, rv, av, e, h2⟩ := hV
  injection e with e
  subst e
  exact D1 l w h hB hP hok ⟨bk, lv, rv, av, rfl, h2⟩ hlen
theorem xJ {B b d : Nat} {at_ : Int} {tq vq no eo co : Option Addr} {nn nc en ec cn cc : Nat} {name : ByteArray} {val : Ex} (l : List UInt8) (w : World) (h : PC B b l w) (hB : B <= w.heap.size) (hP : PEnv B w) (hok : bB val) (hV : ExIn w (fun k => k < B) (.pointer vq) val) (hlen : l.length + (iP d val).length <= 100000000) :
  aI B b l (iP d val) w 185 #[.pointer (some ⟨b, 0, none⟩), .agg #[.int .i64 8, .int .i64 at_, .string name, .pointer tq, .pointer vq, .slice no nn nc, .slice eo en ec, .slice co cn cc], .int .i64 (d : Nat)] := by
 unfold aI
 have hb := aG w #[.int .i64 8, .int .i64 at_, .string name, .pointer tq, .pointer vq, .slice no nn nc, .slice eo en ec, .slice co cn cc] 71
 have HG := zz (GA (at_ := at_) (tq := tq) (no := no) (eo := eo) (co := co) (nn := nn) (nc := nc) (en := en) (ec := ec) (cn := cn) (cc := cc) (name := name) (d := d) l (w.alloc (.cells #[.int .i64 8, .int .i64 at_, .string name, .pointer tq, .pointer vq, .slice no nn nc, .slice eo en ec, .slice co cn cc] 71)) (h.fresh hb) (Nat.le_trans hB hb.size) (hP.below (hb.mono hB)) hok (hV.below (hb.mono hB)) hlen)
 have HB2 := zz (hb.mono hB)
 have HO2 : Hid (Others b w (w.alloc (.cells #[.int .i64 8, .int .i64 at_, .string name, .pointer tq, .pointer vq, .slice no nn nc, .slice eo en ec, .slice co cn cc] 71))) := zz (Others.of_new hb)
 clear h hB hP hV hlen hb hok
 go_enter Tryz.func185, Tryz.ntmps185
 go_wp2_with fail
 refine HG.out.mono ?_
 rintro e w3 ⟨rfl, h3, hb3, ho3⟩
 have H3 := zz h3
 have HB3 := zz (HB2.out.trans hb3)
 have HO3 := zz (HO2.out.trans ho3)
 clear h3 hb3 ho3
 go_wp2_with fail
 try simp only [Exit.inBlock, Exit.then]
 go_end0
 exact ⟨rfl, H3.out, HB3.out, HO3.out⟩
theorem zP {B : Nat} {at_ : Int} {tq vq no : Option Addr} {nn nc : Nat} {name : Lx.B} {dst val : Ex} (w : World) (hB : B <= w.heap.size) (hP : PEnv B w) (hokd : bB dst) (hok : bB val) (hD : ExIn w (fun k => k < B) (.pointer tq) dst) (hV : ExIn w (fun k => k < B) (.pointer vq) val) (hlen : (jE ++ cY dst val).length <= 100000000) :
  fB w 271 #[.agg #[.int .i64 3, .int .i64 at_, .string (mkT name), .pointer tq, .pointer vq, .slice no nn nc]] (jE ++ cY dst val) := by
 unfold fB
 have hb := aG w #[.int .i64 3, .int .i64 at_, .string (mkT name), .pointer tq, .pointer vq, .slice no nn nc] 134
 rw [List.length_append] at hlen
 have hl : 5 + (cY dst val).length <= 100000000 := hlen
 have HT := zz (BG dst val hokd hok (w.alloc (.cells #[.int .i64 3, .int .i64 at_, .string (mkT name), .pointer tq, .pointer vq, .slice no nn nc] 134)) (.pointer tq) (.pointer vq) (Nat.le_trans hB hb.size) (hP.below (hb.mono hB)) (hD.below (hb.mono hB)) (hV.below (hb.mono hB)) (by omega))
 have hs1 : ¬ 9223372036854775807 < 5 + (mkT (cY dst val)).size := by rw [eI]; omega
 have HB := zz hb
 clear hB hP hokd hok hD hV hlen hl hb
 go_enter Tryz.func271, Tryz.ntmps271
 go_wp2_with fail
 refine HT.out.mono ?_
 rintro e w2 ⟨rfl, hb2⟩
 have HB2 := zz (HB.out.trans (hb2.mono HB.out.size))
 clear hb2
 go_wp2_with fail
 try simp only [Exit.inBlock, Exit.then]
 go_ret
 refine ⟨?_, HB2.out⟩
 exact congrArg Ending.returned (congrArg Value.string (kN jE (cY dst val)))
theorem rV {B : Nat} {at_ : Int} {tq vq no : Option Addr} {nn nc : Nat} {name : ByteArray} {code : Nat} (w : World) (h3 : code ≠ 3) (h10 : code ≠ 10) (_ : B = 0) :
  fB w 271 #[.agg #[.int .i64 (code : Nat), .int .i64 at_, .string name, .pointer tq, .pointer vq, .slice no nn nc]] (lS) := by
 unfold fB
 have hb := aG w #[.int .i64 (code : Nat), .int .i64 at_, .string name, .pointer tq, .pointer vq, .slice no nn nc] 134
 have e3 : ((code : Int) == 3) = false := beq_eq_false_iff_ne.2 (by omega)
 have e10 : ((code : Int) == 10) = false := beq_eq_false_iff_ne.2 (by omega)
 have HB := zz hb
 clear hb h3 h10
 go_enter Tryz.func271, Tryz.ntmps271
 go_wp2_with fail
 try simp only [Exit.inBlock, Exit.then]
 go_ret
 exact ⟨rfl, HB.out⟩
theorem zQ {B : Nat} {at_ : Int} {tq vq no : Option Addr} {nn nc : Nat} {dst : Ex} (w : World) (hB : B <= w.heap.size) (hP : PEnv B w) (hokd : bB dst) (hD : ExIn w (fun k => k < B) (.pointer tq) dst) (hlen : (fY ++ exV 6 dst).length <= 100000000) :
  fB w 271 #[.agg #[.int .i64 10, .int .i64 at_, .string (mkT []), .pointer tq, .pointer vq, .slice no nn nc]] (fY ++ exV 6 dst) := by
 unfold fB
 have hb := aG w #[.int .i64 10, .int .i64 at_, .string (mkT []), .pointer tq, .pointer vq, .slice no nn nc] 134
 rw [List.length_append] at hlen
 have hl : 7 + (exV 6 dst).length <= 100000000 := hlen
 have HT := zz (kO dst hokd 6 (w.alloc (.cells #[.int .i64 10, .int .i64 at_, .string (mkT []), .pointer tq, .pointer vq, .slice no nn nc] 134)) (.pointer tq) (Nat.le_trans hB hb.size) (hP.below (hb.mono hB)) (hD.below (hb.mono hB)) (by omega))
 have hs1 : ¬ 9223372036854775807 < 7 + (mkT (exV 6 dst)).size := by rw [eI]; omega
 have hne : (mkT []).toList.isEmpty = true := by rw [Lib.toList_data]; rfl
 have HB := zz hb
 clear hB hP hokd hD hlen hl hb
 go_enter Tryz.func271, Tryz.ntmps271
 go_wp2_with fail
 refine HT.out.mono ?_
 rintro e w2 ⟨rfl, hb2⟩
 have HB2 := zz (HB.out.trans (hb2.mono HB.out.size))
 clear hb2
 go_wp2_with fail
 try simp only [Exit.inBlock, Exit.then]
 go_ret
 refine ⟨?_, HB2.out⟩
 exact congrArg Ending.returned (congrArg Value.string (kN fY (exV 6 dst)))
theorem D2 {B : Nat} {at_ : Int} {tq vq no : Option Addr} {nn nc : Nat} {name : Lx.B} {dst : Ex} (w : World) (hn : name ≠ []) (hB : B <= w.heap.size) (hP : PEnv B w) (hokd : bB dst) (hD : ExIn w (fun k => k < B) (.pointer tq) dst) (hlen : (jE ++ (name ++ (iH ++ exV 6 dst))).length <= 100000000) :
  fB w 271 #[.agg #[.int .i64 10, .int .i64 at_, .string (mkT name), .pointer tq, .pointer vq, .slice no nn nc]] (jE ++ (name ++ (iH ++ exV 6 dst))) := by
 unfold fB
 have hb := aG w #[.int .i64 10, .int .i64 at_, .string (mkT name), .pointer tq, .pointer vq, .slice no nn nc] 134
 simp only [List.length_append] at hlen
 have hl : 5 + (List.length name + (6 + (exV 6 dst).length)) <= 100000000 := hlen
 have hbd : Below w.heap.size w (w.alloc (.cells #[.int .i64 10, .int .i64 at_, .string (mkT name), .pointer tq, .pointer vq, .slice no nn nc] 134)).drew := hb.trans (Below.drew (Below.refl _ _))
 have HT := zz (kO dst hokd 6 (w.alloc (.cells #[.int .i64 10, .int .i64 at_, .string (mkT name), .pointer tq, .pointer vq, .slice no nn nc] 134)).drew (.pointer tq) (Nat.le_trans hB hbd.size) (hP.below (hbd.mono hB)) (hD.below (hbd.mono hB)) (by omega))
 have hs1 : ¬ 9223372036854775807 < 5 + (mkT name).size := by rw [eI]; omega
 have hs2 : ¬ 9223372036854775807 < 5 + (mkT name).size + 6 := by rw [eI]; omega
 have hs3 : ¬ 9223372036854775807 < 5 + (mkT name).size + 6 + (mkT (exV 6 dst)).size := by rw [eI, eI]; omega
 have hne : (mkT name).toList.isEmpty = false := by
  rw [Lib.toList_data]
  cases name with
  | nil => exact absurd rfl hn
  | cons => rfl
 have HB := zz hbd
 have HLT : Hid (w.heap.size < (w.alloc (.cells #[.int .i64 10, .int .i64 at_, .string (mkT name), .pointer tq, .pointer vq, .slice no nn nc] 134)).drew.heap.size) := zz (by show w.heap.size < (w.alloc (.cells #[.int .i64 10, .int .i64 at_, .string (mkT name), .pointer tq, .pointer vq, .slice no nn nc] 134)).heap.size; rw [bO]; exact Nat.lt_succ_self _)
 have HH : Hid ((w.alloc (.cells #[.int .i64 10, .int .i64 at_, .string (mkT name), .pointer tq, .pointer vq, .slice no nn nc] 134)).drew.heap[w.heap.size]? = some (Obj.cells #[.int .i64 10, .int .i64 at_, .string (mkT name), .pointer tq, .pointer vq, .slice no nn nc] 134 (0, 0))) := zz (heap_alloc_new w _)
 have HCL : Hid (∀ V : World, V.heap[w.heap.size]? = some (Obj.cells #[.int .i64 10, .int .i64 at_, .string (mkT name), .pointer tq, .pointer vq, .slice no nn nc] 134 (0, 0)) -> V.cell? ⟨w.heap.size, 2, none⟩ = some (.string (mkT name)) /\ V.cell? ⟨w.heap.size, 3, none⟩ = some (.pointer tq)) := zz fun V hV => ⟨by rw [Lib.cell_of_heap hV]; rfl, by rw [Lib.cell_of_heap hV]; rfl⟩
 clear hB hP hokd hD hlen hl hb hbd hn
 go_enter Tryz.func271, Tryz.ntmps271
 go_wp2_with fail
 refine wp_region_held_drew (S := (fun W' : World => W'.cell? ⟨w.heap.size, 2, none⟩ = some (.string (mkT name)) /\ W'.cell? ⟨w.heap.size, 3, none⟩ = some (.pointer tq))) (by kernel_rfl) (HCL.out _ HH.out) (fun hHeld => ?_)
 refine tk 0 22 (.pointer (some ⟨w.heap.size, 2, none⟩)) rfl (.inl ⟨by rfl, ?_⟩) hHeld ?_
 ·intro W9 hSW; (try dsimp only at hSW); go_simp
 try simp only [Act.put, sA, sB, sC]
 refine tk 1 23 (.string (mkT name)) rfl (.inl ⟨by rfl, ?_⟩) hHeld ?_
 ·intro W9 hSW; (try dsimp only at hSW); go_simp
 try simp only [Act.put, sA, sB, sC]
 refine tk 2 24 (.string (⟨#[99, 97, 115, 101, 32]⟩ ++ mkT name)) rfl (.inl ⟨by rfl, ?_⟩) hHeld ?_
 ·intro W9 hSW; (try dsimp only at hSW); go_simp
 try simp only [Act.put, sA, sB, sC]
 refine tk 3 25 (.string (⟨#[99, 97, 115, 101, 32]⟩ ++ mkT name ++ ⟨#[32, 58, 61, 32, 60, 45]⟩)) rfl (.inl ⟨by rfl, ?_⟩) hHeld ?_
 ·intro W9 hSW; (try dsimp only at hSW); go_simp
 try simp only [Act.put, sA, sB, sC]
 refine tk 4 26 (.pointer (some ⟨w.heap.size, 3, none⟩)) rfl (.inl ⟨by rfl, ?_⟩) hHeld ?_
 ·intro W9 hSW; (try dsimp only at hSW); go_simp
 try simp only [Act.put, sA, sB, sC]
 refine tk 5 27 (.pointer tq) rfl (.inl ⟨by rfl, ?_⟩) hHeld ?_
 ·intro W9 hSW; (try dsimp only at hSW); go_simp
 try simp only [Act.put, sA, sB, sC]
 refine ra 6 (some 28) rfl fun K hK => ?_
 go_simp
 go_at_call 81
 refine HT.out.mono ?_
 rintro e w2 ⟨rfl, hb2⟩
 have hh2 : w2.heap[w.heap.size]? = some (Obj.cells #[.int .i64 10, .int .i64 at_, .string (mkT name), .pointer tq, .pointer vq, .slice no nn nc] 134 (0, 0)) := by rw [hb2.block _ HLT.out]; exact HH.out
 have HB2 := zz (HB.out.trans (hb2.mono HB.out.size))
 have HH2 := zz hh2
 clear hb2 hh2
 refine hK.out _ _ (HCL.out _ HH2.out) (fun hHeld => ?_)
 clear hK K
 refine tk 7 29 (.string (⟨#[99, 97, 115, 101, 32]⟩ ++ mkT name ++ ⟨#[32, 58, 61, 32, 60, 45]⟩ ++ mkT (exV 6 dst))) rfl (.inl ⟨by rfl, ?_⟩) hHeld ?_
 ·intro W9 hSW; (try dsimp only at hSW); go_simp
 try simp only [Act.put, sA, sB, sC]
 refine tk 8 2 (.string (⟨#[99, 97, 115, 101, 32]⟩ ++ mkT name ++ ⟨#[32, 58, 61, 32, 60, 45]⟩ ++ mkT (exV 6 dst))) rfl (.inl ⟨by rfl, ?_⟩) hHeld ?_
 ·intro W9 hSW; (try dsimp only at hSW); go_simp
 try simp only [Act.put, sA, sB, sC]
 refine wpAnyH_done (by kernel_rfl) ?_ _
 go_wp2_with fail
 try simp only [Exit.inBlock, Exit.then]
 go_ret
 refine ⟨?_, HB2.out⟩
 refine congrArg Ending.returned (congrArg Value.string ?_)
 show mkT jE ++ mkT name ++ mkT iH ++ mkT (exV 6 dst) = _
 rw [kN, kN, kN, List.append_assoc, List.append_assoc]
theorem D3 {B : Nat} {at_ : Int} {tq vq no : Option Addr} {nn nc : Nat} {name : Lx.B} {code : Nat} {dst val : Ex} (w : World) (hB : B <= w.heap.size) (hP : PEnv B w) (hokd : bB dst) (hok : bB val) (hD : ExIn w (fun k => k < B) (.pointer tq) dst) (hV : ExIn w (fun k => k < B) (.pointer vq) val) (hlen : (dG code name dst val).length <= 100000000) :
  fB w 271 #[.agg #[.int .i64 (code : Nat), .int .i64 at_, .string (mkT name), .pointer tq, .pointer vq, .slice no nn nc]] (dG code name dst val) := by
 by_cases h3 : code = 3
 ·subst h3
  exact zP w hB hP hokd hok hD hV hlen
 ·by_cases h10 : code = 10
  ·subst h10
   by_cases hn : name = []
   ·subst hn
    exact zQ w hB hP hokd hD hlen
   ·have e : dG 10 name dst val = jE ++ (name ++ (iH ++ exV 6 dst)) := by show (if name = [] then _ else _) = _; rw [if_neg hn]
    rw [e] at hlen ⊢
    exact D2 w hn hB hP hokd hD hlen
  ·have e : dG code name dst val = lS := by unfold dG; rw [if_neg h3, if_neg h10]
   rw [e]
   exact rV (B := 0) w h3 h10 rfl
def Tr.Sts.toList : Sts -> List St
 | .nil => []
 | .cons x xs => x :: xs.toList
theorem pP : ∀ xs : Sts, xs.toList.length = xs.len
 | .nil => rfl
 | .cons _ xs => congrArg (· + 1) (pP xs)
def mY (d : Nat) : List St -> Lx.B
 | [] => []
 | x :: xs => stV d x ++ mY d xs
theorem s9 (d : Nat) : ∀ xs : Sts, bG d xs = mY d xs.toList
 | .nil => by rw [bG]; rfl
 | .cons x xs => by rw [bG, s9 d xs]; rfl
theorem tA (d : Nat) : ∀ (l : List St) (x : St), mY d (l ++ [x]) = mY d l ++ stV d x
 | [], x => by show stV d x ++ [] = [] ++ stV d x; rw [List.append_nil, List.nil_append]
 | y :: l, x => by show stV d y ++ mY d (l ++ [x]) = _; rw [tA d l x, <- List.append_assoc]; rfl
theorem BH (d : Nat) : ∀ (l : List St) (k : Nat), (mY d (l.take k)).length <= (mY d l).length
 | [], k => by simp [mY]
 | x :: xs, 0 => Nat.zero_le _
 | x :: xs, k + 1 => by
  show (stV d x ++ mY d (xs.take k)).length <= (stV d x ++ mY d xs).length
  have := BH d xs k
  simp only [List.length_append]
  omega
theorem xK {F : Nat -> Prop} {g : Nat} : ∀ (xs : Sts) (i : Nat), StsIn w F g i xs -> ∀ (j : Nat) (x : St), xs.toList[j]? = some x -> StIn w F g ((i + j) * 8) x
 | .nil, _, _, j, x, h => by simp [Tr.Sts.toList] at h
 | .cons y ys, i, ⟨h1, _⟩, 0, x, h => by
  have e : y = x := by simpa [Tr.Sts.toList] using h
  subst e
  exact h1
 | .cons y ys, i, ⟨_, h2⟩, j + 1, x, h => by
  have := xK ys (i + 1) h2 j x (by simpa [Tr.Sts.toList] using h)
  rw [show i + (j + 1) = i + 1 + j by omega]; exact this
theorem j3 {F : Nat -> Prop} {v : Value} {n : Nat} (h : SlAt F v n) : ∃ o m c, v = .slice o m c := by
 rcases h with ⟨e, _⟩ | ⟨g, cap, e, _⟩ <;> exact ⟨_, _, _, e⟩
theorem StV.below {B : Nat} {tv vv nv ev cv : Value} {dst val : Ex} {thn els : Sts} {cases : Cas} (h : StV w (fun k => k < B) tv vv nv ev cv dst val thn els cases) (hb : Below B w w') : StV w' (fun k => k < B) tv vv nv ev cv dst val thn els cases := by
 have hk : Keeps (fun k => B <= k) w w' := Keeps.of_below (S := fun k => B <= k) hb (fun _ _ e => e)
 have hF : ∀ b, b < B -> ¬ B <= b := fun b h1 h2 => by omega
 obtain ⟨h1, h2, h3, h4, h5, h6, h7, h8⟩ := h
 exact ⟨h1.keeps hk hF, h2.keeps hk hF, h3, fun g n cap e => StsIn.keeps hk hF g (h3.mem e) 0 thn (h4 g n cap e), h5, fun g n cap e => StsIn.keeps hk hF g (h5.mem e) 0 els (h6 g n cap e), h7, fun g n cap e => CasIn.keeps hk hF g (h7.mem e) 0 cases (h8 g n cap e)⟩
def StW (B b : Nat) : St -> Prop
  | .mk code at_ name dst val thn els cases => ∀ (l : List UInt8) (w : World) (d : Nat) (tq vq no eo co : Option Addr) (nn nc en ec cn cc : Nat), PC B b l w -> B <= w.heap.size -> PEnv B w ->
      StV w (fun k => k < B) (.pointer tq) (.pointer vq) (.slice no nn nc) (.slice eo en ec) (.slice co cn cc) dst val thn els cases -> l.length + (stV d (.mk code at_ name dst val thn els cases)).length <= 100000000 ->
      aI B b l (stV d (.mk code at_ name dst val thn els cases)) w 185 #[.pointer (some ⟨b, 0, none⟩), .agg #[.int .i64 (code : Nat), .int .i64 (at_ : Nat), .string (mkT name), .pointer tq, .pointer vq, .slice no nn nc, .slice eo en ec, .slice co cn cc], .int .i64 (d : Nat)]
def uZ (B b : Nat) (xs : Sts) : Prop := ∀ (l : List UInt8) (w : World) (d : Nat) (o : Option Addr) (n c : Nat), PC B b l w -> B <= w.heap.size -> PEnv B w -> SlAt (fun k => k < B) (.slice o n c) xs.len -> (∀ g n' cap, Value.slice o n c = .slice (some ⟨g, 0, none⟩) n' cap -> StsIn w (fun k => k < B) g 0 xs) -> l.length + (bG d xs).length <= 100000000 ->
   aI B b l (bG d xs) w 131 #[.pointer (some ⟨b, 0, none⟩), .slice o n c, .int .i64 (d : Nat)]
theorem l8 {B b : Nat} (xs : Sts) (hA : ∀ x ∈ xs.toList, StW B b x) : uZ B b xs := by
 intro l w d o n c h hB hP hs hi hlen
 unfold aI
 rw [s9] at hlen ⊢
 have hn : n = xs.toList.length := by
  rw [pP]
  rcases hs with ⟨e, e2⟩ | ⟨g, cap, e, _⟩
  ·rw [e2]; injection e
  ·injection e
 subst hn
 have hn0 : xs.toList.length <= 9223372036854775807 := by
  rw [pP]
  rcases hs with ⟨_, e2⟩ | ⟨g, cap, _, h1, h2, _⟩
  ·omega
  ·unfold maxLen at h2; omega
 have HA := zz hA
 have HH := zz h
 have HB := zz hB
 have HP := zz hP
 have HLN := zz hlen
 have HG : Hid (∀ k x, xs.toList[k]? = some x -> ∃ g, o = some ⟨g, 0, none⟩ /\ g < B /\ StIn w (fun k => k < B) g (k * 8) x) := zz fun k x hx => by
  rcases hs with ⟨e, e2⟩ | ⟨g, cap, e, _, _, _, hg⟩
  ·rw [<- pP] at e2
   have := List.getElem?_eq_none (l := xs.toList) (i := k) (by omega)
   rw [this] at hx; cases hx
  ·have hst := hi g _ _ e
   injection e with e1 _ _
   refine ⟨g, e1, hg, ?_⟩
   have := xK xs 0 hst k x hx
   rw [Nat.zero_add] at this; exact this
 clear hA h hB hP hs hi hlen
 go_enter Tryz.func131, Tryz.ntmps131
 go_wp2_with fail
 go_loopw [10, 7] (fun i _ wr => ∃ k : Nat, k <= xs.toList.length /\ i = .int .i64 k /\ PC B b (l ++ mY d (xs.toList.take k)) wr /\ Below B w wr /\ Others b w wr) (fun i _ _ => xs.toList.length - (intOf i).toNat)
 case atStart => exact ⟨0, Nat.zero_le _, rfl, by rw [List.take_zero]; show PC B b (l ++ []) w; rw [List.append_nil]; exact HH.out, Below.refl _ _, Others.refl _ _⟩
 case round =>
  obtain ⟨k, hk, rfl, hp, hb, ho⟩ := hrel
  have HPP := zz hp
  have HBL := zz hb
  have HO := zz ho
  clear hp hb ho
  by_cases hlt : k < xs.toList.length
  ·obtain ⟨x, hkx⟩ : ∃ x, xs.toList[k]? = some x := ⟨_, List.getElem?_eq_getElem hlt⟩
   obtain ⟨g, rfl, hg, hst⟩ := HG.out k x hkx
   have hmem : x ∈ xs.toList := List.mem_of_getElem? hkx
   have htk : mY d (xs.toList.take (k + 1)) = mY d (xs.toList.take k) ++ stV d x := by rw [List.take_add_one, hkx]; exact tA d _ x
   have hle := BH d xs.toList (k + 1)
   rw [htk, List.length_append] at hle
   have HW := zz (HA.out x hmem)
   obtain ⟨code, at_, name, dst, val, thn, els, cases⟩ := x
   obtain ⟨tv, vv, nv, ev, cv, c0, c1, c2, c3, c4, c5, c6, c7, hv⟩ := hst
   obtain ⟨tq, rfl⟩ := eM hv.1
   obtain ⟨vq, rfl⟩ := eM hv.2.1
   obtain ⟨no, nn, nc, rfl⟩ := j3 hv.2.2.1
   obtain ⟨eo, en, ec, rfl⟩ := j3 hv.2.2.2.2.1
   obtain ⟨co, cn, cc, rfl⟩ := j3 hv.2.2.2.2.2.2.1
   rw [<- HBL.out.cell (p := ⟨g, k * 8, none⟩) hg] at c0
   rw [<- HBL.out.cell (p := ⟨g, k * 8 + 1, none⟩) hg] at c1
   rw [<- HBL.out.cell (p := ⟨g, k * 8 + 2, none⟩) hg] at c2
   rw [<- HBL.out.cell (p := ⟨g, k * 8 + 3, none⟩) hg] at c3
   rw [<- HBL.out.cell (p := ⟨g, k * 8 + 4, none⟩) hg] at c4
   rw [<- HBL.out.cell (p := ⟨g, k * 8 + 5, none⟩) hg] at c5
   rw [<- HBL.out.cell (p := ⟨g, k * 8 + 6, none⟩) hg] at c6
   rw [<- HBL.out.cell (p := ⟨g, k * 8 + 7, none⟩) hg] at c7
   have hki : (k : Int) < (xs.toList.length : Int) := by omega
   have hkii : (0 : Int) <= (k : Int) /\ (k : Int) < (xs.toList.length : Int) := by omega
   have hw : IntKind.i64.wrap ((k : Int) + 1) = (k : Int) + 1 := IntWalk.i64_in _ (by omega)
   have HTK := zz htk
   have HC : Hid (∀ W, Below wr.heap.size wr W -> aI B b (l ++ mY d (xs.toList.take k)) (stV d (.mk code at_ name dst val thn els cases)) W 185 #[.pointer (some ⟨b, 0, none⟩), .agg #[.int .i64 (code : Nat), .int .i64 (at_ : Nat), .string (mkT name), .pointer tq, .pointer vq, .slice no nn nc, .slice eo en ec, .slice co cn cc], .int .i64 (d : Nat)]) := zz fun W hW =>
    HW.out _ W d tq vq no eo co nn nc en ec cn cc (HPP.out.fresh hW) (Nat.le_trans HB.out (Nat.le_trans HBL.out.size hW.size)) (HP.out.below (HBL.out.trans (hW.mono (Nat.le_trans HB.out HBL.out.size)))) (StV.below hv (HBL.out.trans (hW.mono (Nat.le_trans HB.out HBL.out.size)))) (by have := HLN.out; rw [List.length_append]; omega)
   have HSZ : Hid (B <= wr.heap.size) := zz (Nat.le_trans HB.out HBL.out.size)
   clear hkx hg hmem htk hle hv
   go_wp2_with fail
   refine (HC.out _ (aG _ _ _)).mono ?_
   rintro e w2 ⟨rfl, h2, hb2, ho2⟩
   have H2 : Hid (PC B b (l ++ mY d (xs.toList.take (k + 1))) w2) := zz (by rw [HTK.out, <- List.append_assoc]; exact h2)
   have HB2 := zz (HBL.out.trans (((aG wr _ _).mono HSZ.out).trans hb2))
   have HO2 := zz (HO.out.trans ((Others.of_new (aG wr _ _)).trans ho2))
   clear h2 hb2 ho2
   go_wp2_with fail
   exact ⟨⟨k + 1, by omega, by simp, H2.out, HB2.out, HO2.out⟩, by simp [intOf]; omega⟩
  ·have hki : ¬ (k : Int) < (xs.toList.length : Int) := by omega
   have hkk : k = xs.toList.length := by omega
   have HKK := zz hkk
   clear hkk
   go_wp2_with fail
   go_end0
   refine ⟨rfl, ?_, HBL.out, HO.out⟩
   have h1 := HPP.out
   rw [HKK.out, List.take_length] at h1
   exact h1
theorem eA (c : Lx.B) : bU [mkT c] = c := List.append_nil c
theorem nQ (a c e : Lx.B) : bU [mkT a, mkT c, mkT e] = a ++ (c ++ e) := by show a ++ (c ++ (e ++ [])) = _; rw [List.append_nil]
theorem tB (a c : Lx.B) : bU [mkT a, mkT c] = a ++ c := by show a ++ (c ++ []) = _; rw [List.append_nil]
theorem oP {F : Nat -> Prop} {o : Option Addr} {n c m : Nat} (h : SlAt F (.slice o n c) m) : n = m := by
 rcases h with ⟨e, e2⟩ | ⟨g, cap, e, _⟩
 ·rw [e2]; injection e
 ·injection e
theorem GB {B b d : Nat} {at_ : Nat} {tq vq no eo co : Option Addr} {nn nc en ec cn cc : Nat} {name : Lx.B} {dst val : Ex} {thn els : Sts} {cases : Cas} (hTh : uZ B b thn) (hok : bB val) (l : List UInt8) (w : World) (h : PC B b l w) (hB : B <= w.heap.size) (hP : PEnv B w) (hv : StV w (fun k => k < B) (.pointer tq) (.pointer vq) (.slice no nn nc) (.slice eo en ec) (.slice co cn cc) dst val thn els cases) (hlen : l.length + (aC d (rT ++ (exV 1 val ++ cV)) ++ (bG (d + 1) thn ++ aC d cF)).length <= 100000000) :
  aI B b l (aC d (rT ++ (exV 1 val ++ cV)) ++ (bG (d + 1) thn ++ aC d cF)) w 185 #[.pointer (some ⟨b, 0, none⟩), .agg #[.int .i64 13, .int .i64 (at_ : Nat), .string (mkT name), .pointer tq, .pointer vq, .slice no nn nc, .slice eo en ec, .slice co cn cc], .int .i64 (d : Nat)] := by
 unfold aI
 have hbw := aG w #[.int .i64 13, .int .i64 (at_ : Nat), .string (mkT name), .pointer tq, .pointer vq, .slice no nn nc, .slice eo en ec, .slice co cn cc] 71
 have hblt := h.1.lt
 have HL : Hid (l.length + ((aC d (rT ++ (exV 1 val ++ cV))).length + ((bG (d + 1) thn).length + (aC d cF).length)) <= 100000000) := zz (by rw [List.length_append, List.length_append] at hlen; exact hlen)
 have HTH := zz hTh
 have hd : d <= 100000000 := by have := HL.out; simp only [aD] at this; omega
 have hw : IntKind.i64.wrap ((d : Int) + 1) = ((d + 1 : Nat) : Int) := by rw [IntWalk.i64_in _ (by omega)]; omega
 have HB := zz hB
 have HP := zz hP
 have HV := zz hv
 have HB1 := zz (hbw.mono hB)
 have HSZ : Hid (B <= (w.alloc (.cells #[.int .i64 13, .int .i64 (at_ : Nat), .string (mkT name), .pointer tq, .pointer vq, .slice no nn nc, .slice eo en ec, .slice co cn cc] 71)).heap.size) := zz (Nat.le_trans hB hbw.size)
 have HO1 : Hid (Others b w (w.alloc (.cells #[.int .i64 13, .int .i64 (at_ : Nat), .string (mkT name), .pointer tq, .pointer vq, .slice no nn nc, .slice eo en ec, .slice co cn cc] 71))) := zz (Others.of_new hbw)
 have HLT : Hid (w.heap.size < (w.alloc (.cells #[.int .i64 13, .int .i64 (at_ : Nat), .string (mkT name), .pointer tq, .pointer vq, .slice no nn nc, .slice eo en ec, .slice co cn cc] 71)).heap.size) := zz (by rw [bO]; exact Nat.lt_succ_self _)
 have HNE : Hid (w.heap.size ≠ b) := zz (by omega)
 have HH1 : Hid ((w.alloc (.cells #[.int .i64 13, .int .i64 (at_ : Nat), .string (mkT name), .pointer tq, .pointer vq, .slice no nn nc, .slice eo en ec, .slice co cn cc] 71)).heap[w.heap.size]? = some (Obj.cells #[.int .i64 13, .int .i64 (at_ : Nat), .string (mkT name), .pointer tq, .pointer vq, .slice no nn nc, .slice eo en ec, .slice co cn cc] 71 (0, 0))) := zz (heap_alloc_new w _)
 have HT := zz (eS val hok (w.alloc (.cells #[.int .i64 13, .int .i64 (at_ : Nat), .string (mkT name), .pointer tq, .pointer vq, .slice no nn nc, .slice eo en ec, .slice co cn cc] 71)) (.pointer vq) (Nat.le_trans hB hbw.size) (hP.below (hbw.mono hB)) (hv.2.1.below (hbw.mono hB)) (by have := HL.out; rw [aD, List.length_append, List.length_append] at this; omega))
 have HF : Hid (∀ V, Below (w.alloc (.cells #[.int .i64 13, .int .i64 (at_ : Nat), .string (mkT name), .pointer tq, .pointer vq, .slice no nn nc, .slice eo en ec, .slice co cn cc] 71)).heap.size (w.alloc (.cells #[.int .i64 13, .int .i64 (at_ : Nat), .string (mkT name), .pointer tq, .pointer vq, .slice no nn nc, .slice eo en ec, .slice co cn cc] 71)) V -> PC B b l V) := zz fun V hV => (h.fresh hbw).fresh hV
 clear h hB hP hv hlen hbw hblt hok hd hTh
 go_enter Tryz.func185, Tryz.ntmps185
 go_wp2_with fail
 refine HT.out.mono ?_
 rintro e w2 ⟨rfl, hb2⟩
 have HB2 := zz (HB1.out.trans (hb2.mono HSZ.out))
 have HO2 : Hid (Others b w w2) := zz (HO1.out.trans (Others.of_new hb2))
 have HH2 : Hid (w2.heap[w.heap.size]? = some (Obj.cells #[.int .i64 13, .int .i64 (at_ : Nat), .string (mkT name), .pointer tq, .pointer vq, .slice no nn nc, .slice eo en ec, .slice co cn cc] 71 (0, 0))) := zz (by rw [hb2.block _ HLT.out]; exact HH1.out)
 have H2 := zz (HF.out w2 hb2)
 clear hb2
 have HC2 := zz (bC B b d _ [mkT rT, mkT (exV 1 val), mkT cV] w2 H2.out (Nat.le_trans HB.out HB2.out.size) (by have := HL.out; rw [nQ]; (try simp only [List.length_append]); omega) (by simp))
 rw [nQ] at HC2
 go_wp2_with fail
 refine HC2.out.mono ?_
 rintro e w3 ⟨rfl, h3, hb3, ho3⟩
 have H3 := zz h3
 have HB3 := zz (HB2.out.trans hb3)
 have HO3 := zz (HO2.out.trans ho3)
 have HH3 := zz (ho3.heap HNE.out (by decide) HH2.out)
 have d3_5 : w3.cell? ⟨w.heap.size, 5, none⟩ = some (.slice no nn nc) := by rw [Lib.cell_of_heap HH3.out]; rfl
 clear h3 hb3 ho3
 have HC3 := zz (HTH.out _ w3 (d + 1) no nn nc H3.out (Nat.le_trans HB.out HB3.out.size) (HP.out.below HB3.out) (StV.below HV.out HB3.out).2.2.1 (StV.below HV.out HB3.out).2.2.2.1 (by have := HL.out; simp only [List.length_append]; omega))
 go_wp2_with fail
 refine HC3.out.mono ?_
 rintro e w4 ⟨rfl, h4, hb4, ho4⟩
 have H4 := zz h4
 have HB4 := zz (HB3.out.trans hb4)
 have HO4 := zz (HO3.out.trans ho4)
 have HH4 := zz (ho4.heap HNE.out (by decide) HH3.out)
 clear h4 hb4 ho4
 have HC4 := zz (bC B b d _ [mkT cF] w4 H4.out (Nat.le_trans HB.out HB4.out.size) (by have := HL.out; rw [eA]; (try simp only [List.length_append]); omega) (by simp))
 rw [eA] at HC4
 go_wp2_with fail
 refine HC4.out.mono ?_
 rintro e w5 ⟨rfl, h5, hb5, ho5⟩
 have H5 := zz h5
 have HB5 := zz (HB4.out.trans hb5)
 have HO5 := zz (HO4.out.trans ho5)
 have HH5 := zz (ho5.heap HNE.out (by decide) HH4.out)
 clear h5 hb5 ho5
 have HZ : Hid (PC B b (l ++ (aC d (rT ++ (exV 1 val ++ cV)) ++ (bG (d + 1) thn ++ aC d cF))) w5) := zz (by
  have h9 := H5.out
  simp only [List.append_assoc] at h9 ⊢
  exact h9)
 go_wp2_with fail
 try simp only [Exit.inBlock, Exit.then]
 go_end0
 exact ⟨rfl, HZ.out, HB5.out, HO5.out⟩
theorem D4 {B b d : Nat} {at_ : Nat} {tq vq no eo co : Option Addr} {nn nc en ec cn cc : Nat} {name : Lx.B} {dst val : Ex} {thn els : Sts} {cases : Cas} (hTh : uZ B b thn) (hok : bB val) (h0 : els.len = 0) (l : List UInt8) (w : World) (h : PC B b l w) (hB : B <= w.heap.size) (hP : PEnv B w) (hv : StV w (fun k => k < B) (.pointer tq) (.pointer vq) (.slice no nn nc) (.slice eo en ec) (.slice co cn cc) dst val thn els cases) (hlen : l.length + (aC d (cIf ++ (exV 1 val ++ cV)) ++ (bG (d + 1) thn ++ aC d cF)).length <= 100000000) :
  aI B b l (aC d (cIf ++ (exV 1 val ++ cV)) ++ (bG (d + 1) thn ++ aC d cF)) w 231 #[.pointer (some ⟨b, 0, none⟩), .agg #[.int .i64 12, .int .i64 (at_ : Nat), .string (mkT name), .pointer tq, .pointer vq, .slice no nn nc, .slice eo en ec, .slice co cn cc], .int .i64 (d : Nat)] := by
 unfold aI
 have hbw := aG w #[.int .i64 12, .int .i64 (at_ : Nat), .string (mkT name), .pointer tq, .pointer vq, .slice no nn nc, .slice eo en ec, .slice co cn cc] 71
 have hblt := h.1.lt
 have HL : Hid (l.length + ((aC d (cIf ++ (exV 1 val ++ cV))).length + ((bG (d + 1) thn).length + (aC d cF).length)) <= 100000000) := zz (by rw [List.length_append, List.length_append] at hlen; exact hlen)
 have HTH := zz hTh
 have hen : en = 0 := by rw [<- h0]; exact oP hv.2.2.2.2.1
 subst hen
 have hd : d <= 100000000 := by have := HL.out; simp only [aD] at this; omega
 have hw : IntKind.i64.wrap ((d : Int) + 1) = ((d + 1 : Nat) : Int) := by rw [IntWalk.i64_in _ (by omega)]; omega
 have HB := zz hB
 have HP := zz hP
 have HV := zz hv
 have HB1 := zz (hbw.mono hB)
 have HSZ : Hid (B <= (w.alloc (.cells #[.int .i64 12, .int .i64 (at_ : Nat), .string (mkT name), .pointer tq, .pointer vq, .slice no nn nc, .slice eo 0 ec, .slice co cn cc] 71)).heap.size) := zz (Nat.le_trans hB hbw.size)
 have HO1 : Hid (Others b w (w.alloc (.cells #[.int .i64 12, .int .i64 (at_ : Nat), .string (mkT name), .pointer tq, .pointer vq, .slice no nn nc, .slice eo 0 ec, .slice co cn cc] 71))) := zz (Others.of_new hbw)
 have HLT : Hid (w.heap.size < (w.alloc (.cells #[.int .i64 12, .int .i64 (at_ : Nat), .string (mkT name), .pointer tq, .pointer vq, .slice no nn nc, .slice eo 0 ec, .slice co cn cc] 71)).heap.size) := zz (by rw [bO]; exact Nat.lt_succ_self _)
 have HNE : Hid (w.heap.size ≠ b) := zz (by omega)
 have HH1 : Hid ((w.alloc (.cells #[.int .i64 12, .int .i64 (at_ : Nat), .string (mkT name), .pointer tq, .pointer vq, .slice no nn nc, .slice eo 0 ec, .slice co cn cc] 71)).heap[w.heap.size]? = some (Obj.cells #[.int .i64 12, .int .i64 (at_ : Nat), .string (mkT name), .pointer tq, .pointer vq, .slice no nn nc, .slice eo 0 ec, .slice co cn cc] 71 (0, 0))) := zz (heap_alloc_new w _)
 have HT := zz (eS val hok (w.alloc (.cells #[.int .i64 12, .int .i64 (at_ : Nat), .string (mkT name), .pointer tq, .pointer vq, .slice no nn nc, .slice eo 0 ec, .slice co cn cc] 71)) (.pointer vq) (Nat.le_trans hB hbw.size) (hP.below (hbw.mono hB)) (hv.2.1.below (hbw.mono hB)) (by have := HL.out; rw [aD, List.length_append, List.length_append] at this; omega))
 have HF : Hid (∀ V, Below (w.alloc (.cells #[.int .i64 12, .int .i64 (at_ : Nat), .string (mkT name), .pointer tq, .pointer vq, .slice no nn nc, .slice eo 0 ec, .slice co cn cc] 71)).heap.size (w.alloc (.cells #[.int .i64 12, .int .i64 (at_ : Nat), .string (mkT name), .pointer tq, .pointer vq, .slice no nn nc, .slice eo 0 ec, .slice co cn cc] 71)) V -> PC B b l V) := zz fun V hV => (h.fresh hbw).fresh hV
 clear h hB hP hv hlen hbw hblt hok hd hTh h0
 go_enter Tryz.func231, Tryz.ntmps231
 go_wp2_with fail
 refine HT.out.mono ?_
 rintro e w2 ⟨rfl, hb2⟩
 have HB2 := zz (HB1.out.trans (hb2.mono HSZ.out))
 have HO2 : Hid (Others b w w2) := zz (HO1.out.trans (Others.of_new hb2))
 have HH2 : Hid (w2.heap[w.heap.size]? = some (Obj.cells #[.int .i64 12, .int .i64 (at_ : Nat), .string (mkT name), .pointer tq, .pointer vq, .slice no nn nc, .slice eo 0 ec, .slice co cn cc] 71 (0, 0))) := zz (by rw [hb2.block _ HLT.out]; exact HH1.out)
 have H2 := zz (HF.out w2 hb2)
 clear hb2
 have HC2 := zz (bC B b d _ [mkT cIf, mkT (exV 1 val), mkT cV] w2 H2.out (Nat.le_trans HB.out HB2.out.size) (by have := HL.out; rw [nQ]; (try simp only [List.length_append]); omega) (by simp))
 rw [nQ] at HC2
 go_wp2_with fail
 refine HC2.out.mono ?_
 rintro e w3 ⟨rfl, h3, hb3, ho3⟩
 have H3 := zz h3
 have HB3 := zz (HB2.out.trans hb3)
 have HO3 := zz (HO2.out.trans ho3)
 have HH3 := zz (ho3.heap HNE.out (by decide) HH2.out)
 have d3_5 : w3.cell? ⟨w.heap.size, 5, none⟩ = some (.slice no nn nc) := by rw [Lib.cell_of_heap HH3.out]; rfl
 clear h3 hb3 ho3
 have HC3 := zz (HTH.out _ w3 (d + 1) no nn nc H3.out (Nat.le_trans HB.out HB3.out.size) (HP.out.below HB3.out) (StV.below HV.out HB3.out).2.2.1 (StV.below HV.out HB3.out).2.2.2.1 (by have := HL.out; simp only [List.length_append]; omega))
 go_wp2_with fail
 refine HC3.out.mono ?_
 rintro e w4 ⟨rfl, h4, hb4, ho4⟩
 have H4 := zz h4
 have HB4 := zz (HB3.out.trans hb4)
 have HO4 := zz (HO3.out.trans ho4)
 have HH4 := zz (ho4.heap HNE.out (by decide) HH3.out)
 have d4_6 : w4.cell? ⟨w.heap.size, 6, none⟩ = some (.slice eo 0 ec) := by rw [Lib.cell_of_heap HH4.out]; rfl
 clear h4 hb4 ho4
 have HC4 := zz (bC B b d _ [mkT cF] w4 H4.out (Nat.le_trans HB.out HB4.out.size) (by have := HL.out; rw [eA]; (try simp only [List.length_append]); omega) (by simp))
 rw [eA] at HC4
 go_wp2_with fail
 refine HC4.out.mono ?_
 rintro e w5 ⟨rfl, h5, hb5, ho5⟩
 have H5 := zz h5
 have HB5 := zz (HB4.out.trans hb5)
 have HO5 := zz (HO4.out.trans ho5)
 have HH5 := zz (ho5.heap HNE.out (by decide) HH4.out)
 clear h5 hb5 ho5
 have HZ : Hid (PC B b (l ++ (aC d (cIf ++ (exV 1 val ++ cV)) ++ (bG (d + 1) thn ++ aC d cF))) w5) := zz (by
  have h9 := H5.out
  simp only [List.append_assoc] at h9 ⊢
  exact h9)
 go_wp2_with fail
 try simp only [Exit.inBlock, Exit.then]
 go_end0
 exact ⟨rfl, HZ.out, HB5.out, HO5.out⟩
theorem xL {B b d : Nat} {at_ : Nat} {tq vq no eo co : Option Addr} {nn nc en ec cn cc : Nat} {name : Lx.B} {dst val : Ex} {thn els : Sts} {cases : Cas} (hTh : uZ B b thn) (hok : bB val) (hEl : uZ B b els) (h0 : els.len ≠ 0) (l : List UInt8) (w : World) (h : PC B b l w) (hB : B <= w.heap.size) (hP : PEnv B w) (hv : StV w (fun k => k < B) (.pointer tq) (.pointer vq) (.slice no nn nc) (.slice eo en ec) (.slice co cn cc) dst val thn els cases) (hlen : l.length + (aC d (cIf ++ (exV 1 val ++ cV)) ++ (bG (d + 1) thn ++ ((aC d iO ++ bG (d + 1) els) ++ aC d cF))).length <= 100000000) :
  aI B b l (aC d (cIf ++ (exV 1 val ++ cV)) ++ (bG (d + 1) thn ++ ((aC d iO ++ bG (d + 1) els) ++ aC d cF))) w 231 #[.pointer (some ⟨b, 0, none⟩), .agg #[.int .i64 12, .int .i64 (at_ : Nat), .string (mkT name), .pointer tq, .pointer vq, .slice no nn nc, .slice eo en ec, .slice co cn cc], .int .i64 (d : Nat)] := by
 unfold aI
 have hbw := aG w #[.int .i64 12, .int .i64 (at_ : Nat), .string (mkT name), .pointer tq, .pointer vq, .slice no nn nc, .slice eo en ec, .slice co cn cc] 71
 have hblt := h.1.lt
 have HL : Hid (l.length + ((aC d (cIf ++ (exV 1 val ++ cV))).length + ((bG (d + 1) thn).length + (((aC d iO).length + (bG (d + 1) els).length) + (aC d cF).length))) <= 100000000) := zz (by simp only [List.length_append] at hlen; simpa only [List.length_append] using hlen)
 have HTH := zz hTh
 have HEL := zz hEl
 have hen : en = els.len := oP hv.2.2.2.2.1
 have hgt : (0 : Int) < (en : Int) := by omega
 have hd : d <= 100000000 := by have := HL.out; simp only [aD] at this; omega
 have hw : IntKind.i64.wrap ((d : Int) + 1) = ((d + 1 : Nat) : Int) := by rw [IntWalk.i64_in _ (by omega)]; omega
 have HB := zz hB
 have HP := zz hP
 have HV := zz hv
 have HB1 := zz (hbw.mono hB)
 have HSZ : Hid (B <= (w.alloc (.cells #[.int .i64 12, .int .i64 (at_ : Nat), .string (mkT name), .pointer tq, .pointer vq, .slice no nn nc, .slice eo en ec, .slice co cn cc] 71)).heap.size) := zz (Nat.le_trans hB hbw.size)
 have HO1 : Hid (Others b w (w.alloc (.cells #[.int .i64 12, .int .i64 (at_ : Nat), .string (mkT name), .pointer tq, .pointer vq, .slice no nn nc, .slice eo en ec, .slice co cn cc] 71))) := zz (Others.of_new hbw)
 have HLT : Hid (w.heap.size < (w.alloc (.cells #[.int .i64 12, .int .i64 (at_ : Nat), .string (mkT name), .pointer tq, .pointer vq, .slice no nn nc, .slice eo en ec, .slice co cn cc] 71)).heap.size) := zz (by rw [bO]; exact Nat.lt_succ_self _)
 have HNE : Hid (w.heap.size ≠ b) := zz (by omega)
 have HH1 : Hid ((w.alloc (.cells #[.int .i64 12, .int .i64 (at_ : Nat), .string (mkT name), .pointer tq, .pointer vq, .slice no nn nc, .slice eo en ec, .slice co cn cc] 71)).heap[w.heap.size]? = some (Obj.cells #[.int .i64 12, .int .i64 (at_ : Nat), .string (mkT name), .pointer tq, .pointer vq, .slice no nn nc, .slice eo en ec, .slice co cn cc] 71 (0, 0))) := zz (heap_alloc_new w _)
 have HT := zz (eS val hok (w.alloc (.cells #[.int .i64 12, .int .i64 (at_ : Nat), .string (mkT name), .pointer tq, .pointer vq, .slice no nn nc, .slice eo en ec, .slice co cn cc] 71)) (.pointer vq) (Nat.le_trans hB hbw.size) (hP.below (hbw.mono hB)) (hv.2.1.below (hbw.mono hB)) (by have := HL.out; rw [aD, List.length_append, List.length_append] at this; omega))
 have HF : Hid (∀ V, Below (w.alloc (.cells #[.int .i64 12, .int .i64 (at_ : Nat), .string (mkT name), .pointer tq, .pointer vq, .slice no nn nc, .slice eo en ec, .slice co cn cc] 71)).heap.size (w.alloc (.cells #[.int .i64 12, .int .i64 (at_ : Nat), .string (mkT name), .pointer tq, .pointer vq, .slice no nn nc, .slice eo en ec, .slice co cn cc] 71)) V -> PC B b l V) := zz fun V hV => (h.fresh hbw).fresh hV
 clear h hB hP hv hlen hbw hblt hok hd hTh hEl h0 hen
 go_enter Tryz.func231, Tryz.ntmps231
 go_wp2_with fail
 refine HT.out.mono ?_
 rintro e w2 ⟨rfl, hb2⟩
 have HB2 := zz (HB1.out.trans (hb2.mono HSZ.out))
 have HO2 : Hid (Others b w w2) := zz (HO1.out.trans (Others.of_new hb2))
 have HH2 : Hid (w2.heap[w.heap.size]? = some (Obj.cells #[.int .i64 12, .int .i64 (at_ : Nat), .string (mkT name), .pointer tq, .pointer vq, .slice no nn nc, .slice eo en ec, .slice co cn cc] 71 (0, 0))) := zz (by rw [hb2.block _ HLT.out]; exact HH1.out)
 have H2 := zz (HF.out w2 hb2)
 clear hb2
 have HC2 := zz (bC B b d _ [mkT cIf, mkT (exV 1 val), mkT cV] w2 H2.out (Nat.le_trans HB.out HB2.out.size) (by have := HL.out; rw [nQ]; (try simp only [List.length_append]); omega) (by simp))
 rw [nQ] at HC2
 go_wp2_with fail
 refine HC2.out.mono ?_
 rintro e w3 ⟨rfl, h3, hb3, ho3⟩
 have H3 := zz h3
 have HB3 := zz (HB2.out.trans hb3)
 have HO3 := zz (HO2.out.trans ho3)
 have HH3 := zz (ho3.heap HNE.out (by decide) HH2.out)
 have d3_5 : w3.cell? ⟨w.heap.size, 5, none⟩ = some (.slice no nn nc) := by rw [Lib.cell_of_heap HH3.out]; rfl
 clear h3 hb3 ho3
 have HC3 := zz (HTH.out _ w3 (d + 1) no nn nc H3.out (Nat.le_trans HB.out HB3.out.size) (HP.out.below HB3.out) (StV.below HV.out HB3.out).2.2.1 (StV.below HV.out HB3.out).2.2.2.1 (by have := HL.out; simp only [List.length_append]; omega))
 go_wp2_with fail
 refine HC3.out.mono ?_
 rintro e w4 ⟨rfl, h4, hb4, ho4⟩
 have H4 := zz h4
 have HB4 := zz (HB3.out.trans hb4)
 have HO4 := zz (HO3.out.trans ho4)
 have HH4 := zz (ho4.heap HNE.out (by decide) HH3.out)
 have d4_6 : w4.cell? ⟨w.heap.size, 6, none⟩ = some (.slice eo en ec) := by rw [Lib.cell_of_heap HH4.out]; rfl
 clear h4 hb4 ho4
 have HC4 := zz (bC B b d _ [mkT iO] w4 H4.out (Nat.le_trans HB.out HB4.out.size) (by have := HL.out; rw [eA]; (try simp only [List.length_append]); omega) (by simp))
 rw [eA] at HC4
 go_wp2_with fail
 refine HC4.out.mono ?_
 rintro e w5 ⟨rfl, h5, hb5, ho5⟩
 have H5 := zz h5
 have HB5 := zz (HB4.out.trans hb5)
 have HO5 := zz (HO4.out.trans ho5)
 have HH5 := zz (ho5.heap HNE.out (by decide) HH4.out)
 have d5_6 : w5.cell? ⟨w.heap.size, 6, none⟩ = some (.slice eo en ec) := by rw [Lib.cell_of_heap HH5.out]; rfl
 clear h5 hb5 ho5
 have HC5 := zz (HEL.out _ w5 (d + 1) eo en ec H5.out (Nat.le_trans HB.out HB5.out.size) (HP.out.below HB5.out) (StV.below HV.out HB5.out).2.2.2.2.1 (StV.below HV.out HB5.out).2.2.2.2.2.1 (by have := HL.out; simp only [List.length_append]; omega))
 go_wp2_with fail
 refine HC5.out.mono ?_
 rintro e w6 ⟨rfl, h6, hb6, ho6⟩
 have H6 := zz h6
 have HB6 := zz (HB5.out.trans hb6)
 have HO6 := zz (HO5.out.trans ho6)
 have HH6 := zz (ho6.heap HNE.out (by decide) HH5.out)
 clear h6 hb6 ho6
 have HC6 := zz (bC B b d _ [mkT cF] w6 H6.out (Nat.le_trans HB.out HB6.out.size) (by have := HL.out; rw [eA]; (try simp only [List.length_append]); omega) (by simp))
 rw [eA] at HC6
 go_wp2_with fail
 refine HC6.out.mono ?_
 rintro e w7 ⟨rfl, h7, hb7, ho7⟩
 have H7 := zz h7
 have HB7 := zz (HB6.out.trans hb7)
 have HO7 := zz (HO6.out.trans ho7)
 have HH7 := zz (ho7.heap HNE.out (by decide) HH6.out)
 clear h7 hb7 ho7
 have HZ : Hid (PC B b (l ++ (aC d (cIf ++ (exV 1 val ++ cV)) ++ (bG (d + 1) thn ++ ((aC d iO ++ bG (d + 1) els) ++ aC d cF)))) w7) := zz (by
  have h9 := H7.out
  simp only [List.append_assoc] at h9 ⊢
  exact h9)
 go_wp2_with fail
 try simp only [Exit.inBlock, Exit.then]
 go_end0
 exact ⟨rfl, HZ.out, HB7.out, HO7.out⟩
theorem JE {B b d : Nat} {at_ : Nat} {tq vq no eo co : Option Addr} {nn nc en ec cn cc : Nat} {name : Lx.B} {dst val : Ex} {thn els : Sts} {cases : Cas} (hTh : uZ B b thn) (hok : bB val) (hEl : uZ B b els) (l : List UInt8) (w : World) (h : PC B b l w) (hB : B <= w.heap.size) (hP : PEnv B w) (hv : StV w (fun k => k < B) (.pointer tq) (.pointer vq) (.slice no nn nc) (.slice eo en ec) (.slice co cn cc) dst val thn els cases) (hlen : l.length + (aC d (cIf ++ (exV 1 val ++ cV)) ++ (bG (d + 1) thn ++ ((if els.len = 0 then [] else aC d iO ++ bG (d + 1) els) ++ aC d cF))).length <= 100000000) :
  aI B b l (aC d (cIf ++ (exV 1 val ++ cV)) ++ (bG (d + 1) thn ++ ((if els.len = 0 then [] else aC d iO ++ bG (d + 1) els) ++ aC d cF))) w 185 #[.pointer (some ⟨b, 0, none⟩), .agg #[.int .i64 12, .int .i64 (at_ : Nat), .string (mkT name), .pointer tq, .pointer vq, .slice no nn nc, .slice eo en ec, .slice co cn cc], .int .i64 (d : Nat)] := by
 have hb := aG w #[.int .i64 12, .int .i64 (at_ : Nat), .string (mkT name), .pointer tq, .pointer vq, .slice no nn nc, .slice eo en ec, .slice co cn cc] 71
 have HG : Hid (aI B b l (aC d (cIf ++ (exV 1 val ++ cV)) ++ (bG (d + 1) thn ++ ((if els.len = 0 then [] else aC d iO ++ bG (d + 1) els) ++ aC d cF))) (w.alloc (.cells #[.int .i64 12, .int .i64 (at_ : Nat), .string (mkT name), .pointer tq, .pointer vq, .slice no nn nc, .slice eo en ec, .slice co cn cc] 71)) 231 #[.pointer (some ⟨b, 0, none⟩), .agg #[.int .i64 12, .int .i64 (at_ : Nat), .string (mkT name), .pointer tq, .pointer vq, .slice no nn nc, .slice eo en ec, .slice co cn cc], .int .i64 (d : Nat)]) := zz (by
  by_cases h0 : els.len = 0
  ·rw [if_pos h0, List.nil_append] at hlen ⊢
   exact D4 hTh hok h0 l (w.alloc (.cells #[.int .i64 12, .int .i64 (at_ : Nat), .string (mkT name), .pointer tq, .pointer vq, .slice no nn nc, .slice eo en ec, .slice co cn cc] 71)) (h.fresh hb) (Nat.le_trans hB hb.size) (hP.below (hb.mono hB)) (StV.below hv (hb.mono hB)) hlen
  ·rw [if_neg h0] at hlen ⊢
   exact xL hTh hok hEl h0 l (w.alloc (.cells #[.int .i64 12, .int .i64 (at_ : Nat), .string (mkT name), .pointer tq, .pointer vq, .slice no nn nc, .slice eo en ec, .slice co cn cc] 71)) (h.fresh hb) (Nat.le_trans hB hb.size) (hP.below (hb.mono hB)) (StV.below hv (hb.mono hB)) hlen)
 obtain ⟨out, hout⟩ : ∃ out, out = aC d (cIf ++ (exV 1 val ++ cV)) ++ (bG (d + 1) thn ++ ((if els.len = 0 then [] else aC d iO ++ bG (d + 1) els) ++ aC d cF)) := ⟨_, rfl⟩
 rw [<- hout] at HG ⊢
 unfold aI at HG ⊢
 have HB2 := zz (hb.mono hB)
 have HO2 : Hid (Others b w (w.alloc (.cells #[.int .i64 12, .int .i64 (at_ : Nat), .string (mkT name), .pointer tq, .pointer vq, .slice no nn nc, .slice eo en ec, .slice co cn cc] 71))) := zz (Others.of_new hb)
 clear h hB hP hv hlen hb hok hTh hEl hout
 go_enter Tryz.func185, Tryz.ntmps185
 go_wp2_with fail
 refine HG.out.mono ?_
 rintro e w3 ⟨rfl, h3, hb3, ho3⟩
 have H3 := zz h3
 have HB3 := zz (HB2.out.trans hb3)
 have HO3 := zz (HO2.out.trans ho3)
 clear h3 hb3 ho3
 go_wp2_with fail
 try simp only [Exit.inBlock, Exit.then]
 go_end0
 exact ⟨rfl, H3.out, HB3.out, HO3.out⟩
def Tr.Cas.toList : Cas -> List Ca
 | .nil => []
 | .cons x xs => x :: xs.toList
theorem pQ : ∀ xs : Cas, xs.toList.length = xs.len
 | .nil => rfl
 | .cons _ xs => congrArg (· + 1) (pQ xs)
def iN (d : Nat) : List Ca -> Lx.B
 | [] => []
 | x :: xs => caV d x ++ iN d xs
theorem tC (d : Nat) : ∀ xs : Cas, jS d xs = iN d xs.toList
 | .nil => by rw [jS]; rfl
 | .cons x xs => by rw [jS, tC d xs]; rfl
theorem tD (d : Nat) : ∀ (l : List Ca) (x : Ca), iN d (l ++ [x]) = iN d l ++ caV d x
 | [], x => by show caV d x ++ [] = [] ++ caV d x; rw [List.append_nil, List.nil_append]
 | y :: l, x => by show caV d y ++ iN d (l ++ [x]) = _; rw [tD d l x, <- List.append_assoc]; rfl
theorem BI (d : Nat) : ∀ (l : List Ca) (k : Nat), (iN d (l.take k)).length <= (iN d l).length
 | [], k => by simp [iN]
 | x :: xs, 0 => Nat.zero_le _
 | x :: xs, k + 1 => by
  show (caV d x ++ iN d (xs.take k)).length <= (caV d x ++ iN d xs).length
  have := BI d xs k
  simp only [List.length_append]
  omega
theorem xM {F : Nat -> Prop} {g : Nat} : ∀ (xs : Cas) (i : Nat), CasIn w F g i xs -> ∀ (j : Nat) (x : Ca), xs.toList[j]? = some x -> CaIn w F g ((i + j) * 6) x
 | .nil, _, _, j, x, h => by simp [Tr.Cas.toList] at h
 | .cons y ys, i, ⟨h1, _⟩, 0, x, h => by
  have e : y = x := by simpa [Tr.Cas.toList] using h
  subst e
  exact h1
 | .cons y ys, i, ⟨_, h2⟩, j + 1, x, h => by
  have := xM ys (i + 1) h2 j x (by simpa [Tr.Cas.toList] using h)
  rw [show i + (j + 1) = i + 1 + j by omega]; exact this
def CaW (B b : Nat) : Ca -> Prop
 | .mk _ _ _ dst val body => bB dst /\ bB val /\ uZ B b body
theorem xN {B b d : Nat} {at_ : Nat} {tq vq no eo co : Option Addr} {nn nc en ec cn cc : Nat} {name : Lx.B} {dst val : Ex} {thn els : Sts} {cases : Cas} (hA : ∀ x ∈ cases.toList, CaW B b x) (l : List UInt8) (w : World) (h : PC B b l w) (hB : B <= w.heap.size) (hP : PEnv B w) (hv : StV w (fun k => k < B) (.pointer tq) (.pointer vq) (.slice no nn nc) (.slice eo en ec) (.slice co cn cc) dst val thn els cases) (hlen : l.length + (aC d cG ++ (iN d cases.toList ++ aC d cF)).length <= 100000000) :
  aI B b l (aC d cG ++ (iN d cases.toList ++ aC d cF)) w 232 #[.pointer (some ⟨b, 0, none⟩), .agg #[.int .i64 14, .int .i64 (at_ : Nat), .string (mkT name), .pointer tq, .pointer vq, .slice no nn nc, .slice eo en ec, .slice co cn cc], .int .i64 (d : Nat)] := by
 unfold aI
 have hbw := aG w #[.int .i64 14, .int .i64 (at_ : Nat), .string (mkT name), .pointer tq, .pointer vq, .slice no nn nc, .slice eo en ec, .slice co cn cc] 71
 have hblt := h.1.lt
 have HL : Hid (l.length + ((aC d cG).length + ((iN d cases.toList).length + (aC d cF).length)) <= 100000000) := zz (by rw [List.length_append, List.length_append] at hlen; exact hlen)
 have hd : d <= 100000000 := by have := HL.out; simp only [aD] at this; omega
 have hw : IntKind.i64.wrap ((d : Int) + 1) = ((d + 1 : Nat) : Int) := by rw [IntWalk.i64_in _ (by omega)]; omega
 have hcn : cn = cases.toList.length := by rw [pQ]; exact oP hv.2.2.2.2.2.2.1
 subst hcn
 have hn0 : cases.toList.length <= 9223372036854775807 := by
  rw [pQ]
  rcases hv.2.2.2.2.2.2.1 with ⟨_, e2⟩ | ⟨g, cap, _, h1, h2, _⟩
  ·omega
  ·unfold maxLen at h2; omega
 have HA := zz hA
 have HB := zz hB
 have HP := zz hP
 have HG : Hid (∀ k x, cases.toList[k]? = some x -> ∃ g, co = some ⟨g, 0, none⟩ /\ g < B /\ CaIn w (fun k => k < B) g (k * 6) x) := zz fun k x hx => by
  rcases hv.2.2.2.2.2.2.1 with ⟨e, e2⟩ | ⟨g, cap, e, _, _, _, hg⟩
  ·rw [<- pQ] at e2
   have := List.getElem?_eq_none (l := cases.toList) (i := k) (by omega)
   rw [this] at hx; cases hx
  ·have hst := hv.2.2.2.2.2.2.2 g _ _ e
   injection e with e1 _ _
   refine ⟨g, e1, hg, ?_⟩
   have := xM cases 0 hst k x hx
   rw [Nat.zero_add] at this; exact this
 have HB1 := zz (hbw.mono hB)
 have HO1 : Hid (Others b w (w.alloc (.cells #[.int .i64 14, .int .i64 (at_ : Nat), .string (mkT name), .pointer tq, .pointer vq, .slice no nn nc, .slice eo en ec, .slice co cases.toList.length cc] 71))) := zz (Others.of_new hbw)
 have HNE : Hid (w.heap.size ≠ b) := zz (by omega)
 have HH1 : Hid ((w.alloc (.cells #[.int .i64 14, .int .i64 (at_ : Nat), .string (mkT name), .pointer tq, .pointer vq, .slice no nn nc, .slice eo en ec, .slice co cases.toList.length cc] 71)).heap[w.heap.size]? = some (Obj.cells #[.int .i64 14, .int .i64 (at_ : Nat), .string (mkT name), .pointer tq, .pointer vq, .slice no nn nc, .slice eo en ec, .slice co cases.toList.length cc] 71 (0, 0))) := zz (heap_alloc_new w _)
 have HC1 := zz (bC B b d l [mkT cG] (w.alloc (.cells #[.int .i64 14, .int .i64 (at_ : Nat), .string (mkT name), .pointer tq, .pointer vq, .slice no nn nc, .slice eo en ec, .slice co cases.toList.length cc] 71)) (h.fresh hbw) (Nat.le_trans hB hbw.size) (by have := HL.out; rw [eA]; omega) (by simp))
 rw [eA, bO w] at HC1
 clear h hB hP hv hlen hbw hblt hd hA
 go_enter Tryz.func232, Tryz.ntmps232
 go_wp2_with fail
 refine HC1.out.mono ?_
 rintro e w2 ⟨rfl, h2, hb2, ho2⟩
 have H2 := zz h2
 have HB2 := zz (HB1.out.trans hb2)
 have HO2 := zz (HO1.out.trans ho2)
 have hh2 := ho2.heap HNE.out (by decide) HH1.out
 have d2_7 : w2.cell? ⟨w.heap.size, 7, none⟩ = some (.slice co cases.toList.length cc) := by rw [Lib.cell_of_heap hh2]; rfl
 clear h2 hb2 ho2 hh2
 go_wp2_with fail
 go_loopw [15, 7] (fun i _ wr => ∃ k : Nat, k <= cases.toList.length /\ i = .int .i64 k /\ PC B b (l ++ (aC d cG ++ iN d (cases.toList.take k))) wr /\ Below B w wr /\ Others b w wr) (fun i _ _ => cases.toList.length - (intOf i).toNat)
 case atStart => exact ⟨0, Nat.zero_le _, rfl, by rw [List.take_zero]; show PC B b (l ++ (aC d cG ++ [])) w2; rw [List.append_nil]; exact H2.out, HB2.out, HO2.out⟩
 case round =>
  obtain ⟨k, hk, rfl, hp, hb, ho⟩ := hrel
  have HPP := zz hp
  have HBL := zz hb
  have HO := zz ho
  clear hp hb ho d2_7
  by_cases hlt : k < cases.toList.length
  ·obtain ⟨x, hkx⟩ : ∃ x, cases.toList[k]? = some x := ⟨_, List.getElem?_eq_getElem hlt⟩
   obtain ⟨g, rfl, hg, hst⟩ := HG.out k x hkx
   have hmem : x ∈ cases.toList := List.mem_of_getElem? hkx
   have htk : iN d (cases.toList.take (k + 1)) = iN d (cases.toList.take k) ++ caV d x := by rw [List.take_add_one, hkx]; exact tD d _ x
   have hle := BI d cases.toList (k + 1)
   rw [htk, List.length_append] at hle
   have hW := HA.out x hmem
   obtain ⟨code, cat_, cname, cdst, cval, body⟩ := x
   obtain ⟨hok1, hok2, hSW⟩ := hW
   obtain ⟨tv, vv, nv, c0, c1, c2, c3, c4, c5, hv1, hv2, hv3, hv4⟩ := hst
   obtain ⟨ctq, rfl⟩ := eM hv1
   obtain ⟨cvq, rfl⟩ := eM hv2
   obtain ⟨cbo, cbn, cbc, rfl⟩ := j3 hv3
   rw [<- HBL.out.cell (p := ⟨g, k * 6, none⟩) hg] at c0
   rw [<- HBL.out.cell (p := ⟨g, k * 6 + 1, none⟩) hg] at c1
   rw [<- HBL.out.cell (p := ⟨g, k * 6 + 2, none⟩) hg] at c2
   rw [<- HBL.out.cell (p := ⟨g, k * 6 + 3, none⟩) hg] at c3
   rw [<- HBL.out.cell (p := ⟨g, k * 6 + 4, none⟩) hg] at c4
   rw [<- HBL.out.cell (p := ⟨g, k * 6 + 5, none⟩) hg] at c5
   have hcaV : caV d (.mk code cat_ cname cdst cval body) = aC d (dG code cname cdst cval ++ kQ) ++ bG (d + 1) body := by rw [caV]
   rw [hcaV, List.length_append] at hle
   rw [hcaV] at htk
   have hki : (k : Int) < (cases.toList.length : Int) := by omega
   have hkii : (0 : Int) <= (k : Int) /\ (k : Int) < (cases.toList.length : Int) := by omega
   have hw1 : IntKind.i64.wrap ((k : Int) + 1) = (k : Int) + 1 := IntWalk.i64_in _ (by omega)
   have HTK := zz htk
   have HLE : Hid (l.length + ((aC d cG).length + ((iN d (cases.toList.take k)).length + ((aC d (dG code cname cdst cval ++ kQ)).length + (bG (d + 1) body).length))) <= 100000000) := zz (by have := HL.out; omega)
   have hbc := aG wr #[.int .i64 (code : Nat), .int .i64 (cat_ : Nat), .string (mkT cname), .pointer ctq, .pointer cvq, .slice cbo cbn cbc] 134
   have hsz := Nat.le_trans HB.out HBL.out.size
   have hbB := HBL.out.trans (hbc.mono hsz)
   have hbltr := HPP.out.1.lt
   have HBc := zz hbB
   have HOc : Hid (Others b w (wr.alloc (.cells #[.int .i64 (code : Nat), .int .i64 (cat_ : Nat), .string (mkT cname), .pointer ctq, .pointer cvq, .slice cbo cbn cbc] 134))) := zz (HO.out.trans (Others.of_new hbc))
   have HTALK := zz (D3 (at_ := (cat_ : Int)) (no := cbo) (nn := cbn) (nc := cbc) (name := cname) (code := code) (wr.alloc (.cells #[.int .i64 (code : Nat), .int .i64 (cat_ : Nat), .string (mkT cname), .pointer ctq, .pointer cvq, .slice cbo cbn cbc] 134)) (Nat.le_trans hsz hbc.size) (HP.out.below hbB) hok1 hok2 (hv1.below hbB) (hv2.below hbB) (by have := HLE.out; have e9 := aD d (dG code cname cdst cval ++ kQ); rw [List.length_append] at e9; omega))
   have HPc : Hid (∀ V, Below (wr.alloc (.cells #[.int .i64 (code : Nat), .int .i64 (cat_ : Nat), .string (mkT cname), .pointer ctq, .pointer cvq, .slice cbo cbn cbc] 134)).heap.size (wr.alloc (.cells #[.int .i64 (code : Nat), .int .i64 (cat_ : Nat), .string (mkT cname), .pointer ctq, .pointer cvq, .slice cbo cbn cbc] 134)) V -> PC B b (l ++ (aC d cG ++ iN d (cases.toList.take k))) V) := zz fun V hV => (HPP.out.fresh hbc).fresh hV
   have HSZ : Hid (B <= (wr.alloc (.cells #[.int .i64 (code : Nat), .int .i64 (cat_ : Nat), .string (mkT cname), .pointer ctq, .pointer cvq, .slice cbo cbn cbc] 134)).heap.size) := zz (Nat.le_trans hsz hbc.size)
   have HNEc : Hid (wr.heap.size ≠ b) := zz (by omega)
   have HLTc : Hid (wr.heap.size < (wr.alloc (.cells #[.int .i64 (code : Nat), .int .i64 (cat_ : Nat), .string (mkT cname), .pointer ctq, .pointer cvq, .slice cbo cbn cbc] 134)).heap.size) := zz (by rw [bO]; exact Nat.lt_succ_self _)
   have HHc : Hid ((wr.alloc (.cells #[.int .i64 (code : Nat), .int .i64 (cat_ : Nat), .string (mkT cname), .pointer ctq, .pointer cvq, .slice cbo cbn cbc] 134)).heap[wr.heap.size]? = some (Obj.cells #[.int .i64 (code : Nat), .int .i64 (cat_ : Nat), .string (mkT cname), .pointer ctq, .pointer cvq, .slice cbo cbn cbc] 134 (0, 0))) := zz (heap_alloc_new wr _)
   have HSTS : Hid (∀ V (l' : List UInt8), PC B b l' V -> Below B w V -> l'.length + (bG (d + 1) body).length <= 100000000 -> aI B b l' (bG (d + 1) body) V 131 #[.pointer (some ⟨b, 0, none⟩), .slice cbo cbn cbc, .int .i64 ((d + 1 : Nat) : Int)]) := zz fun V l' h1 h2 h3 =>
    hSW l' V (d + 1) cbo cbn cbc h1 (Nat.le_trans HB.out h2.size) (HP.out.below h2) hv3 (fun g' n' cap' e => StsIn.keeps (Keeps.of_below (S := fun k => B <= k) h2 (fun _ _ e => e)) (fun b h1 h2 => by have h3 : b < B := h1; have h4 : B <= b := h2; omega) g' (hv3.mem e) 0 body (hv4 g' n' cap' e)) h3
   clear hkx hg hmem htk hle hv1 hv2 hv3 hv4 hcaV hbc hsz hbB hbltr hok1 hok2 hSW
   go_wp2_with fail
   refine HTALK.out.mono ?_
   rintro e w3 ⟨rfl, hb3⟩
   have H3 := zz (HPc.out w3 hb3)
   have HB3 := zz (HBc.out.trans (hb3.mono HSZ.out))
   have HO3 : Hid (Others b w w3) := zz (HOc.out.trans (Others.of_new hb3))
   have HH3 : Hid (w3.heap[wr.heap.size]? = some (Obj.cells #[.int .i64 (code : Nat), .int .i64 (cat_ : Nat), .string (mkT cname), .pointer ctq, .pointer cvq, .slice cbo cbn cbc] 134 (0, 0))) := zz (by rw [hb3.block _ HLTc.out]; exact HHc.out)
   have HC3 := zz (bC B b d _ [mkT (dG code cname cdst cval), mkT kQ] w3 H3.out (Nat.le_trans HB.out HB3.out.size) (by have := HLE.out; rw [tB]; simp only [List.length_append]; omega) (by simp))
   rw [tB] at HC3
   clear hb3
   go_wp2_with fail
   refine HC3.out.mono ?_
   rintro e w4 ⟨rfl, h4, hb4, ho4⟩
   have HB4 := zz (HB3.out.trans hb4)
   have HO4 := zz (HO3.out.trans ho4)
   have hh4 := ho4.heap HNEc.out (by decide) HH3.out
   have d4_5 : w4.cell? ⟨wr.heap.size, 5, none⟩ = some (.slice cbo cbn cbc) := by rw [Lib.cell_of_heap hh4]; rfl
   have HC4 := zz (HSTS.out w4 _ h4 HB4.out (by have := HLE.out; simp only [List.length_append]; omega))
   clear h4 hb4 ho4 hh4
   go_wp2_with fail
   refine HC4.out.mono ?_
   rintro e w5 ⟨rfl, h5, hb5, ho5⟩
   have H5 : Hid (PC B b (l ++ (aC d cG ++ iN d (cases.toList.take (k + 1)))) w5) := zz (by
    rw [HTK.out]
    simp only [List.append_assoc] at h5 ⊢
    exact h5)
   have HB5 := zz (HB4.out.trans hb5)
   have HO5 := zz (HO4.out.trans ho5)
   clear h5 hb5 ho5
   go_wp2_with fail
   exact ⟨⟨k + 1, by omega, by simp, H5.out, HB5.out, HO5.out⟩, by simp [intOf]; omega⟩
  ·have hki : ¬ (k : Int) < (cases.toList.length : Int) := by omega
   have hkk : k = cases.toList.length := by omega
   have h1 := HPP.out
   rw [hkk, List.take_length] at h1
   have HC2 := zz (bC B b d _ [mkT cF] wr h1 (Nat.le_trans HB.out HBL.out.size) (by have := HL.out; rw [eA]; simp only [List.length_append]; omega) (by simp))
   rw [eA] at HC2
   clear hkk h1
   go_wp2_with fail
   refine HC2.out.mono ?_
   rintro e w3 ⟨rfl, h3, hb3, ho3⟩
   have H3 : Hid (PC B b (l ++ (aC d cG ++ (iN d cases.toList ++ aC d cF))) w3) := zz (by
    simp only [List.append_assoc] at h3 ⊢
    exact h3)
   have HB3 := zz (HBL.out.trans hb3)
   have HO3 := zz (HO.out.trans ho3)
   clear h3 hb3 ho3
   go_wp2_with fail
   try simp only [Exit.inBlock, Exit.then]
   go_end0
   exact ⟨rfl, H3.out, HB3.out, HO3.out⟩
theorem xO {B b d : Nat} {at_ : Nat} {tq vq no eo co : Option Addr} {nn nc en ec cn cc : Nat} {name : Lx.B} {dst val : Ex} {thn els : Sts} {cases : Cas} (hA : ∀ x ∈ cases.toList, CaW B b x) (l : List UInt8) (w : World) (h : PC B b l w) (hB : B <= w.heap.size) (hP : PEnv B w) (hv : StV w (fun k => k < B) (.pointer tq) (.pointer vq) (.slice no nn nc) (.slice eo en ec) (.slice co cn cc) dst val thn els cases) (hlen : l.length + (aC d cG ++ (iN d cases.toList ++ aC d cF)).length <= 100000000) :
  aI B b l (aC d cG ++ (iN d cases.toList ++ aC d cF)) w 185 #[.pointer (some ⟨b, 0, none⟩), .agg #[.int .i64 14, .int .i64 (at_ : Nat), .string (mkT name), .pointer tq, .pointer vq, .slice no nn nc, .slice eo en ec, .slice co cn cc], .int .i64 (d : Nat)] := by
 have hb := aG w #[.int .i64 14, .int .i64 (at_ : Nat), .string (mkT name), .pointer tq, .pointer vq, .slice no nn nc, .slice eo en ec, .slice co cn cc] 71
 have HG : Hid (aI B b l (aC d cG ++ (iN d cases.toList ++ aC d cF)) (w.alloc (.cells #[.int .i64 14, .int .i64 (at_ : Nat), .string (mkT name), .pointer tq, .pointer vq, .slice no nn nc, .slice eo en ec, .slice co cn cc] 71)) 232 #[.pointer (some ⟨b, 0, none⟩), .agg #[.int .i64 14, .int .i64 (at_ : Nat), .string (mkT name), .pointer tq, .pointer vq, .slice no nn nc, .slice eo en ec, .slice co cn cc], .int .i64 (d : Nat)]) := zz (xN hA l (w.alloc (.cells #[.int .i64 14, .int .i64 (at_ : Nat), .string (mkT name), .pointer tq, .pointer vq, .slice no nn nc, .slice eo en ec, .slice co cn cc] 71)) (h.fresh hb) (Nat.le_trans hB hb.size) (hP.below (hb.mono hB)) (StV.below hv (hb.mono hB)) hlen)
 obtain ⟨out, hout⟩ : ∃ out, out = aC d cG ++ (iN d cases.toList ++ aC d cF) := ⟨_, rfl⟩
 rw [<- hout] at HG ⊢
 unfold aI at HG ⊢
 have HB2 := zz (hb.mono hB)
 have HO2 : Hid (Others b w (w.alloc (.cells #[.int .i64 14, .int .i64 (at_ : Nat), .string (mkT name), .pointer tq, .pointer vq, .slice no nn nc, .slice eo en ec, .slice co cn cc] 71))) := zz (Others.of_new hb)
 clear h hB hP hv hlen hb hA hout
 go_enter Tryz.func185, Tryz.ntmps185
 go_wp2_with fail
 refine HG.out.mono ?_
 rintro e w3 ⟨rfl, h3, hb3, ho3⟩
 have H3 := zz h3
 have HB3 := zz (HB2.out.trans hb3)
 have HO3 := zz (HO2.out.trans ho3)
 clear h3 hb3 ho3
 go_wp2_with fail
 try simp only [Exit.inBlock, Exit.then]
 go_end0
 exact ⟨rfl, H3.out, HB3.out, HO3.out⟩
theorem zR {B b d code : Nat} (hc : code = 0 \/ 14 < code) {at_ : Nat} {tq vq no eo co : Option Addr} {nn nc en ec cn cc : Nat} {name : Lx.B} (l : List UInt8) (w : World) (h : PC B b l w) (hB : B <= w.heap.size) :
  aI B b l [] w 185 #[.pointer (some ⟨b, 0, none⟩), .agg #[.int .i64 (code : Nat), .int .i64 (at_ : Nat), .string (mkT name), .pointer tq, .pointer vq, .slice no nn nc, .slice eo en ec, .slice co cn cc], .int .i64 (d : Nat)] := by
 unfold aI
 rw [List.append_nil]
 have hb := aG w #[.int .i64 (code : Nat), .int .i64 (at_ : Nat), .string (mkT name), .pointer tq, .pointer vq, .slice no nn nc, .slice eo en ec, .slice co cn cc] 71
 have H := zz (h.fresh hb)
 have HB2 := zz (hb.mono hB)
 have HO2 : Hid (Others b w (w.alloc (.cells #[.int .i64 (code : Nat), .int .i64 (at_ : Nat), .string (mkT name), .pointer tq, .pointer vq, .slice no nn nc, .slice eo en ec, .slice co cn cc] 71))) := zz (Others.of_new hb)
 have e1 : ((code : Int) == 1) = false := beq_eq_false_iff_ne.2 (by omega)
 have e2 : ((code : Int) == 2) = false := beq_eq_false_iff_ne.2 (by omega)
 have e3 : ((code : Int) == 3) = false := beq_eq_false_iff_ne.2 (by omega)
 have e4 : ((code : Int) == 4) = false := beq_eq_false_iff_ne.2 (by omega)
 have e5 : ((code : Int) == 5) = false := beq_eq_false_iff_ne.2 (by omega)
 have e6 : ((code : Int) == 6) = false := beq_eq_false_iff_ne.2 (by omega)
 have e7 : ((code : Int) == 7) = false := beq_eq_false_iff_ne.2 (by omega)
 have e8 : ((code : Int) == 8) = false := beq_eq_false_iff_ne.2 (by omega)
 have e9 : ((code : Int) == 9) = false := beq_eq_false_iff_ne.2 (by omega)
 have e10 : ((code : Int) == 10) = false := beq_eq_false_iff_ne.2 (by omega)
 have e11 : ((code : Int) == 11) = false := beq_eq_false_iff_ne.2 (by omega)
 have e12 : ((code : Int) == 12) = false := beq_eq_false_iff_ne.2 (by omega)
 have e13 : ((code : Int) == 13) = false := beq_eq_false_iff_ne.2 (by omega)
 have e14 : ((code : Int) == 14) = false := beq_eq_false_iff_ne.2 (by omega)
 clear h hb hB hc
 go_enter Tryz.func185, Tryz.ntmps185
 go_wp2_with fail
 try simp only [Exit.inBlock, Exit.then]
 go_end0
 exact ⟨rfl, H.out, HB2.out, HO2.out⟩
mutual
theorem KQ {B b : Nat} : ∀ s : St, qC s -> StW B b s
 | .mk code at_ name dst val thn els cases, hok => by
  obtain ⟨hokd, hokv, hokt, hoke, hokc⟩ := hok
  have hTh := l8 thn (nR (B := B) (b := b) thn hokt)
  have hEl := l8 els (nR (B := B) (b := b) els hoke)
  have hCa := BJ (B := B) (b := b) cases hokc
  intro l w d tq vq no eo co nn nc en ec cn cc h hB hP hv hlen
  by_cases h1 : code = 1
  ·subst h1
   have e : stV d (.mk 1 at_ name dst val thn els cases) = aC d (name ++ (mW ++ exV 1 val)) := by rw [stV]; rfl
   rw [e] at hlen ⊢
   exact F8 l w h hB hP hokv hv.2.1 hlen
  by_cases h2 : code = 2
  ·subst h2
   have e : stV d (.mk 2 at_ name dst val thn els cases) = aC d (name ++ (mX ++ exV 1 val)) := by rw [stV]; rfl
   rw [e] at hlen ⊢
   exact F9 l w h hB hP hokv hv.2.1 hlen
  by_cases h3 : code = 3
  ·subst h3
   have e : stV d (.mk 3 at_ name dst val thn els cases) = aC d (cY dst val) := by rw [stV]; rfl
   rw [e] at hlen ⊢
   exact DZ l w h hB hP hokd hokv hv.1 hv.2.1 hlen
  by_cases h4 : code = 4
  ·subst h4
   have e : stV d (.mk 4 at_ name dst val thn els cases) = aC d (fR ++ (exV 1 val ++ cRp)) := by rw [stV]; rfl
   rw [e] at hlen ⊢
   exact zM l w h hB hP hokv hv.2.1 hlen
  by_cases h5 : code = 5
  ·subst h5
   have e : stV d (.mk 5 at_ name dst val thn els cases) = aC d (fS ++ exV 1 val) := by rw [stV]; rfl
   rw [e] at hlen ⊢
   exact zN l w h hB hP hokv hv.2.1 hlen
  by_cases h6 : code = 6
  ·subst h6
   have e : stV d (.mk 6 at_ name dst val thn els cases) = aC d (fT ++ exV 1 val) := by rw [stV]; rfl
   rw [e] at hlen ⊢
   exact zO l w h hB hP hokv hv.2.1 hlen
  by_cases h7 : code = 7
  ·subst h7
   have e : stV d (.mk 7 at_ name dst val thn els cases) = aC d (cGo ++ exV 1 val) := by rw [stV]; rfl
   rw [e] at hlen ⊢
   exact JC l w h hB hP hokv hv.2.1 hlen
  by_cases h8 : code = 8
  ·subst h8
   have e : stV d (.mk 8 at_ name dst val thn els cases) = iP d val := by rw [stV]; rfl
   rw [e] at hlen ⊢
   exact xJ l w h hB hP hokv hv.2.1 hlen
  by_cases h9 : code = 9
  ·subst h9
   have e : stV d (.mk 9 at_ name dst val thn els cases) = aC d jR := by rw [stV]; rfl
   rw [e] at hlen ⊢
   exact zL l w h hB hlen
  by_cases h10 : code = 10
  ·subst h10
   have e : stV d (.mk 10 at_ name dst val thn els cases) = aC d dW := by rw [stV]; rfl
   rw [e] at hlen ⊢
   exact rU l w h hB hlen
  by_cases h11 : code = 11
  ·subst h11
   have e : stV d (.mk 11 at_ name dst val thn els cases) = aC d (exV 1 val) := by rw [stV]; rfl
   rw [e] at hlen ⊢
   exact JD l w h hB hP hokv hv.2.1 hlen
  by_cases h12 : code = 12
  ·subst h12
   have e : stV d (.mk 12 at_ name dst val thn els cases) = aC d (cIf ++ (exV 1 val ++ cV)) ++ (bG (d + 1) thn ++ ((if els.len = 0 then [] else aC d iO ++ bG (d + 1) els) ++ aC d cF)) := by rw [stV]; rfl
   rw [e] at hlen ⊢
   exact JE hTh hokv hEl l w h hB hP hv hlen
  by_cases h13 : code = 13
  ·subst h13
   have e : stV d (.mk 13 at_ name dst val thn els cases) = aC d (rT ++ (exV 1 val ++ cV)) ++ (bG (d + 1) thn ++ aC d cF) := by rw [stV]; rfl
   rw [e] at hlen ⊢
   exact GB hTh hokv l w h hB hP hv hlen
  by_cases h14 : code = 14
  ·subst h14
   have e : stV d (.mk 14 at_ name dst val thn els cases) = aC d cG ++ (iN d cases.toList ++ aC d cF) := by rw [stV, tC]; rfl
   rw [e] at hlen ⊢
   exact xO hCa l w h hB hP hv hlen
  ·have e : stV d (.mk code at_ name dst val thn els cases) = [] := by rw [stV, if_neg h1, if_neg h2, if_neg h3, if_neg h4, if_neg h5, if_neg h6, if_neg h7, if_neg h8, if_neg h9, if_neg h10, if_neg h11, if_neg h12, if_neg h13, if_neg h14]
   rw [e]
   exact zR (by omega) l w h hB
theorem nR {B b : Nat} : ∀ xs : Sts, eV xs -> ∀ x ∈ xs.toList, StW B b x
 | .nil, _, x, hx => by cases hx
 | .cons y ys, h, x, hx => by
  rcases List.mem_cons.1 hx with e | e
  ·rw [e]; exact KQ y h.1
  ·exact nR ys h.2 x e
theorem KR {B b : Nat} : ∀ c : Ca, vW c -> CaW B b c
 | .mk _ _ _ _ _ body, h => ⟨h.1, h.2.1, l8 body (nR body h.2.2)⟩
theorem BJ {B b : Nat} : ∀ xs : Cas, mE xs -> ∀ x ∈ xs.toList, CaW B b x
 | .nil, _, x, hx => by cases hx
 | .cons y ys, h, x, hx => by
  rcases List.mem_cons.1 hx with e | e
  ·rw [e]; exact KR y h.1
  ·exact BJ ys h.2 x e
end
theorem GC {B b : Nat} (xs : Sts) (h : eV xs) : uZ B b xs := l8 xs (nR xs h)
end Go.Proofs.YtnpapppipccdbaaGreatDoor
