/-
  Texts of one proof, in build order: FoldY2 FoldKnownJ1 FoldKnownJ2
-/
import Derived.Test.YtnpapppipccdbaaGreatDoorK7
import Derived.Test.YtnpapppipccdbaaGreatDoorRows
import Derived.ProofKit
import Derived.SizedLaws
import Derived.Stop.Joined
set_option maxRecDepth 100000
set_option maxHeartbeats 12800000
namespace Go.Proofs.YtnpapppipccdbaaGreatDoor
open Go.RowKit Lx Tr
variable {w w' : World}
def builtW (w : World) (q : Option Addr) : World := ((w.alloc (.cells #[.int .i64 5, .int .i64 0, .string ⟨#[]⟩, .pointer none, .pointer q, .slice none 0 0, .slice none 0 0, .slice none 0 0] 71)).alloc (.cells #[.string ⟨#[109, 97, 105, 110]⟩, .int .i64 0, .slice none 0 0, .int .i64 0, .slice (some ⟨w.heap.size, 0, none⟩) 1 1] 51)).alloc (.cells #[.slice none 0 0, .slice (some ⟨w.heap.size + 1, 0, none⟩) 1 1] 26)
theorem built_src {B : Nat} {q : Option Addr} {x : Ex} (w : World) (hx : ExIn w (fun b => B <= b) (.pointer q) x) : FuRow (builtW w q) (fun b => b < (builtW w q).heap.size) (.slice (some ⟨w.heap.size + 1, 0, none⟩) 1 1) [⟨[109, 97, 105, 110], 0, [], 0, opS x⟩] /\ Below w.heap.size w (builtW w q) := by
 obtain ⟨o1, h1⟩ : ∃ o1 : Obj, o1 = .cells #[.int .i64 5, .int .i64 0, .string ⟨#[]⟩, .pointer none, .pointer q, .slice none 0 0, .slice none 0 0, .slice none 0 0] 71 := ⟨_, rfl⟩
 obtain ⟨o2, h2⟩ : ∃ o2 : Obj, o2 = .cells #[.string ⟨#[109, 97, 105, 110]⟩, .int .i64 0, .slice none 0 0, .int .i64 0, .slice (some ⟨w.heap.size, 0, none⟩) 1 1] 51 := ⟨_, rfl⟩
 obtain ⟨o3, h3⟩ : ∃ o3 : Obj, o3 = .cells #[.slice none 0 0, .slice (some ⟨w.heap.size + 1, 0, none⟩) 1 1] 26 := ⟨_, rfl⟩
 have hW : builtW w q = ((w.alloc o1).alloc o2).alloc o3 := by unfold builtW; rw [h1, h2, h3]
 have z1 : (w.alloc o1).heap.size = w.heap.size + 1 := by simp
 have z2 : ((w.alloc o1).alloc o2).heap.size = w.heap.size + 2 := by simp
 have z3 : (((w.alloc o1).alloc o2).alloc o3).heap.size = w.heap.size + 3 := by simp
 have k2 : (((w.alloc o1).alloc o2).alloc o3).heap[w.heap.size + 1]? = some o2 := (heap_alloc_old _ _ (by rw [z2]; omega)).trans (by rw [<- z1]; exact heap_alloc_new _ _)
 have k1 : (((w.alloc o1).alloc o2).alloc o3).heap[w.heap.size]? = some o1 := (heap_alloc_old _ _ (by rw [z2]; omega)).trans ((heap_alloc_old _ _ (by rw [z1]; omega)).trans (heap_alloc_new _ _))
 have hk : Keeps (fun _ => False) w (((w.alloc o1).alloc o2).alloc o3) := (((Keeps.refl _ w).alloc _).alloc _).alloc _
 rw [hW]
 obtain ⟨W, hW2⟩ : ∃ W, W = ((w.alloc o1).alloc o2).alloc o3 := ⟨_, rfl⟩
 rw [<- hW2] at k2 k1 hk z3 ⊢
 rw [h2] at k2
 rw [h1] at k1
 have hx2 : ExIn W (fun b => b < W.heap.size) (.pointer q) x := ExIn.mono (fun b e _ => e) _ _ (hx.keeps hk (fun _ _ e => e))
 refine ⟨Or.inr ⟨w.heap.size + 1, 1, rfl, Nat.le_refl _, by decide, by omega, Nat.zero_lt_one, fun i p hi => ?_⟩, hk.below (Nat.le_refl _) (fun _ _ e => e.elim)⟩
 cases i with
 | succ i => cases hi
 | zero =>
  obtain rfl := Option.some.inj hi
  refine ⟨.slice none 0 0, .slice (some ⟨w.heap.size, 0, none⟩) 1 1, by rw [Lib.cell_of_heap k2]; rfl, by rw [Lib.cell_of_heap k2]; rfl, by rw [Lib.cell_of_heap k2]; rfl, by rw [Lib.cell_of_heap k2]; rfl, by rw [Lib.cell_of_heap k2]; rfl, Or.inl ⟨rfl, rfl⟩, Or.inr ⟨w.heap.size, 1, rfl, Nat.le_refl _, by decide, Nat.zero_lt_one, by omega⟩, fun g n cap e => ?_⟩
  cases e
  exact ⟨⟨.pointer none, .pointer q, .slice none 0 0, .slice none 0 0, .slice none 0 0, by rw [Lib.cell_of_heap k1]; rfl, by rw [Lib.cell_of_heap k1]; rfl, by rw [Lib.cell_of_heap k1]; rfl, by rw [Lib.cell_of_heap k1]; rfl, by rw [Lib.cell_of_heap k1]; rfl, by rw [Lib.cell_of_heap k1]; rfl, by rw [Lib.cell_of_heap k1]; rfl, by rw [Lib.cell_of_heap k1]; rfl, rfl, hx2, sl0, (fun _ _ _ e => by cases e), sl0, (fun _ _ _ e => by cases e), sl0, (fun _ _ _ e => by cases e)⟩, trivial⟩
theorem szE_newN (n : Int) (a : Nat) : szE (newN n a) <= 5 := by
 unfold newN
 split <;> simp only [szE, szEs] <;> omega
theorem opX_sz (op : Nat) (a b : Int) : szSs (opS (opX op a b)) <= 100 := by
 have h1 := szE_newN a 0
 have h2 := szE_newN b 0
 unfold opS opX
 simp only [szSs, szS, szE, szEs, szCs]
 omega
theorem known_any (op a b : Int) (ha : I64 a) (hb : I64 b) (w : World) (hE : LawEnv w) : Calls Tryz.prog 11 #[.int .i64 op, .int .i64 a, .int .i64 b] w fun e w' => e = .returned (.bool true) /\ Below w.heap.size w w' := by
 have HE := zz hE
 have HFD := zz (folded_any w hE)
 clear hE
 by_cases ha0 : a = -9223372036854775808
 ·subst ha0
  clear ha hb
  go_enter Tryz.func11, Tryz.ntmps11
  go_wp2_with fail
  refine HFD.out.mono ?_
  rintro e w1 ⟨rfl, hb1⟩
  have HB1 := zz hb1
  clear hb1
  go_wp2_with fail
  go_ret
  exact ⟨rfl, HB1.out⟩
 have e1 : (a == -9223372036854775808) = false := beq_eq_false_iff_ne.2 ha0
 by_cases hb0 : b = -9223372036854775808
 ·subst hb0
  clear ha hb ha0
  go_enter Tryz.func11, Tryz.ntmps11
  go_wp2_with fail
  refine HFD.out.mono ?_
  rintro e w1 ⟨rfl, hb1⟩
  have HB1 := zz hb1
  clear hb1
  go_wp2_with fail
  go_ret
  exact ⟨rfl, HB1.out⟩
 have e2 : (b == -9223372036854775808) = false := beq_eq_false_iff_ne.2 hb0
 have HNA : Hid (∀ w, GivesX w.heap.size w 36 #[.int .i64 a] (newN a 0)) := zz (fun w => numeral_any a ha ha0 w)
 have HNB : Hid (∀ w, GivesX w.heap.size w 36 #[.int .i64 b] (newN b 0)) := zz (fun w => numeral_any b hb hb0 w)
 have HI := zz (And.intro (And.intro ha ha0) (And.intro hb hb0))
 clear ha hb ha0 hb0
 unfold GivesX at HNA HNB
 go_enter Tryz.func11, Tryz.ntmps11
 go_wp2_with fail
 refine HFD.out.mono ?_
 rintro e w1 ⟨rfl, hb1⟩
 have HB1 := zz hb1
 clear hb1
 go_wp2_with fail
 refine (pick_any op 10 w1 (by decide) (by decide)).mono ?_
 rintro e w1' ⟨r, hr, rfl, rfl⟩
 have hwr : IntKind.i64.wrap (1 + (r : Int)) = ((r + 1 : Nat) : Int) := by rw [IntWalk.i64_in _ (by omega)]; omega
 obtain ⟨o, ho⟩ : ∃ o, o = r + 1 := ⟨_, rfl⟩
 rw [<- ho] at hwr
 have HO : Hid (1 <= o /\ o <= 10) := zz (by omega)
 clear hr ho
 go_wp2_with fail
 refine (HNA.out _).mono ?_
 rintro e w2 ⟨v1, rfl, hx1, hb2⟩
 obtain ⟨q1, rfl⟩ := exIn_ptr hx1
 go_wp2_with fail
 refine (HNB.out _).mono ?_
 rintro e w3 ⟨v2, rfl, hx2, hb3⟩
 obtain ⟨q2, rfl⟩ := exIn_ptr hx2
 go_wp2_with fail
 obtain ⟨W4, hW4⟩ : ∃ W, W = w3.alloc (.cells #[.int .i64 5, .int .i64 0, .int .i64 0, .string ⟨#[]⟩, .int .i64 (o : Nat), .pointer q1, .pointer q2, .slice none 0 0] 64) := ⟨_, rfl⟩
 have hx : ExIn W4 (fun b => w1.heap.size <= b) (.pointer (some ⟨w3.heap.size, 0, none⟩)) (opX o a b) := by
  have k := heap_alloc_new w3 (.cells #[.int .i64 5, .int .i64 0, .int .i64 0, .string ⟨#[]⟩, .int .i64 (o : Nat), .pointer q1, .pointer q2, .slice none 0 0] 64)
  have hf := fresh_al w3 #[.int .i64 5, .int .i64 0, .int .i64 0, .string ⟨#[]⟩, .int .i64 (o : Nat), .pointer q1, .pointer q2, .slice none 0 0] 64
  rw [<- hW4] at k hf
  have g1 := (hx1.grow hb3).grow (hf.mono (Nat.le_refl _))
  have g2 := (ExIn.mono (G := fun b => w1.heap.size <= b) (fun b _ e => Nat.le_trans hb2.size e) _ _ hx2).grow hf
  exact ⟨w3.heap.size, .pointer q1, .pointer q2, .slice none 0 0, rfl, Nat.le_trans hb2.size hb3.size, by rw [Lib.cell_of_heap k]; rfl, by rw [Lib.cell_of_heap k]; rfl, by rw [Lib.cell_of_heap k]; rfl, by rw [Lib.cell_of_heap k]; rfl, by rw [Lib.cell_of_heap k]; rfl, by rw [Lib.cell_of_heap k]; rfl, by rw [Lib.cell_of_heap k]; rfl, by rw [Lib.cell_of_heap k]; rfl, g1, g2, Or.inl ⟨rfl, rfl⟩, fun _ _ _ e => by cases e⟩
 have hb4 : Below w.heap.size w W4 := by
  have hf := fresh_al w3 #[.int .i64 5, .int .i64 0, .int .i64 0, .string ⟨#[]⟩, .int .i64 (o : Nat), .pointer q1, .pointer q2, .slice none 0 0] 64
  rw [<- hW4] at hf
  exact HB1.out.trans ((hb2.trans ((hb3.trans (hf.mono hb3.size)).mono hb2.size)).mono HB1.out.size)
 rw [<- hW4]
 have HOK := zz (opX_ok (op := o) HI.out.1.1 HI.out.2.1 HI.out.1.2 HI.out.2.2)
 have HT := zz (text_ex (opX o a b) HOK.out W4 _ (Nat.le_refl _) (HE.out.below hb4).penv (ExIn.mono (fun b h1 _ => h1) _ _ hx) (by have := opX_len HO.out.1 HO.out.2 HI.out.1.1 HI.out.2.1; omega))
 obtain ⟨T0, hT0⟩ : ∃ T, T = mkT (exV 1 (opX o a b)) := ⟨_, rfl⟩
 unfold Tells at HT
 rw [<- hT0] at HT
 have HT0 := zz hT0
 have HX := zz hx
 have HB4 := zz hb4
 clear hx hb4 hx1 hx2 hb2 hb3 hW4 hT0
 refine HT.out.mono ?_
 rintro e w5 ⟨rfl, hb5⟩
 have HX5 : Hid (ExIn w5 (fun b => w1.heap.size <= b) (.pointer (some ⟨w3.heap.size, 0, none⟩)) (opX o a b)) := zz (HX.out.grow hb5)
 have HB5 := zz (HB4.out.trans (hb5.mono HB4.out.size))
 obtain ⟨n, hn⟩ : ∃ n, n = binV (o : Int) a b := ⟨_, rfl⟩
 obtain ⟨v, hv⟩ : ∃ v, v = wayV (o : Int) b := ⟨_, rfl⟩
 have HBIN : Hid (Calls Tryz.prog 38 #[.int .i64 (o : Nat), .int .i64 a, .int .i64 b] w5 fun e w' => e = .returned (.tuple #[.int .i64 n, .int .i64 v]) /\ w5 = w') := zz (by rw [hn, hv]; exact bin_any (o : Int) a b w5)
 have HFO : Hid (foldE (opX o a b) = if v = 0 /\ n ≠ -9223372036854775808 then newN n 0 else opX o a b) := zz (by rw [hn, hv]; exact opX_fold HO.out.1 HO.out.2)
 have HIN : Hid (I64 n) := zz (by rw [hn]; exact binV_i64 (o : Int) b HI.out.1.1)
 clear hb5 hn hv HX HT
 go_wp2_with fail
 refine HBIN.out.mono ?_
 rintro e w6 ⟨rfl, rfl⟩
 have HLEN : Hid ((exV 1 (foldE (opX o a b))).length <= 100000000) := zz (by
  have h1 := opX_len HO.out.1 HO.out.2 HI.out.1.1 HI.out.2.1
  have h2 := Lib.itoa_length_le n HIN.out.1 HIN.out.2
  rw [HFO.out]
  split
  ·rw [exV_newN]; omega
  ·omega)
 by_cases hc : v = 0 /\ n ≠ -9223372036854775808
 ·have e3 : (v == 0) = true := beq_iff_eq.2 hc.1
  have e4 : (n != -9223372036854775808) = true := bne_iff_ne.2 hc.2
  obtain ⟨T, hT⟩ : ∃ T, T = mkT (Lib.itoa n) := ⟨_, rfl⟩
  have HF2 : Hid (T = mkT (exV 1 (foldE (opX o a b)))) := zz (by rw [hT, HFO.out, if_pos hc, exV_newN])
  have HIT : Hid (Calls Tryz.prog 39 #[.int .i64 n] w5 fun e w' => e = .returned (.string T) /\ Below w5.heap.size w5 w') := zz (by rw [hT]; exact itoaI_any n HIN.out w5 (HE.out.below HB5.out).pow)
  clear hc hT
  go_wp2_with fail
  refine HIT.out.mono ?_
  rintro e w6 ⟨rfl, hb6⟩
  have HX6 := zz (HX5.out.grow hb6)
  have HB6 := zz (HB5.out.trans (hb6.mono HB5.out.size))
  clear hb6
  obtain ⟨W9, hW9⟩ : ∃ W, W = builtW w6 (some ⟨w3.heap.size, 0, none⟩) := ⟨_, rfl⟩
  have hbs := built_src w6 HX6.out
  rw [<- hW9] at hbs
  have HFL : Hid (Calls Tryz.prog 30 #[.agg #[.slice none 0 0, .slice (some ⟨w6.heap.size + 1, 0, none⟩) 1 1]] W9 _) := zz (fold_any (src := ⟨[], [⟨[109, 97, 105, 110], 0, [], 0, opS (opX o a b)⟩]⟩) ⟨Nat.zero_le _, (by show 1 <= 1000000; decide), fun g hg => by rw [List.mem_singleton.1 hg]; exact ⟨Nat.zero_le _, ⟨⟨trivial, HOK.out, trivial, trivial, trivial⟩, trivial⟩, Nat.le_trans (opX_sz o a b) (by decide)⟩⟩ W9 (fun _ h => h) (Or.inl ⟨rfl, rfl⟩) hbs.1)
  have hb9 := HB6.out.trans (hbs.2.mono HB6.out.size)
  have HB9 := zz hb9
  unfold builtW at hW9
  clear hbs hb9
  go_wp2_with fail
  rw [<- hW9]
  clear hW9
  refine HFL.out.mono ?_
  rintro e w7 ⟨ga', gc', fa', fc', rfl, _, hfu, hb7⟩
  have hbA := HB9.out.trans (hb7.mono HB9.out.size)
  have hfu2 : FuRow (w7.alloc (.cells #[.slice ga' 0 gc', .slice fa' 1 fc'] 26)) (fun b => b < (w7.alloc (.cells #[.slice ga' 0 gc', .slice fa' 1 fc'] 26)).heap.size) (.slice fa' 1 fc') [foldF ⟨[109, 97, 105, 110], 0, [], 0, opS (opX o a b)⟩] := fuRow_mono (fun b h1 _ => h1) (fuRow_keeps (S := fun _ => False) hfu ((Keeps.refl _ _).alloc _) (fun _ _ e => e))
  obtain ⟨g, bo, bc, q, rfl, k1, c4, k2, b4, hx⟩ := fuRow_head hfu2 (show (foldSs (opS (opX o a b))).len = 1 by rw [opS_fold]; rfl)
  have hhd : headX (foldF ⟨[109, 97, 105, 110], 0, [], 0, opS (opX o a b)⟩).body = foldE (opX o a b) := by show headX (foldSs (opS (opX o a b))) = _; rw [opS_fold]; rfl
  rw [hhd] at hx
  have hbB := hbA.trans ((fresh_alloc w7 #[.slice ga' 0 gc', .slice (some ⟨g, 0, none⟩) 1 fc'] 26).mono hbA.size)
  have HT2 := zz (text_ex (foldE (opX o a b)) (foldE_ok _ HOK.out) _ _ (Nat.le_refl _) (HE.out.below hbB).penv hx HLEN.out)
  unfold Tells at HT2
  rw [<- HF2.out] at HT2
  have HBB := zz hbB
  clear hfu hfu2 hx hb7 hbA hbB hhd
  go_wp2_with fail
  refine HT2.out.mono ?_
  rintro e w8 ⟨rfl, hb8⟩
  have HB8 := zz (HBB.out.trans (hb8.mono HBB.out.size))
  clear hb8
  go_wp2_with fail
  go_ret
  have hq : (T.toList == T.toList) = true := beq_self_eq_true _
  refine ⟨?_, HB8.out⟩
  first
   | rfl
   | (show Ending.returned (.bool (T.toList == T.toList)) = _; rw [hq])
 ·have HF2 : Hid (T0 = mkT (exV 1 (foldE (opX o a b)))) := zz (by rw [HT0.out, HFO.out, if_neg hc])
  by_cases hv0 : v = 0
  ·have hn0 : n = -9223372036854775808 := Decidable.byContradiction fun h => hc ⟨hv0, h⟩
   have e3 : (v == 0) = true := beq_iff_eq.2 hv0
   have e4 : (n != -9223372036854775808) = false := by rw [hn0]; rfl
   clear hc hv0 hn0
   obtain ⟨W9, hW9⟩ : ∃ W, W = builtW w5 (some ⟨w3.heap.size, 0, none⟩) := ⟨_, rfl⟩
   have hbs := built_src w5 HX5.out
   rw [<- hW9] at hbs
   have HFL : Hid (Calls Tryz.prog 30 #[.agg #[.slice none 0 0, .slice (some ⟨w5.heap.size + 1, 0, none⟩) 1 1]] W9 _) := zz (fold_any (src := ⟨[], [⟨[109, 97, 105, 110], 0, [], 0, opS (opX o a b)⟩]⟩) ⟨Nat.zero_le _, (by show 1 <= 1000000; decide), fun g hg => by rw [List.mem_singleton.1 hg]; exact ⟨Nat.zero_le _, ⟨⟨trivial, HOK.out, trivial, trivial, trivial⟩, trivial⟩, Nat.le_trans (opX_sz o a b) (by decide)⟩⟩ W9 (fun _ h => h) (Or.inl ⟨rfl, rfl⟩) hbs.1)
   have hb9 := HB5.out.trans (hbs.2.mono HB5.out.size)
   have HB9 := zz hb9
   unfold builtW at hW9
   clear hbs hb9
   go_wp2_with fail
   rw [<- hW9]
   clear hW9
   refine HFL.out.mono ?_
   rintro e w7 ⟨ga', gc', fa', fc', rfl, _, hfu, hb7⟩
   have hbA := HB9.out.trans (hb7.mono HB9.out.size)
   have hfu2 : FuRow (w7.alloc (.cells #[.slice ga' 0 gc', .slice fa' 1 fc'] 26)) (fun b => b < (w7.alloc (.cells #[.slice ga' 0 gc', .slice fa' 1 fc'] 26)).heap.size) (.slice fa' 1 fc') [foldF ⟨[109, 97, 105, 110], 0, [], 0, opS (opX o a b)⟩] := fuRow_mono (fun b h1 _ => h1) (fuRow_keeps (S := fun _ => False) hfu ((Keeps.refl _ _).alloc _) (fun _ _ e => e))
   obtain ⟨g, bo, bc, q, rfl, k1, c4, k2, b4, hx⟩ := fuRow_head hfu2 (show (foldSs (opS (opX o a b))).len = 1 by rw [opS_fold]; rfl)
   have hhd : headX (foldF ⟨[109, 97, 105, 110], 0, [], 0, opS (opX o a b)⟩).body = foldE (opX o a b) := by show headX (foldSs (opS (opX o a b))) = _; rw [opS_fold]; rfl
   rw [hhd] at hx
   have hbB := hbA.trans ((fresh_alloc w7 #[.slice ga' 0 gc', .slice (some ⟨g, 0, none⟩) 1 fc'] 26).mono hbA.size)
   have HT2 := zz (text_ex (foldE (opX o a b)) (foldE_ok _ HOK.out) _ _ (Nat.le_refl _) (HE.out.below hbB).penv hx HLEN.out)
   unfold Tells at HT2
   rw [<- HF2.out] at HT2
   have HBB := zz hbB
   clear hfu hfu2 hx hb7 hbA hbB hhd
   go_wp2_with fail
   refine HT2.out.mono ?_
   rintro e w8 ⟨rfl, hb8⟩
   have HB8 := zz (HBB.out.trans (hb8.mono HBB.out.size))
   clear hb8
   go_wp2_with fail
   go_ret
   have hq : (T0.toList == T0.toList) = true := beq_self_eq_true _
   refine ⟨?_, HB8.out⟩
   first
    | rfl
    | (show Ending.returned (.bool (T0.toList == T0.toList)) = _; rw [hq])
  ·have e3 : (v == 0) = false := beq_eq_false_iff_ne.2 hv0
   clear hc hv0
   obtain ⟨W9, hW9⟩ : ∃ W, W = builtW w5 (some ⟨w3.heap.size, 0, none⟩) := ⟨_, rfl⟩
   have hbs := built_src w5 HX5.out
   rw [<- hW9] at hbs
   have HFL : Hid (Calls Tryz.prog 30 #[.agg #[.slice none 0 0, .slice (some ⟨w5.heap.size + 1, 0, none⟩) 1 1]] W9 _) := zz (fold_any (src := ⟨[], [⟨[109, 97, 105, 110], 0, [], 0, opS (opX o a b)⟩]⟩) ⟨Nat.zero_le _, (by show 1 <= 1000000; decide), fun g hg => by rw [List.mem_singleton.1 hg]; exact ⟨Nat.zero_le _, ⟨⟨trivial, HOK.out, trivial, trivial, trivial⟩, trivial⟩, Nat.le_trans (opX_sz o a b) (by decide)⟩⟩ W9 (fun _ h => h) (Or.inl ⟨rfl, rfl⟩) hbs.1)
   have hb9 := HB5.out.trans (hbs.2.mono HB5.out.size)
   have HB9 := zz hb9
   unfold builtW at hW9
   clear hbs hb9
   go_wp2_with fail
   rw [<- hW9]
   clear hW9
   refine HFL.out.mono ?_
   rintro e w7 ⟨ga', gc', fa', fc', rfl, _, hfu, hb7⟩
   have hbA := HB9.out.trans (hb7.mono HB9.out.size)
   have hfu2 : FuRow (w7.alloc (.cells #[.slice ga' 0 gc', .slice fa' 1 fc'] 26)) (fun b => b < (w7.alloc (.cells #[.slice ga' 0 gc', .slice fa' 1 fc'] 26)).heap.size) (.slice fa' 1 fc') [foldF ⟨[109, 97, 105, 110], 0, [], 0, opS (opX o a b)⟩] := fuRow_mono (fun b h1 _ => h1) (fuRow_keeps (S := fun _ => False) hfu ((Keeps.refl _ _).alloc _) (fun _ _ e => e))
   obtain ⟨g, bo, bc, q, rfl, k1, c4, k2, b4, hx⟩ := fuRow_head hfu2 (show (foldSs (opS (opX o a b))).len = 1 by rw [opS_fold]; rfl)
   have hhd : headX (foldF ⟨[109, 97, 105, 110], 0, [], 0, opS (opX o a b)⟩).body = foldE (opX o a b) := by show headX (foldSs (opS (opX o a b))) = _; rw [opS_fold]; rfl
   rw [hhd] at hx
   have hbB := hbA.trans ((fresh_alloc w7 #[.slice ga' 0 gc', .slice (some ⟨g, 0, none⟩) 1 fc'] 26).mono hbA.size)
   have HT2 := zz (text_ex (foldE (opX o a b)) (foldE_ok _ HOK.out) _ _ (Nat.le_refl _) (HE.out.below hbB).penv hx HLEN.out)
   unfold Tells at HT2
   rw [<- HF2.out] at HT2
   have HBB := zz hbB
   clear hfu hfu2 hx hb7 hbA hbB hhd
   go_wp2_with fail
   refine HT2.out.mono ?_
   rintro e w8 ⟨rfl, hb8⟩
   have HB8 := zz (HBB.out.trans (hb8.mono HBB.out.size))
   clear hb8
   go_wp2_with fail
   go_ret
   have hq : (T0.toList == T0.toList) = true := beq_self_eq_true _
   refine ⟨?_, HB8.out⟩
   first
    | rfl
    | (show Ending.returned (.bool (T0.toList == T0.toList)) = _; rw [hq])
end Go.Proofs.YtnpapppipccdbaaGreatDoor
namespace Go.Proofs.YtnpapppipccdbaaGreatDoor
open Go.ChangeShapes Go.WideShapes Go.RowKit
namespace OfFoldKnown
theorem jLaid : laidOutB Tryz.checked.prog = true := by kernel_rfl
theorem jMaps : mapsRowed Tryz.checked.prog = true := by kernel_rfl
theorem jTie : namedTie Tryz.checked.prog Rows.foldKnownRow.named Rows.foldKnownSpec.vars = true := by kernel_rfl
theorem jIn : Tryz.checked.prog.inPlace 11 = Rows.foldKnownRow.inPlace := by kernel_rfl
theorem jUn : Tryz.checked.prog.unfollowed 11 = Rows.foldKnownRow.unfollowed := by kernel_rfl
theorem jRec : Tryz.checked.prog.recurses 11 = Rows.foldKnownRow.recurses := by kernel_rfl
theorem jVars : Tryz.checked.prog.varsNamed 11 = Rows.foldKnownRow.named := by kernel_rfl
theorem jHeard : Tryz.checked.prog.stopsHeard = true := by kernel_rfl
theorem jEnter : Tryz.checked.prog.mayEnter = true := by kernel_rfl
theorem jLift : Tryz.checked.prog.liftsFinal = Rows.foldKnownRow.lifted := by kernel_rfl
theorem jMake : Tryz.checked.prog.make = some Rows.foldKnownRow.make := by kernel_rfl
theorem joined : joinedFacts Tryz.checked.prog 11 Tryz.f11 Rows.foldKnownSpec Rows.foldKnownRow = true := by
 unfold joinedFacts
 rw [jLaid, jMaps, jTie, jIn, jUn, jRec, jVars, jHeard, jEnter, jLift, jMake]
 kernel_rfl
theorem fnm : Tryz.checked.prog.funcNamed Rows.foldKnownRow.func = some 11 := by kernel_rfl
theorem inst : Tryz.f11.isInstance Tryz.checked.prog Rows.foldKnownRow.origin Rows.foldKnownRow.targs := of_decide_eq_true (by kernel_rfl)
theorem wrap : Tryz.f11.isWrapper Tryz.checked.prog Rows.foldKnownRow.wrapper Rows.foldKnownRow.mainSum := by unfold Func.isWrapper; first | (rw [if_pos (by decide +kernel)]; kernel_rfl) | (rw [if_neg (by decide +kernel)]; exact ⟨rfl, rfl⟩)
end OfFoldKnown
end Go.Proofs.YtnpapppipccdbaaGreatDoor
