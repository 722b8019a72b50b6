/-
  Texts of one proof, in build order: TreePK TreePL TreeQ5 TreeQ6 TreeQ7 TreeQ8 FoldM4 FoldX5 FoldX6 FoldX7 FoldX8 TreeQA TreeQH FoldY0 FoldA1 TreeW1 TreeW2 TreeW3 TreeW4 TreeW5 TreeW6 TreeW7 TreeW8 TreeW9 TreeWA TreeWB
-/
import Derived.Test.YtnpapppipccdbaaGreatDoorU7
import Derived.Lib.ItoaLen
import Derived.Lib.ItoaNum
set_option maxRecDepth 100000
set_option maxHeartbeats 12800000
namespace Go.Proofs.YtnpapppipccdbaaGreatDoor
open Go.RowKit Lx Tr
variable {w w' : World}
def gN : Lx.B := [102, 117, 110, 99, 32]
def paV (p : Pa) : Lx.B := p.name ++ ([32] ++ iE p.kind)
def fD : Bool -> List Pa -> Lx.B
 | _, [] => []
 | f, x :: xs => (if f then [] else [44, 32]) ++ (paV x ++ fD false xs)
theorem oQ : ∀ (l : List Pa) (f : Bool) (x : Pa), fD f (l ++ [x]) = fD f l ++ ((if f = true /\ l = [] then [] else [44, 32]) ++ paV x)
 | [], f, x => by
  show (if f then [] else [44, 32]) ++ (paV x ++ []) = [] ++ _
  cases f <;> simp
 | y :: l, f, x => by
  show (if f then [] else [44, 32]) ++ (paV y ++ fD false (l ++ [x])) = ((if f then [] else [44, 32]) ++ (paV y ++ fD false l)) ++ _
  rw [oQ l false x, if_neg (show ¬ (false = true /\ l = []) from fun e => by cases e.1), if_neg (show ¬ (f = true /\ y :: l = []) from fun e => by cases e.2)]
  simp only [List.append_assoc]
theorem BK : ∀ (l : List Pa) (k : Nat) (f : Bool), (fD f (l.take k)).length <= (fD f l).length
 | [], k, f => by simp [fD]
 | x :: xs, 0, f => Nat.zero_le _
 | x :: xs, k + 1, f => by
  show ((if f then [] else [44, 32]) ++ (paV x ++ fD false (xs.take k))).length <= ((if f then [] else [44, 32]) ++ (paV x ++ fD false xs)).length
  have := BK xs k false
  simp only [List.length_append]
  omega
def fuV (g : Fu) : Lx.B := (gN ++ (g.name ++ [40])) ++ (fD true g.params ++ ([41, 32] ++ ((if g.kind = 0 then [] else iE g.kind ++ [32]) ++ ([123, 10] ++ (bG 1 g.body ++ aC 0 cF)))))
theorem rW {B b : Nat} {g : Fu} {po bo : Option Addr} {pc bn bc : Nat} (hok : eV g.body) (l : List UInt8) (w : World) (h : PC B b l w) (hB : B <= w.heap.size) (hP : PEnv B w) (hpar : PaRow w (fun k => k < B) (.slice po g.params.length pc) g.params) (hbl : SlAt (fun k => k < B) (.slice bo bn bc) g.body.len) (hbi : ∀ g' n' cap, Value.slice bo bn bc = .slice (some ⟨g', 0, none⟩) n' cap -> StsIn w (fun k => k < B) g' 0 g.body) (hlen : l.length + (fuV g).length <= 100000000) :
    aI B b l (fuV g) w 78 #[.pointer (some ⟨b, 0, none⟩), .agg #[.string (mkT g.name), .int .i64 (g.at_ : Nat), .slice po g.params.length pc, .int .i64 (g.kind : Nat), .slice bo bn bc]] := by
  unfold aI
  have hbw := aG w #[.string (mkT g.name), .int .i64 (g.at_ : Nat), .slice po g.params.length pc, .int .i64 (g.kind : Nat), .slice bo bn bc] 51
  have hblt := h.1.lt
  have HL : Hid (l.length + ((gN ++ (g.name ++ [40])).length + ((fD true g.params).length + (2 + ((if g.kind = 0 then [] else iE g.kind ++ [32]).length + (2 + ((bG 1 g.body).length + (aC 0 cF).length)))))) <= 100000000) := zz (by
    unfold fuV at hlen
    simp only [List.length_append, List.length_cons, List.length_nil] at hlen ⊢
    omega)
  have hn0 : g.params.length <= 9223372036854775807 := by
    rcases hpar with ⟨_, e2⟩ | ⟨g', cap, _, h1, h2, _⟩
    · rw [e2]; exact Nat.zero_le _
    · unfold maxLen at h2; omega
  have HB := zz hB
  have HP := zz hP
  have HG : Hid (∀ k x, g.params[k]? = some x -> ∃ g', po = some ⟨g', 0, none⟩ /\ g' < B /\ w.cell? ⟨g', k * 3, none⟩ = some (.string (mkT x.name)) /\ w.cell? ⟨g', k * 3 + 1, none⟩ = some (.int .i64 (x.kind : Nat)) /\ w.cell? ⟨g', k * 3 + 2, none⟩ = some (.int .i64 (x.at_ : Nat))) := zz fun k x hx => by
    rcases hpar with ⟨_, e2⟩ | ⟨g', cap, e, _, _, hg, _, h6⟩
    · rw [e2] at hx; cases hx
    · injection e with e1 _ _
      exact ⟨g', e1, hg, h6 k x hx⟩
  have HST : Hid (∀ V l', PC B b l' V -> Below B w V -> l'.length + (bG 1 g.body).length <= 100000000 -> aI B b l' (bG 1 g.body) V 131 #[.pointer (some ⟨b, 0, none⟩), .slice bo bn bc, .int .i64 ((1 : Nat) : Int)]) := zz fun V l' h1 h2 h3 =>
    GC g.body hok l' V 1 bo bn bc h1 (Nat.le_trans hB h2.size) (hP.below h2) hbl (fun g' n' cap' e => StsIn.keeps (Keeps.of_below (S := fun k => B <= k) h2 (fun _ _ e => e)) (fun b h1 h2 => by have h3 : b < B := h1; have h4 : B <= b := h2; omega) g' (hbl.mem e) 0 g.body (hbi g' n' cap' e)) h3
  have HB1 := zz (hbw.mono hB)
  have HO1 : Hid (Others b w (w.alloc (.cells #[.string (mkT g.name), .int .i64 (g.at_ : Nat), .slice po g.params.length pc, .int .i64 (g.kind : Nat), .slice bo bn bc] 51))) := zz (Others.of_new hbw)
  have HNE : Hid (w.heap.size ≠ b) := zz (by omega)
  have HH1 : Hid ((w.alloc (.cells #[.string (mkT g.name), .int .i64 (g.at_ : Nat), .slice po g.params.length pc, .int .i64 (g.kind : Nat), .slice bo bn bc] 51)).heap[w.heap.size]? = some (Obj.cells #[.string (mkT g.name), .int .i64 (g.at_ : Nat), .slice po g.params.length pc, .int .i64 (g.kind : Nat), .slice bo bn bc] 51 (0, 0))) := zz (heap_alloc_new w _)
  have hcat : bU [mkT gN, mkT g.name, mkT [40]] = (gN ++ (g.name ++ [40])) := nQ _ _ _
  have HC1 := zz (bZ B b l [mkT gN, mkT g.name, mkT [40]] (w.alloc (.cells #[.string (mkT g.name), .int .i64 (g.at_ : Nat), .slice po g.params.length pc, .int .i64 (g.kind : Nat), .slice bo bn bc] 51)) (h.fresh hbw) (Nat.le_trans hB hbw.size) (by have := HL.out; rw [hcat]; omega) (by simp))
  rw [hcat, bO w] at HC1
  clear h hB hP hpar hbl hbi hlen hbw hblt hok hcat
  go_enter Tryz.func78, Tryz.ntmps78
  go_wp2_with fail
  refine HC1.out.mono ?_
  rintro e w2 ⟨rfl, h2, hb2, ho2⟩
  have H2 := zz h2
  have HB2 := zz (HB1.out.trans hb2)
  have HO2 := zz (HO1.out.trans ho2)
  have HH2 := zz (ho2.heap HNE.out (by decide) HH1.out)
  clear h2 hb2 ho2
  have d2 : w2.cell? ⟨w.heap.size, 2, none⟩ = some (.slice po g.params.length pc) := by rw [Lib.cell_of_heap HH2.out]; rfl
  go_wp2_with fail
  clear d2
  go_loopw [14, 4, 5] (fun i _ _ wr => ∃ k : Nat, k <= g.params.length /\ i = .int .i64 k /\ PC B b (l ++ ((gN ++ (g.name ++ [40])) ++ fD true (g.params.take k))) wr /\ Below B w wr /\ Others b w wr /\ wr.heap[w.heap.size]? = some (Obj.cells #[.string (mkT g.name), .int .i64 (g.at_ : Nat), .slice po g.params.length pc, .int .i64 (g.kind : Nat), .slice bo bn bc] 51 (0, 0))) (fun i _ _ _ => g.params.length - (intOf i).toNat)
  case atStart => exact ⟨0, Nat.zero_le _, rfl, by rw [List.take_zero]; show PC B b (l ++ ((gN ++ (g.name ++ [40])) ++ [])) w2; rw [List.append_nil]; exact H2.out, HB2.out, HO2.out, HH2.out⟩
  case round =>
    obtain ⟨k, hk, rfl, hp, hb, ho, hh⟩ := hrel
    have HHF := zz hh
    have HPP := zz hp
    have HBL := zz hb
    have HO := zz ho
    clear hp hb ho hh
    by_cases hlt : k < g.params.length
    · obtain ⟨p, hkx⟩ : ∃ x, g.params[k]? = some x := ⟨_, List.getElem?_eq_getElem hlt⟩
      obtain ⟨g', rfl, hg, c0, c1, c2⟩ := HG.out k p hkx
      have hki : (k : Int) < (g.params.length : Int) := by omega
      have hkii : (0 : Int) <= (k : Int) /\ (k : Int) < (g.params.length : Int) := by omega
      have hw : IntKind.i64.wrap ((k : Int) + 1) = (k : Int) + 1 := IntWalk.i64_in _ (by omega)
      have hAT : fD true (g.params.take (k + 1)) = fD true (g.params.take k) ++ ((if k = 0 then [] else [44, 32]) ++ paV p) := by
        rw [List.take_add_one, hkx, Option.toList_some, oQ]
        by_cases hk0 : k = 0
        · rw [if_pos hk0, if_pos ⟨rfl, by rw [hk0, List.take_zero]⟩]
        · rw [if_neg hk0, if_neg (fun e => hk0 (by have h7 := congrArg List.length e.2; rw [List.length_take] at h7; have h8 : min k g.params.length = 0 := h7; omega))]
      have hle := BK g.params (k + 1) true
      rw [hAT, List.length_append, List.length_append] at hle
      rw [<- HBL.out.cell (p := ⟨g', k * 3, none⟩) hg] at c0
      rw [<- HBL.out.cell (p := ⟨g', k * 3 + 1, none⟩) hg] at c1
      rw [<- HBL.out.cell (p := ⟨g', k * 3 + 2, none⟩) hg] at c2
      have HAT := zz hAT
      have HLE : Hid (l.length + ((gN ++ (g.name ++ [40])).length + ((fD true (g.params.take k)).length + ((if k = 0 then [] else [44, 32] : List UInt8).length + (paV p).length))) <= 100000000) := zz (by have := HL.out; omega)
      have hbc := aG wr #[.string (mkT p.name), .int .i64 (p.kind : Nat), .int .i64 (p.at_ : Nat)] 102
      have hsz := Nat.le_trans HB.out HBL.out.size
      have hbB := HBL.out.trans (hbc.mono hsz)
      have hbltr := HPP.out.1.lt
      have HBc := zz hbB
      have HOc : Hid (Others b w (wr.alloc (.cells #[.string (mkT p.name), .int .i64 (p.kind : Nat), .int .i64 (p.at_ : Nat)] 102))) := zz (HO.out.trans (Others.of_new hbc))
      have HHc : Hid ((wr.alloc (.cells #[.string (mkT p.name), .int .i64 (p.kind : Nat), .int .i64 (p.at_ : Nat)] 102)).heap[wr.heap.size]? = some (Obj.cells #[.string (mkT p.name), .int .i64 (p.kind : Nat), .int .i64 (p.at_ : Nat)] 102 (0, 0))) := zz (heap_alloc_new wr _)
      have HHFc : Hid ((wr.alloc (.cells #[.string (mkT p.name), .int .i64 (p.kind : Nat), .int .i64 (p.at_ : Nat)] 102)).heap[w.heap.size]? = some (Obj.cells #[.string (mkT g.name), .int .i64 (g.at_ : Nat), .slice (some ⟨g', 0, none⟩) g.params.length pc, .int .i64 (g.kind : Nat), .slice bo bn bc] 51 (0, 0))) := zz (by rw [Below.heap_alloc _ _ _ (Array.getElem?_eq_some_iff.1 HHF.out).1]; exact HHF.out)
      have HNEc : Hid (wr.heap.size ≠ b) := zz (by omega)
      have HPc : Hid (PC B b (l ++ ((gN ++ (g.name ++ [40])) ++ fD true (g.params.take k))) (wr.alloc (.cells #[.string (mkT p.name), .int .i64 (p.kind : Nat), .int .i64 (p.at_ : Nat)] 102))) := zz (HPP.out.fresh hbc)
      have HK0 : Hid (decide ((0 : Int) < (k : Int)) = decide (k ≠ 0)) := zz (by by_cases hk0 : k = 0 <;> simp [hk0]; omega)
      have HEND : Hid (∀ V : World, PC B b (l ++ ((gN ++ (g.name ++ [40])) ++ (fD true (g.params.take k) ++ (if k = 0 then [] else [44, 32])))) V -> Below B w V ->
          Calls Tryz.prog 129 #[.pointer (some ⟨b, 0, none⟩), .slice (some ⟨V.heap.size, 0, none⟩) [mkT p.name, mkT [32], mkT (iE p.kind)].length [mkT p.name, mkT [32], mkT (iE p.kind)].length] (V.alloc (.cells ([mkT p.name, mkT [32], mkT (iE p.kind)].map Value.string).toArray 9)) fun e w' => e = .returned (.tuple #[]) /\ PC B b (l ++ ((gN ++ (g.name ++ [40])) ++ fD true (g.params.take (k + 1)))) w' /\ Below B V w' /\ Others b V w') := zz fun V h1 h2 => by
        refine (bZ B b _ [mkT p.name, mkT [32], mkT (iE p.kind)] V h1 (Nat.le_trans HB.out h2.size) (by have := HLE.out; rw [nQ]; unfold paV at this; simp only [List.length_append] at this ⊢; omega) (by simp)).mono ?_
        rintro e w' ⟨rfl, a1, a2, a3⟩
        refine ⟨rfl, ?_, a2, a3⟩
        rw [nQ] at a1
        have e : l ++ ((gN ++ (g.name ++ [40])) ++ fD true (g.params.take (k + 1))) = l ++ ((gN ++ (g.name ++ [40])) ++ (fD true (g.params.take k) ++ (if k = 0 then [] else [44, 32]))) ++ (p.name ++ ([32] ++ iE p.kind)) := by
          rw [HAT.out]; unfold paV; simp only [List.append_assoc]
        rw [e]; exact a1
      clear hkx hg hAT hle hbc hsz hbB hbltr HAT
      by_cases hk0 : k = 0
      · have hgt : ¬ (0 : Int) < (k : Int) := by omega
        have hPc' : PC B b (l ++ ((gN ++ (g.name ++ [40])) ++ (fD true (g.params.take k) ++ (if k = 0 then [] else [44, 32])))) (wr.alloc (.cells #[.string (mkT p.name), .int .i64 (p.kind : Nat), .int .i64 (p.at_ : Nat)] 102)) := by rw [if_pos hk0, List.append_nil]; exact HPc.out
        have HPc' := zz hPc'
        clear hk0 hPc'
        go_wp2_with fail
        have HB8 : Hid (Below B w (wr.alloc (.cells #[.string (mkT p.name), .int .i64 (p.kind : Nat), .int .i64 (p.at_ : Nat)] 102)).drew) := zz (HBc.out.trans (Below.drew (Below.refl _ _)))
        have HO8 : Hid (Others b w (wr.alloc (.cells #[.string (mkT p.name), .int .i64 (p.kind : Nat), .int .i64 (p.at_ : Nat)] 102)).drew) := zz (HOc.out.trans (Others.of_new (Below.drew (Below.refl _ _))))
        have HH8 : Hid ((wr.alloc (.cells #[.string (mkT p.name), .int .i64 (p.kind : Nat), .int .i64 (p.at_ : Nat)] 102)).drew.heap[wr.heap.size]? = some (Obj.cells #[.string (mkT p.name), .int .i64 (p.kind : Nat), .int .i64 (p.at_ : Nat)] 102 (0, 0))) := zz HHc.out
        have HHF8 : Hid ((wr.alloc (.cells #[.string (mkT p.name), .int .i64 (p.kind : Nat), .int .i64 (p.at_ : Nat)] 102)).drew.heap[w.heap.size]? = some (Obj.cells #[.string (mkT g.name), .int .i64 (g.at_ : Nat), .slice (some ⟨g', 0, none⟩) g.params.length pc, .int .i64 (g.kind : Nat), .slice bo bn bc] 51 (0, 0))) := zz HHFc.out
        have HLT8 : Hid (wr.heap.size < (wr.alloc (.cells #[.string (mkT p.name), .int .i64 (p.kind : Nat), .int .i64 (p.at_ : Nat)] 102)).drew.heap.size) := zz (Array.getElem?_eq_some_iff.1 HH8.out).1
        have HCL : Hid (∀ V : World, V.heap[wr.heap.size]? = some (Obj.cells #[.string (mkT p.name), .int .i64 (p.kind : Nat), .int .i64 (p.at_ : Nat)] 102 (0, 0)) -> V.cell? ⟨wr.heap.size, 0, none⟩ = some (.string (mkT p.name)) /\ V.cell? ⟨wr.heap.size, 1, none⟩ = some (.int .i64 (p.kind : Nat))) := zz fun V hV => ⟨by rw [Lib.cell_of_heap hV]; rfl, by rw [Lib.cell_of_heap hV]; rfl⟩
        have HKT := zz (kP p.kind (wr.alloc (.cells #[.string (mkT p.name), .int .i64 (p.kind : Nat), .int .i64 (p.at_ : Nat)] 102)).drew (HP.out.below HB8.out).kinds)
        have HE := zz (HEND.out (wr.alloc (.cells #[.string (mkT p.name), .int .i64 (p.kind : Nat), .int .i64 (p.at_ : Nat)] 102)).drew (HPc'.out.fresh (Below.drew (Below.refl _ _))) HB8.out)
        refine wp_region_held_drew (S := (fun W' : World => W'.cell? ⟨wr.heap.size, 0, none⟩ = some (.string (mkT p.name)) /\ W'.cell? ⟨wr.heap.size, 1, none⟩ = some (.int .i64 (p.kind : Nat)))) (by kernel_rfl) (HCL.out _ HH8.out) (fun hHeld => ?_)
        generalize (wr.alloc (.cells #[.string (mkT p.name), .int .i64 (p.kind : Nat), .int .i64 (p.at_ : Nat)] 102)).drew = V8 at *
        refine tk 0 24 (.pointer (some ⟨b, 0, none⟩)) rfl (.inl ⟨by rfl, ?_⟩) hHeld ?_
        ·intro W9 hSW; (try dsimp only at hSW); go_simp
        try simp only [Act.put, sA, sB, sC]
        refine tk 1 25 (.pointer (some ⟨wr.heap.size, 0, none⟩)) rfl (.inl ⟨by rfl, ?_⟩) hHeld ?_
        ·intro W9 hSW; (try dsimp only at hSW); go_simp
        try simp only [Act.put, sA, sB, sC]
        refine tk 2 26 (.string (mkT p.name)) rfl (.inl ⟨by rfl, ?_⟩) hHeld ?_
        ·intro W9 hSW; (try dsimp only at hSW); go_simp
        try simp only [Act.put, sA, sB, sC]
        refine tk 3 27 (.pointer (some ⟨wr.heap.size, 1, none⟩)) rfl (.inl ⟨by rfl, ?_⟩) hHeld ?_
        ·intro W9 hSW; (try dsimp only at hSW); go_simp
        try simp only [Act.put, sA, sB, sC]
        refine tk 4 28 (.int .i64 (p.kind : Nat)) rfl (.inl ⟨by rfl, ?_⟩) hHeld ?_
        ·intro W9 hSW; (try dsimp only at hSW); go_simp
        try simp only [Act.put, sA, sB, sC]
        refine ra 5 (some 29) rfl fun K hK => ?_
        go_simp
        go_at_call 130
        refine HKT.out.mono ?_
        rintro e w9 ⟨rfl, rfl⟩
        refine hK.out _ _ hHeld (fun hHeld => ?_)
        clear hK K
        refine ra 6 (some 30) rfl fun K hK => ?_
        go_simp
        refine hK.out _ _ (HCL.out _ (by rw [Below.heap_alloc _ _ _ HLT8.out]; exact HH8.out)) (fun hHeld => ?_)
        clear hK K
        refine ra 7 (some 31) rfl fun K hK => ?_
        go_simp
        go_at_call 129
        refine HE.out.mono ?_
        rintro e w9 ⟨rfl, h9, hb9, ho9⟩
        have H9 := zz h9
        have HB9 := zz (HB8.out.trans hb9)
        have HO9 := zz (HO8.out.trans ho9)
        have HH9 := zz (ho9.heap HNEc.out (by decide) HH8.out)
        have HHF9 := zz (ho9.heap HNE.out (by decide) HHF8.out)
        clear h9 hb9 ho9
        refine hK.out _ _ (HCL.out _ HH9.out) (fun hHeld => ?_)
        clear hK K
        refine wpAnyH_done (by kernel_rfl) ?_ _
        go_wp2_with fail
        exact ⟨⟨k + 1, by omega, by simp, H9.out, HB9.out, HO9.out, HHF9.out⟩, by simp [intOf]; omega⟩
      · have hgt : (0 : Int) < (k : Int) := by omega
        have HPUT := zz (bZ B b _ [mkT [44, 32]] (wr.alloc (.cells #[.string (mkT p.name), .int .i64 (p.kind : Nat), .int .i64 (p.at_ : Nat)] 102)) HPc.out (Nat.le_trans HB.out HBc.out.size) (by have := HLE.out; rw [if_neg hk0] at this; rw [eA]; simp only [List.length_append, List.length_cons, List.length_nil] at this ⊢; omega) (by simp))
        rw [eA, bO wr] at HPUT
        have HK := zz hk0
        clear hk0
        go_wp2_with fail
        refine HPUT.out.mono ?_
        rintro e w4 ⟨rfl, h4, hb4, ho4⟩
        have H4 : Hid (PC B b (l ++ ((gN ++ (g.name ++ [40])) ++ (fD true (g.params.take k) ++ (if k = 0 then [] else [44, 32])))) w4) := zz (by
          rw [if_neg HK.out]
          simp only [List.append_assoc] at h4 ⊢
          exact h4)
        have HB4 := zz (HBc.out.trans hb4)
        have HO4 := zz (HOc.out.trans ho4)
        have HH4 := zz (ho4.heap HNEc.out (by decide) HHc.out)
        have HHF4 := zz (ho4.heap HNE.out (by decide) HHFc.out)
        clear h4 hb4 ho4
        go_wp2_with fail
        have HB8 : Hid (Below B w w4.drew) := zz (HB4.out.trans (Below.drew (Below.refl _ _)))
        have HO8 : Hid (Others b w w4.drew) := zz (HO4.out.trans (Others.of_new (Below.drew (Below.refl _ _))))
        have HH8 : Hid (w4.drew.heap[wr.heap.size]? = some (Obj.cells #[.string (mkT p.name), .int .i64 (p.kind : Nat), .int .i64 (p.at_ : Nat)] 102 (0, 0))) := zz HH4.out
        have HHF8 : Hid (w4.drew.heap[w.heap.size]? = some (Obj.cells #[.string (mkT g.name), .int .i64 (g.at_ : Nat), .slice (some ⟨g', 0, none⟩) g.params.length pc, .int .i64 (g.kind : Nat), .slice bo bn bc] 51 (0, 0))) := zz HHF4.out
        have HLT8 : Hid (wr.heap.size < w4.drew.heap.size) := zz (Array.getElem?_eq_some_iff.1 HH8.out).1
        have HCL : Hid (∀ V : World, V.heap[wr.heap.size]? = some (Obj.cells #[.string (mkT p.name), .int .i64 (p.kind : Nat), .int .i64 (p.at_ : Nat)] 102 (0, 0)) -> V.cell? ⟨wr.heap.size, 0, none⟩ = some (.string (mkT p.name)) /\ V.cell? ⟨wr.heap.size, 1, none⟩ = some (.int .i64 (p.kind : Nat))) := zz fun V hV => ⟨by rw [Lib.cell_of_heap hV]; rfl, by rw [Lib.cell_of_heap hV]; rfl⟩
        have HKT := zz (kP p.kind w4.drew (HP.out.below HB8.out).kinds)
        have HE := zz (HEND.out w4.drew (H4.out.fresh (Below.drew (Below.refl _ _))) HB8.out)
        refine wp_region_held_drew (S := (fun W' : World => W'.cell? ⟨wr.heap.size, 0, none⟩ = some (.string (mkT p.name)) /\ W'.cell? ⟨wr.heap.size, 1, none⟩ = some (.int .i64 (p.kind : Nat)))) (by kernel_rfl) (HCL.out _ HH8.out) (fun hHeld => ?_)
        generalize w4.drew = V8 at *
        refine tk 0 24 (.pointer (some ⟨b, 0, none⟩)) rfl (.inl ⟨by rfl, ?_⟩) hHeld ?_
        ·intro W9 hSW; (try dsimp only at hSW); go_simp
        try simp only [Act.put, sA, sB, sC]
        refine tk 1 25 (.pointer (some ⟨wr.heap.size, 0, none⟩)) rfl (.inl ⟨by rfl, ?_⟩) hHeld ?_
        ·intro W9 hSW; (try dsimp only at hSW); go_simp
        try simp only [Act.put, sA, sB, sC]
        refine tk 2 26 (.string (mkT p.name)) rfl (.inl ⟨by rfl, ?_⟩) hHeld ?_
        ·intro W9 hSW; (try dsimp only at hSW); go_simp
        try simp only [Act.put, sA, sB, sC]
        refine tk 3 27 (.pointer (some ⟨wr.heap.size, 1, none⟩)) rfl (.inl ⟨by rfl, ?_⟩) hHeld ?_
        ·intro W9 hSW; (try dsimp only at hSW); go_simp
        try simp only [Act.put, sA, sB, sC]
        refine tk 4 28 (.int .i64 (p.kind : Nat)) rfl (.inl ⟨by rfl, ?_⟩) hHeld ?_
        ·intro W9 hSW; (try dsimp only at hSW); go_simp
        try simp only [Act.put, sA, sB, sC]
        refine ra 5 (some 29) rfl fun K hK => ?_
        go_simp
        go_at_call 130
        refine HKT.out.mono ?_
        rintro e w9 ⟨rfl, rfl⟩
        refine hK.out _ _ hHeld (fun hHeld => ?_)
        clear hK K
        refine ra 6 (some 30) rfl fun K hK => ?_
        go_simp
        refine hK.out _ _ (HCL.out _ (by rw [Below.heap_alloc _ _ _ HLT8.out]; exact HH8.out)) (fun hHeld => ?_)
        clear hK K
        refine ra 7 (some 31) rfl fun K hK => ?_
        go_simp
        go_at_call 129
        refine HE.out.mono ?_
        rintro e w9 ⟨rfl, h9, hb9, ho9⟩
        have H9 := zz h9
        have HB9 := zz (HB8.out.trans hb9)
        have HO9 := zz (HO8.out.trans ho9)
        have HH9 := zz (ho9.heap HNEc.out (by decide) HH8.out)
        have HHF9 := zz (ho9.heap HNE.out (by decide) HHF8.out)
        clear h9 hb9 ho9
        refine hK.out _ _ (HCL.out _ HH9.out) (fun hHeld => ?_)
        clear hK K
        refine wpAnyH_done (by kernel_rfl) ?_ _
        go_wp2_with fail
        exact ⟨⟨k + 1, by omega, by simp, H9.out, HB9.out, HO9.out, HHF9.out⟩, by simp [intOf]; omega⟩
    · have hki : ¬ (k : Int) < (g.params.length : Int) := by omega
      have hkk : k = g.params.length := by omega
      have h1 := HPP.out
      rw [hkk, List.take_length] at h1
      have hr := Nat.le_trans HB.out HBL.out.size
      have HC5 := zz (bZ B b _ [mkT [41, 32]] wr h1 hr (by have := HL.out; rw [eA]; simp only [List.length_append, List.length_cons, List.length_nil] at this ⊢; omega) (by simp))
      rw [eA] at HC5
      have HH5 : Hid (wr.heap[w.heap.size]? = some (Obj.cells #[.string (mkT g.name), .int .i64 (g.at_ : Nat), .slice po g.params.length pc, .int .i64 (g.kind : Nat), .slice bo bn bc] 51 (0, 0))) := zz HHF.out
      have HB5 := zz HBL.out
      have HO5 := zz HO.out
      clear hkk h1 hr
      go_wp2_with fail
      refine HC5.out.mono ?_
      rintro e w6 ⟨rfl, h6, hb6, ho6⟩
      have H6 := zz h6
      have HB6 := zz (HB5.out.trans hb6)
      have HO6 := zz (HO5.out.trans ho6)
      have HH6 := zz (ho6.heap HNE.out (by decide) HH5.out)
      clear h6 hb6 ho6
      have d6 : w6.cell? ⟨w.heap.size, 3, none⟩ = some (.int .i64 (g.kind : Nat)) := by rw [Lib.cell_of_heap HH6.out]; rfl
      by_cases hk0 : g.kind = 0
      · have hz : ((g.kind : Int) == 0) = true := by rw [hk0]; rfl
        have HKZ := zz hk0
        clear hk0
        go_wp2_with fail
        clear d6 hz
        have hr7 := Nat.le_trans HB.out HB6.out.size
        have HC7 := zz (bZ B b _ [mkT [123, 10]] w6 H6.out hr7 (by have := HL.out; rw [eA]; simp only [List.length_append, List.length_cons, List.length_nil] at this ⊢; rw [if_pos HKZ.out] at this; simp only [List.length_nil] at this; omega) (by simp))
        rw [eA] at HC7
        clear hr7
        go_wp2_with fail
        refine HC7.out.mono ?_
        rintro e w7 ⟨rfl, h7, hb7, ho7⟩
        have H7 := zz h7
        have HB7 := zz (HB6.out.trans hb7)
        have HO7 := zz (HO6.out.trans ho7)
        have HH7 := zz (ho7.heap HNE.out (by decide) HH6.out)
        clear h7 hb7 ho7
        have d7 : w7.cell? ⟨w.heap.size, 4, none⟩ = some (.slice bo bn bc) := by rw [Lib.cell_of_heap HH7.out]; rfl
        have HS := zz (HST.out w7 _ H7.out HB7.out (by have := HL.out; simp only [List.length_append, List.length_cons, List.length_nil] at this ⊢; rw [if_pos HKZ.out] at this; simp only [List.length_nil] at this; omega))
        unfold aI at HS
        rw [show ((1 : Nat) : Int) = 1 from rfl] at HS
        go_wp2_with fail
        refine HS.out.mono ?_
        rintro e w8 ⟨rfl, h8, hb8, ho8⟩
        have H8 := zz h8
        have HB8 := zz (HB7.out.trans (hb8.mono (Nat.le_refl _)))
        have HO8 := zz (HO7.out.trans ho8)
        clear h8 hb8 ho8 d7
        have hr9 := Nat.le_trans HB.out HB8.out.size
        have HC9 := zz (bC B b 0 _ [mkT cF] w8 H8.out hr9 (by have := HL.out; rw [eA]; simp only [List.length_append, List.length_cons, List.length_nil] at this ⊢; rw [if_pos HKZ.out] at this; simp only [List.length_nil] at this; omega) (by simp))
        rw [eA, show ((0 : Nat) : Int) = 0 from rfl] at HC9
        clear hr9
        go_wp2_with fail
        refine HC9.out.mono ?_
        rintro e w9 ⟨rfl, h9, hb9, ho9⟩
        have H9 := zz h9
        have HB9 := zz (HB8.out.trans hb9)
        have HO9 := zz (HO8.out.trans ho9)
        clear h9 hb9 ho9
        go_wp2_with fail
        try simp only [Exit.inBlock, Exit.then]
        go_end0
        refine ⟨rfl, ?_, HB9.out, HO9.out⟩
        have hq := H9.out
        unfold fuV
        rw [if_pos HKZ.out]
        simp only [List.append_assoc, List.nil_append] at hq ⊢
        exact hq
      · have hz : ((g.kind : Int) == 0) = false := beq_eq_false_iff_ne.2 (by omega)
        have HKZ := zz hk0
        clear hk0
        have HKT := zz (kP g.kind w6 (HP.out.below HB6.out).kinds)
        have hr6 := Nat.le_trans HB.out HB6.out.size
        have HC10 := zz (bZ B b _ [mkT (iE g.kind), mkT [32]] w6 H6.out hr6 (by have := HL.out; rw [tB]; rw [if_neg HKZ.out] at this; simp only [List.length_append, List.length_cons, List.length_nil] at this ⊢; omega) (by simp))
        rw [tB] at HC10
        clear hr6
        go_wp2_with fail
        refine HKT.out.mono ?_
        rintro e w9 ⟨rfl, rfl⟩
        go_wp2_with fail
        refine HC10.out.mono ?_
        rintro e wk ⟨rfl, h10, hb10, ho10⟩
        have H10 := zz h10
        have HB10 := zz (HB6.out.trans hb10)
        have HO10 := zz (HO6.out.trans ho10)
        have HH10 := zz (ho10.heap HNE.out (by decide) HH6.out)
        clear h10 hb10 ho10 d6 hz
        have hr7 := Nat.le_trans HB.out HB10.out.size
        have HC7 := zz (bZ B b _ [mkT [123, 10]] wk H10.out hr7 (by have := HL.out; rw [eA]; simp only [List.length_append, List.length_cons, List.length_nil] at this ⊢; rw [if_neg HKZ.out] at this; simp only [List.length_append, List.length_cons, List.length_nil] at this; omega) (by simp))
        rw [eA] at HC7
        clear hr7
        go_wp2_with fail
        refine HC7.out.mono ?_
        rintro e w7 ⟨rfl, h7, hb7, ho7⟩
        have H7 := zz h7
        have HB7 := zz (HB10.out.trans hb7)
        have HO7 := zz (HO10.out.trans ho7)
        have HH7 := zz (ho7.heap HNE.out (by decide) HH10.out)
        clear h7 hb7 ho7
        have d7 : w7.cell? ⟨w.heap.size, 4, none⟩ = some (.slice bo bn bc) := by rw [Lib.cell_of_heap HH7.out]; rfl
        have HS := zz (HST.out w7 _ H7.out HB7.out (by have := HL.out; simp only [List.length_append, List.length_cons, List.length_nil] at this ⊢; rw [if_neg HKZ.out] at this; simp only [List.length_append, List.length_cons, List.length_nil] at this; omega))
        unfold aI at HS
        rw [show ((1 : Nat) : Int) = 1 from rfl] at HS
        go_wp2_with fail
        refine HS.out.mono ?_
        rintro e w8 ⟨rfl, h8, hb8, ho8⟩
        have H8 := zz h8
        have HB8 := zz (HB7.out.trans (hb8.mono (Nat.le_refl _)))
        have HO8 := zz (HO7.out.trans ho8)
        clear h8 hb8 ho8 d7
        have hr9 := Nat.le_trans HB.out HB8.out.size
        have HC9 := zz (bC B b 0 _ [mkT cF] w8 H8.out hr9 (by have := HL.out; rw [eA]; simp only [List.length_append, List.length_cons, List.length_nil] at this ⊢; rw [if_neg HKZ.out] at this; simp only [List.length_append, List.length_cons, List.length_nil] at this; omega) (by simp))
        rw [eA, show ((0 : Nat) : Int) = 0 from rfl] at HC9
        clear hr9
        go_wp2_with fail
        refine HC9.out.mono ?_
        rintro e w9 ⟨rfl, h9, hb9, ho9⟩
        have H9 := zz h9
        have HB9 := zz (HB8.out.trans hb9)
        have HO9 := zz (HO8.out.trans ho9)
        clear h9 hb9 ho9
        go_wp2_with fail
        try simp only [Exit.inBlock, Exit.then]
        go_end0
        refine ⟨rfl, ?_, HB9.out, HO9.out⟩
        have hq := H9.out
        unfold fuV
        rw [if_neg HKZ.out]
        simp only [List.append_assoc] at hq ⊢
        exact hq
def KS : Lx.B := [118, 97, 114, 32]
def glV (g : Gl) : Lx.B := aC 0 (KS ++ g.name)
def eX (s : Src) : Lx.B := s.globals.flatMap glV ++ s.funcs.flatMap fuV
def nS (s : Src) : Prop := ∀ g ∈ s.funcs, eV g.body
theorem BM {α : Type} (f : α -> Lx.B) (l : List α) (k : Nat) : ((l.take k).flatMap f).length <= (l.flatMap f).length := by
 have h : l.flatMap f = (l.take k).flatMap f ++ (l.drop k).flatMap f := by rw [<- List.flatMap_append, List.take_append_drop]
 rw [h, List.length_append]
 exact Nat.le_add_right _ _
theorem tE {α : Type} (f : α -> Lx.B) {l : List α} {k : Nat} {x : α} (h : l[k]? = some x) : (l.take (k + 1)).flatMap f = (l.take k).flatMap f ++ f x := by
 rw [List.take_add_one, h, Option.toList_some, List.flatMap_append, List.flatMap_cons, List.flatMap_nil, List.append_nil]
theorem zS {F : Nat -> Prop} {v : Value} {l : List Pa} (h : PaRow w F v l) : ∃ o c, v = .slice o l.length c := by
 rcases h with ⟨e, e2⟩ | ⟨g, cap, e, _⟩
 ·exact ⟨none, 0, by rw [e, e2]; rfl⟩
 ·exact ⟨_, _, e⟩
theorem tF {src : Src} {gv fv : Value} (w : World) (hs : zG w (fun k => k < w.heap.size) src gv fv) (hP : PEnv w.heap.size w) (hok : nS src) (hlen : (eX src).length <= 100000000) :
  fB w 33 #[.agg #[gv, fv]] (eX src) := by
 unfold fB
 obtain ⟨go, gc, rfl⟩ : ∃ o c, gv = .slice o src.globals.length c := by
  rcases hs.1 with ⟨e, e2⟩ | ⟨g, cap, e, _⟩
  ·exact ⟨none, 0, by rw [e, e2]; rfl⟩
  ·exact ⟨_, _, e⟩
 obtain ⟨fo, fc, rfl⟩ : ∃ o c, fv = .slice o src.funcs.length c := by
  rcases hs.2 with ⟨e, e2⟩ | ⟨g, cap, e, _⟩
  ·exact ⟨none, 0, by rw [e, e2]; rfl⟩
  ·exact ⟨_, _, e⟩
 have hgn : src.globals.length <= 9223372036854775807 := by
  rcases hs.1 with ⟨_, e2⟩ | ⟨g, cap, _, h1, h2, _⟩
  ·rw [e2]; exact Nat.zero_le _
  ·unfold maxLen at h2; omega
 have hfn : src.funcs.length <= 9223372036854775807 := by
  rcases hs.2 with ⟨_, e2⟩ | ⟨g, cap, _, h1, h2, _⟩
  ·rw [e2]; exact Nat.zero_le _
  ·unfold maxLen at h2; omega
 have HG : Hid (∀ k x, src.globals[k]? = some x -> ∃ g', go = some ⟨g', 0, none⟩ /\ g' < w.heap.size /\ w.cell? ⟨g', k * 2, none⟩ = some (.string (mkT x.name)) /\ w.cell? ⟨g', k * 2 + 1, none⟩ = some (.int .i64 (x.at_ : Nat))) := zz fun k x hx => by
  rcases hs.1 with ⟨_, e2⟩ | ⟨g', cap, e, _, _, hg, _, h6⟩
  ·rw [e2] at hx; cases hx
  ·injection e with e1 _ _
   exact ⟨g', e1, hg, h6 k x hx⟩
 have HF : Hid (∀ k x, src.funcs[k]? = some x -> ∃ g', fo = some ⟨g', 0, none⟩ /\ g' < w.heap.size /\ yY w (fun k => k < w.heap.size) g' (k * 5) x) := zz fun k x hx => by
  rcases hs.2 with ⟨_, e2⟩ | ⟨g', cap, e, _, _, hg, _, h6⟩
  ·rw [e2] at hx; cases hx
  ·injection e with e1 _ _
   exact ⟨g', e1, hg, h6 k x hx⟩
 have hb1 := aG w #[.slice go src.globals.length gc, .slice fo src.funcs.length fc] 26
 have hb2 := aG (w.alloc (.cells #[.slice go src.globals.length gc, .slice fo src.funcs.length fc] 26)) #[.pointer none, .slice none 0 0] 129
 have hpc := F6 (w.alloc (.cells #[.slice go src.globals.length gc, .slice fo src.funcs.length fc] 26))
 rw [bO w] at hpc hb2
 have HPC := zz hpc
 have HB := zz (hb1.trans (hb2.mono (Nat.le_succ _)))
 have HCE : Hid (((w.alloc (.cells #[.slice go src.globals.length gc, .slice fo src.funcs.length fc] 26)).alloc (.cells #[.pointer none, .slice none 0 0] 129)).cell? ⟨w.heap.size, 1, none⟩ = some (.slice fo src.funcs.length fc)) := zz (by
  rw [hb2.cell (p := ⟨w.heap.size, 1, none⟩) (Nat.lt_succ_self _), Lib.cell_of_heap (heap_alloc_new w _)]; rfl)
 have HP := zz hP
 have HOK := zz hok
 have HL := zz hlen
 unfold eX at HL
 clear hs hP hok hlen hb1 hb2 hpc
 go_enter Tryz.func33, Tryz.ntmps33
 go_wp2_with fail
 go_loopw [11, 5] (fun i _ wr => ∃ k : Nat, k <= src.globals.length /\ i = .int .i64 k /\ PC (w.heap.size + 1) (w.heap.size + 1) ((src.globals.take k).flatMap glV) wr /\ Below w.heap.size w wr /\ wr.cell? ⟨w.heap.size, 1, none⟩ = some (.slice fo src.funcs.length fc)) (fun i _ _ => src.globals.length - (intOf i).toNat)
 case atStart => exact ⟨0, Nat.zero_le _, rfl, HPC.out, HB.out, HCE.out⟩
 case round =>
  obtain ⟨k, hk, rfl, hp, hb, hce⟩ := hrel
  have HPP := zz hp
  have HBL := zz hb
  have HCF := zz hce
  clear hp hb hce
  by_cases hlt : k < src.globals.length
  ·obtain ⟨x, hkx⟩ : ∃ x, src.globals[k]? = some x := ⟨_, List.getElem?_eq_getElem hlt⟩
   obtain ⟨g', rfl, hg, c0, c1⟩ := HG.out k x hkx
   have hki : (k : Int) < (src.globals.length : Int) := by omega
   have hkii : (0 : Int) <= (k : Int) /\ (k : Int) < (src.globals.length : Int) := by omega
   have hw : IntKind.i64.wrap ((k : Int) + 1) = (k : Int) + 1 := IntWalk.i64_in _ (by omega)
   have hat := tE glV hkx
   have hle := BM glV src.globals (k + 1)
   rw [hat, List.length_append] at hle
   rw [<- HBL.out.cell (p := ⟨g', k * 2, none⟩) hg] at c0
   rw [<- HBL.out.cell (p := ⟨g', k * 2 + 1, none⟩) hg] at c1
   have HAT := zz hat
   have hbc := aG wr #[.string (mkT x.name), .int .i64 (x.at_ : Nat)] 54
   have hsz : (w.heap.size + 1) <= wr.heap.size := Nat.le_of_lt HPP.out.1.lt
   have HC := zz (bC (w.heap.size + 1) (w.heap.size + 1) 0 ((src.globals.take k).flatMap glV) [mkT KS, mkT x.name] (wr.alloc (.cells #[.string (mkT x.name), .int .i64 (x.at_ : Nat)] 54)) (HPP.out.fresh hbc) (Nat.le_trans hsz hbc.size) (by have h7 := HL.out; rw [List.length_append] at h7; rw [tB]; unfold glV at hle h7 ⊢; omega) (by simp))
   rw [tB, bO wr, show ((0 : Nat) : Int) = 0 from rfl] at HC
   have HBc := zz (HBL.out.trans (hbc.mono (Nat.le_trans (Nat.le_succ _) hsz)))
   have HCc : Hid ((wr.alloc (.cells #[.string (mkT x.name), .int .i64 (x.at_ : Nat)] 54)).cell? ⟨w.heap.size, 1, none⟩ = some (.slice fo src.funcs.length fc)) := zz (by rw [hbc.cell (p := ⟨w.heap.size, 1, none⟩) hsz]; exact HCF.out)
   clear hkx hg hat hle hbc hsz
   go_wp2_with fail
   refine HC.out.mono ?_
   rintro e w3 ⟨rfl, h3, hb3, ho3⟩
   have H3 : Hid (PC (w.heap.size + 1) (w.heap.size + 1) ((src.globals.take (k + 1)).flatMap glV) w3) := zz (by rw [HAT.out]; exact h3)
   have HC3 : Hid (w3.cell? ⟨w.heap.size, 1, none⟩ = some (.slice fo src.funcs.length fc)) := zz (by rw [hb3.cell (p := ⟨w.heap.size, 1, none⟩) (Nat.lt_succ_self _)]; exact HCc.out)
   have HB3 := zz (HBc.out.trans (hb3.mono (Nat.le_succ _)))
   clear h3 hb3 ho3
   go_wp2_with fail
   exact ⟨⟨k + 1, by omega, by simp, H3.out, HB3.out, HC3.out⟩, by simp [intOf]; omega⟩
  ·have hki : ¬ (k : Int) < (src.globals.length : Int) := by omega
   have hkk : k = src.globals.length := by omega
   have h1 := HPP.out
   rw [hkk, List.take_length] at h1
   have HP1 := zz h1
   have HB1 := zz HBL.out
   have d1 := HCF.out
   clear hkk h1
   go_wp2_with fail
   clear d1
   rename World => wz
   go_loopw [23, 7] (fun i _ wq => ∃ k : Nat, k <= src.funcs.length /\ i = .int .i64 k /\ PC (w.heap.size + 1) (w.heap.size + 1) (src.globals.flatMap glV ++ (src.funcs.take k).flatMap fuV) wq /\ Below w.heap.size w wq) (fun i _ _ => src.funcs.length - (intOf i).toNat)
   case atStart => exact ⟨0, Nat.zero_le _, rfl, by rw [List.take_zero]; show PC (w.heap.size + 1) (w.heap.size + 1) (src.globals.flatMap glV ++ []) wz; rw [List.append_nil]; exact HP1.out, HB1.out⟩
   case round =>
    obtain ⟨k, hk, rfl, hp, hb⟩ := hrel
    have HPQ := zz hp
    have HBQ := zz hb
    clear hp hb
    by_cases hlt : k < src.funcs.length
    ·obtain ⟨x, hkx⟩ : ∃ x, src.funcs[k]? = some x := ⟨_, List.getElem?_eq_getElem hlt⟩
     obtain ⟨g', rfl, hg, pv, bv, c0, c1, c2, c3, c4, hpa, hst⟩ := HF.out k x hkx
     obtain ⟨po, pc, rfl⟩ := zS hpa
     obtain ⟨bo, bn, bc, rfl⟩ := j3 hst.1
     have hki : (k : Int) < (src.funcs.length : Int) := by omega
     have hkii : (0 : Int) <= (k : Int) /\ (k : Int) < (src.funcs.length : Int) := by omega
     have hw : IntKind.i64.wrap ((k : Int) + 1) = (k : Int) + 1 := IntWalk.i64_in _ (by omega)
     have hat := tE fuV hkx
     have hle := BM fuV src.funcs (k + 1)
     rw [hat, List.length_append] at hle
     have hbc := aG wr #[.string (mkT x.name), .int .i64 (x.at_ : Nat), .slice po x.params.length pc, .int .i64 (x.kind : Nat), .slice bo bn bc] 51
     have hsz : (w.heap.size + 1) <= wr.heap.size := Nat.le_of_lt HPQ.out.1.lt
     have hbf := HBQ.out.trans (hbc.mono (Nat.le_trans (Nat.le_succ _) hsz))
     have hkf : Keeps (fun k => w.heap.size <= k) w (wr.alloc (.cells #[.string (mkT x.name), .int .i64 (x.at_ : Nat), .slice po x.params.length pc, .int .i64 (x.kind : Nat), .slice bo bn bc] 51)) := Keeps.of_below (S := fun k => w.heap.size <= k) hbf (fun _ _ e => e)
     have hdj : ∀ b : Nat, b < w.heap.size -> ¬ (w.heap.size <= b) := fun b h1 h2 => by omega
     have hup : ∀ b : Nat, b < w.heap.size -> b < (w.heap.size + 1) := fun b h1 => Nat.lt_succ_of_lt h1
     have HC := zz (rW (B := (w.heap.size + 1)) (b := (w.heap.size + 1)) (g := x) (po := po) (bo := bo) (pc := pc) (bn := bn) (bc := bc) (HOK.out x (List.mem_of_getElem? hkx)) (src.globals.flatMap glV ++ (src.funcs.take k).flatMap fuV) (wr.alloc (.cells #[.string (mkT x.name), .int .i64 (x.at_ : Nat), .slice po x.params.length pc, .int .i64 (x.kind : Nat), .slice bo bn bc] 51)) (HPQ.out.fresh hbc) (Nat.le_trans hsz hbc.size) ((HP.out.below hbf).mono (Nat.le_succ _)) (PaRow.mono (fun b _ h => hup b h) (hpa.keeps hkf hdj)) (hst.1.mono hup) (fun g n cap e => StsIn.mono hup g 0 _ ((hst.keeps hkf hdj).2 g n cap e)) (by have h7 := HL.out; rw [List.length_append] at h7 ⊢; omega))
     unfold aI at HC
     rw [<- HBQ.out.cell (p := ⟨g', k * 5, none⟩) hg] at c0
     rw [<- HBQ.out.cell (p := ⟨g', k * 5 + 1, none⟩) hg] at c1
     rw [<- HBQ.out.cell (p := ⟨g', k * 5 + 2, none⟩) hg] at c2
     rw [<- HBQ.out.cell (p := ⟨g', k * 5 + 3, none⟩) hg] at c3
     rw [<- HBQ.out.cell (p := ⟨g', k * 5 + 4, none⟩) hg] at c4
     have HAT := zz hat
     have HBF := zz hbf
     clear hkx hg hat hle hbc hsz hbf hkf hdj hup hpa hst
     go_wp2_with fail
     refine HC.out.mono ?_
     rintro e w3 ⟨rfl, h3, hb3, ho3⟩
     have H3 : Hid (PC (w.heap.size + 1) (w.heap.size + 1) (src.globals.flatMap glV ++ (src.funcs.take (k + 1)).flatMap fuV) w3) := zz (by rw [HAT.out, <- List.append_assoc]; exact h3)
     have HB3 := zz (HBF.out.trans (hb3.mono (Nat.le_succ _)))
     clear h3 hb3 ho3
     go_wp2_with fail
     exact ⟨⟨k + 1, by omega, by simp, H3.out, HB3.out⟩, by simp [intOf]; omega⟩
    ·have hki : ¬ (k : Int) < (src.funcs.length : Int) := by omega
     have hkk : k = src.funcs.length := by omega
     have h1 := HPQ.out
     rw [hkk, List.take_length] at h1
     have HS := zz (o7 _ _ _ _ h1)
     clear hkk h1
     go_wp2_with fail
     refine HS.out.mono ?_
     rintro e w3 ⟨rfl, hb3⟩
     have HB3 := zz (HBQ.out.trans (hb3.mono (Nat.le_succ _)))
     clear hb3
     go_wp2_with fail
     try simp only [Exit.inBlock, Exit.then]
     go_ret
     exact ⟨rfl, HB3.out⟩
end Go.Proofs.YtnpapppipccdbaaGreatDoor
namespace Go.Proofs.YtnpapppipccdbaaGreatDoor
open Go.RowKit Lx Tr
theorem GD (least : Nat) : ∀ (x : Ex) (b : Lx.B), exW least (exE x) b = exW least x b
 | .nil, _ => by rw [exE]
 | .mk .., _ => by rw [exE]; rfl
mutual
theorem pR : ∀ x : Ex, aH (exE x) = aH x
 | .nil => by rw [exE]
 | .mk c a n op nm l r zs => by
  rw [exE, aH, aH, pR l, pR r, GE true zs]
  simp only [GD]
theorem GE : ∀ (f : Bool) (xs : Exs), f7 f (gC xs) = f7 f xs
 | f, .nil => by rw [gC]
 | f, .cons x xs => by rw [gC, f7, f7, pR x, GE false xs, GD]
end
theorem J3 (least : Nat) (x : Ex) : exV least (exE x) = exV least x := by unfold exV; rw [GD, pR]
theorem lT : ∀ xs : Sts, (cS xs).len = xs.len
 | .nil => by rw [cS]
 | .cons x xs => by rw [cS, Sts.len, Sts.len, lT xs]
def wsT (E : Env) : Nat -> Nat
 | 0 => 0
 | n + 1 => wsT E n + ((pk E n).text.length + 128)
theorem KT (E : Env) (n k : Nat) : wsT E n + 128 * k <= wsT E (n + k) := by
 induction k with
 | zero => simp
 | succ k ih => show _ <= wsT E (n + k) + _; omega
theorem jM (E : Env) {n m : Nat} (h : n <= m) : wsT E n + 128 * (m - n) <= wsT E m := by
 have := KT E n (m - n)
 rw [show n + (m - n) = m by omega] at this
 exact this
theorem bA (E : Env) (n : Nat) : wsT E (n + 1) = wsT E n + ((pk E n).text.length + 128) := rfl
theorem l9 (k : Nat) : (cQ k).length <= 3 := by
 unfold cQ
 by_cases h : k < n9.length
 ·have : ∀ x ∈ n9, x.length <= 3 := by decide
  rw [List.getD_eq_getElem?_getD, List.getElem?_eq_getElem h]
  exact this _ (List.getElem_mem h)
 ·rw [List.getD_eq_getElem?_getD, List.getElem?_eq_none (by omega)]
  exact Nat.zero_le _
theorem u0 (k : Nat) : (sgV k).length <= 3 := by
 unfold sgV
 split
 ·decide
 ·split
  ·decide
  ·exact l9 k
theorem tG (k : Nat) : (iE k).length <= 4 := by
 unfold iE
 by_cases h : k < gG.length
 ·have : ∀ x ∈ gG, x.length <= 4 := by decide
  rw [List.getD_eq_getElem?_getD, List.getElem?_eq_getElem h]
  exact this _ (List.getElem_mem h)
 ·rw [List.getD_eq_getElem?_getD, List.getElem?_eq_none (by omega)]
  exact Nat.zero_le _
theorem mA (least : Nat) (x : Ex) (b : Lx.B) : (exW least x b).length <= b.length + 2 := by
 unfold exW
 split
 ·exact Nat.zero_le _
 ·split
  ·simp
  ·omega
def ExL (E : Env) (n m : Nat) (x : Ex) : Prop := bB x /\ (aH x).length + 64 + wsT E n <= wsT E m
def LJ (E : Env) (n m : Nat) (x : Exs) : Prop := kZ x /\ (f7 true x).length + 64 + wsT E n <= wsT E m
theorem ExL.ex {E : Env} {n m : Nat} {x : Ex} (h : ExL E n m x) (least : Nat) : (exV least x).length + 62 + wsT E n <= wsT E m := by
 have := mA least x (aH x)
 have := h.2
 unfold exV; omega
theorem tH : ∀ (xs : Exs) (f : Bool) (y : Ex), (f7 f (xs.snoc y)).length <= (f7 f xs).length + (aH y).length + 4
 | .nil, f, y => by
  rw [Exs.snoc, f7, f7, f7]
  have := mA 1 y (aH y)
  cases f <;> simp <;> omega
 | .cons x xs, f, y => by
  rw [Exs.snoc, f7, f7]
  have := tH xs false y
  simp only [List.length_append]
  omega
theorem mZ : ∀ (xs : Exs) (y : Ex), kZ xs -> bB y -> kZ (xs.snoc y)
 | .nil, _, _, h => ⟨h, trivial⟩
 | .cons _ xs, y, h, h2 => ⟨h.1, mZ xs y h.2 h2⟩
theorem ExL.leaf {E : Env} {n code at_ k : Nat} {nm : Lx.B} (hk : k <= 9223372036854775807) (hnm : nm.length <= (pk E n).text.length) : ExL E n (n + 1) (Tr.leaf code at_ k nm) := by
 refine ⟨⟨hk, trivial, trivial, trivial⟩, ?_⟩
 rw [bA]
 have h1 : (kM k).length <= 21 := Lib.itoa_length_le _ (by omega) (by omega)
 have h2 : (aH (Tr.leaf code at_ k nm)).length <= (pk E n).text.length + 64 := by
  unfold Tr.leaf
  rw [aH]
  have e0 : exW 6 Ex.nil (aH .nil) = [] := rfl
  have e1 : exW 1 Ex.nil (aH .nil) = [] := rfl
  have e2 : exW (bN 0) Ex.nil (aH .nil) = [] := rfl
  have e3 : exW (bN 0 + 1) Ex.nil (aH .nil) = [] := rfl
  have e4 : f7 true Exs.nil = [] := by rw [f7]
  have h3 := u0 0
  have h4 := l9 0
  rw [e0, e1, e2, e3, e4]
  repeat' split
  all_goals ((try simp only [List.length_append, List.length_cons, List.length_nil, List.append_nil, eY, cW, iS, aM, dZ, iR]); omega)
 omega
structure Lens (E : Env) (f : Nat) : Prop where
 one : ∀ d n x m, one E f d n = .ok x m -> ExL E n m x
 bracketed : ∀ d n x m, bracketed E f d n = .ok x m -> ExL E n m x
 tied : ∀ l d n x m, tied E f l d n = .ok x m -> ExL E n m x
 tloop : ∀ l d a n0 n x m, tloop E f l d a n = .ok x m -> ExL E n0 n a -> ExL E n0 m x
 named : ∀ d n x m, named E f d n = .ok x m -> ExL E n m x
 call : ∀ d t n0 n x m, call E f d t n = .ok x m -> wsT E n0 + t.text.length + 128 <= wsT E n -> ExL E n0 m x
 args : ∀ d a n0 n x m, args E f d a n = .ok x m -> LJ E n0 n a -> LJ E n0 m x
theorem dV {E : Env} {t : Lx.B} {n m : Nat} {x : Tok} (h : take E t n = .ok x m) : m = n + 1 := by
 unfold take Tr.fail at h
 split at h
 ·cases h; rfl
 ·cases h
theorem cA {E : Env} {q n m : Nat} {x : Tok} (h : aF E q n = .ok x m) : m = n + 1 /\ x = pk E n := by
 unfold aF Tr.fail at h
 split at h
 ·cases h; exact ⟨rfl, rfl⟩
 ·cases h
theorem u3 {E : Env} {n m code at_ k op : Nat} {x : Ex} (hk : k <= 9223372036854775807) (hc : code = 6 \/ code = 10 \/ code = 8 \/ code = 9) (h : ExL E (n + 1) m x) : ExL E n m (.mk code at_ k op [] x .nil .nil) := by
 refine ⟨⟨hk, h.1, trivial, trivial⟩, ?_⟩
 have h2 := h.2
 rw [bA] at h2
 have h3 : (aH (.mk code at_ k op [] x .nil .nil)).length <= (aH x).length + 8 := by
  have a1 := mA 6 x (aH x)
  have a2 := mA 1 x (aH x)
  have a3 := l9 op
  rw [aH]
  rcases hc with rfl | rfl | rfl | rfl
  all_goals (simp only [reduceIte, List.length_append, List.length_cons, List.length_nil, eY, cW, iS, aM, dZ, iR, Nat.reduceEqDiff]; omega)
 omega
theorem D5 {E : Env} (hnum : ∀ n, (pk E n).kind = 3 -> dY (pk E n).text <= 9223372036854775807) (f : Nat) : Lens E f := by
 induction f with
 | zero =>
  constructor
  ·intro _ _ _ _ h; rw [Tr.one] at h; cases h
  ·intro _ _ _ _ h; rw [Tr.bracketed] at h; cases h
  ·intro _ _ _ _ _ h; rw [Tr.tied] at h; cases h
  ·intro _ _ _ _ _ _ _ h; rw [Tr.tloop] at h; cases h
  ·intro _ _ _ _ h; rw [Tr.named] at h; cases h
  ·intro _ _ _ _ _ _ h; rw [Tr.call] at h; cases h
  ·intro _ _ _ _ _ _ h; rw [Tr.args] at h; cases h
 | succ f ih =>
  constructor
  ·intro d n x m h
   rw [Tr.one] at h
   by_cases c0 : 12 < d
   ·rw [if_pos c0] at h; exact (aP h).elim
   rw [if_neg c0] at h
   by_cases c1 : (pk E n).kind = 3
   ·rw [if_pos c1] at h
    cases h
    exact ExL.leaf (hnum n c1) (Nat.zero_le _)
   rw [if_neg c1] at h
   by_cases c2 : (pk E n).kind = 1
   ·rw [if_pos c2] at h
    exact ih.named _ _ _ _ h
   rw [if_neg c2] at h
   by_cases c3 : (pk E n).text = tLp
   ·rw [if_pos c3] at h
    exact ih.bracketed _ _ _ _ h
   rw [if_neg c3] at h
   by_cases c4 : (pk E n).text = [45] \/ (pk E n).text = [94] \/ (pk E n).text = [33]
   ·rw [if_pos c4] at h
    obtain ⟨y, n1, h1, h⟩ := aA h
    cases h
    exact u3 (by omega) (by simp) (ih.one _ _ _ _ h1)
   rw [if_neg c4] at h
   by_cases c5 : (pk E n).text = aM
   ·rw [if_pos c5] at h
    obtain ⟨y, n1, h1, h⟩ := aA h
    cases h
    exact u3 (by omega) (by simp) (ih.one _ _ _ _ h1)
   rw [if_neg c5] at h
   by_cases c6 : (pk E n).text = dZ
   ·rw [if_pos c6] at h
    obtain ⟨y, n1, h1, h⟩ := aA h
    cases h
    exact u3 (by omega) (by simp) (ih.bracketed _ _ _ _ h1)
   rw [if_neg c6] at h
   by_cases c7 : (pk E n).text = iR
   ·rw [if_pos c7] at h
    obtain ⟨y, n1, h1, h⟩ := aA h
    cases h
    exact u3 (by omega) (by simp) (ih.bracketed _ _ _ _ h1)
   rw [if_neg c7] at h
   by_cases c8 : (pk E n).text = eY
   ·rw [if_pos c8] at h
    cases h
    exact ExL.leaf (by omega) (Nat.zero_le _)
   rw [if_neg c8] at h
   by_cases c9 : (pk E n).text = cW
   ·rw [if_pos c9] at h
    cases h
    exact ExL.leaf (by omega) (Nat.zero_le _)
   rw [if_neg c9] at h
   by_cases c10 : (pk E n).text = iS
   ·rw [if_pos c10] at h
    cases h
    exact ExL.leaf (by omega) (Nat.zero_le _)
   rw [if_neg c10] at h
   exact (aP h).elim
  ·intro d n x m h
   rw [bX] at h
   obtain ⟨_, n1, h1, h⟩ := aA h
   obtain ⟨y, n2, h2, h⟩ := aA h
   obtain ⟨_, n3, h3, h⟩ := aA h
   cases h
   have q := ih.tied _ _ _ _ _ h2
   have a1 := jM E (Nat.le_of_lt (aW h1))
   have a3 := jM E (Nat.le_of_lt (aW h3))
   exact ⟨q.1, by have := q.2; omega⟩
  ·intro l d n x m h
   rw [iT] at h
   by_cases c : l = 6
   ·rw [if_pos c] at h
    exact ih.one _ _ _ _ h
   ·rw [if_neg c] at h
    obtain ⟨y, n1, h1, h⟩ := aA h
    exact ih.tloop _ _ _ _ _ _ _ h (ih.tied _ _ _ _ _ h1)
  ·intro l d a n0 n x m h ha
   rw [hM] at h
   by_cases c : bN (opV (pk E n).text) = l
   ·rw [if_pos c] at h
    obtain ⟨y, n1, h1, h⟩ := aA h
    have q := ih.tied _ _ _ _ _ h1
    refine ih.tloop _ _ _ n0 _ _ _ h ⟨⟨by omega, ha.1, q.1, trivial⟩, ?_⟩
    have b1 := ha.2
    have b2 := q.2
    rw [bA] at b2
    have b3 := mA (bN (opV (pk E n).text)) a (aH a)
    have b4 := mA (bN (opV (pk E n).text) + 1) y (aH y)
    have b5 := u0 (opV (pk E n).text)
    rw [aH]
    simp only [reduceIte, List.length_append, List.length_cons, List.length_nil, Nat.reduceEqDiff]
    omega
   ·rw [if_neg c] at h
    cases h
    exact ha
  ·intro d n x m h
   rw [hU] at h
   by_cases c : (pk E (n + 1)).text = tLp
   ·rw [if_pos c] at h
    exact ih.call _ _ n _ _ _ h (by rw [bA]; omega)
   ·rw [if_neg c] at h
    cases h
    exact ExL.leaf (by omega) (Nat.le_refl _)
  ·intro d t n0 n x m h ht
   rw [iU] at h
   obtain ⟨_, n1, h1, h⟩ := aA h
   have a1 := jM E (Nat.le_of_lt (aW h1))
   by_cases c : (pk E n1).text = tRp
   ·rw [if_pos c] at h
    cases h
    refine ⟨⟨by omega, trivial, trivial, trivial⟩, ?_⟩
    rw [aH, bA]
    have e4 : f7 true Exs.nil = [] := by rw [f7]
    rw [e4]
    simp only [reduceIte, List.length_append, List.length_cons, List.length_nil, Nat.reduceEqDiff]
    omega
   ·rw [if_neg c] at h
    obtain ⟨y, n2, h2, h⟩ := aA h
    cases h
    have q := ih.args _ .nil n _ _ _ h2 ⟨trivial, by
     have e4 : f7 true Exs.nil = [] := by rw [f7]
     rw [e4]
     have := dV h1
     subst this
     rw [bA]
     simp only [List.length_nil]
     omega⟩
    refine ⟨⟨by omega, trivial, trivial, q.1⟩, ?_⟩
    have b1 := q.2
    rw [aH]
    simp only [reduceIte, List.length_append, List.length_cons, List.length_nil, Nat.reduceEqDiff]
    omega
  ·intro d a n0 n x m h ha
   rw [kA] at h
   obtain ⟨y, n1, h1, h⟩ := aA h
   have q := ih.tied _ _ _ _ _ h1
   have b0 := tH a true y
   have b1 := ha.2
   have b2 := q.2
   by_cases c : (pk E n1).text = cB
   ·rw [if_pos c] at h
    refine ih.args _ _ n0 _ _ _ h ⟨mZ _ _ ha.1 q.1, ?_⟩
    rw [bA]
    omega
   ·rw [if_neg c] at h
    obtain ⟨_, n2, h2, h⟩ := aA h
    have a2 := jM E (Nat.le_of_lt (aW h2))
    have a3 := dV h2
    cases h
    refine ⟨mZ _ _ ha.1 q.1, ?_⟩
    subst a3
    rw [bA] at a2 ⊢
    omega
def StL (E : Env) (d n m : Nat) (s : St) : Prop := qC s /\ (stV d s).length + wsT E n <= wsT E m
def StsL (E : Env) (d n m : Nat) (s : Sts) : Prop := eV s /\ (bG d s).length + wsT E n <= wsT E m
def CaL (E : Env) (d n m : Nat) (s : Ca) : Prop := vW s /\ (caV d s).length + wsT E n <= wsT E m
def CasL (E : Env) (d n m : Nat) (s : Cas) : Prop := mE s /\ (jS d s).length + wsT E n <= wsT E m
theorem tI (d : Nat) : ∀ (xs : Sts) (y : St), bG d (xs.snoc y) = bG d xs ++ stV d y
 | .nil, y => by rw [Sts.snoc, bG, bG, bG, List.append_nil, List.nil_append]
 | .cons x xs, y => by rw [Sts.snoc, bG, bG, tI d xs y, List.append_assoc]
theorem tJ (d : Nat) : ∀ (xs : Cas) (y : Ca), jS d (xs.snoc y) = jS d xs ++ caV d y
 | .nil, y => by rw [Cas.snoc, jS, jS, jS, List.append_nil, List.nil_append]
 | .cons x xs, y => by rw [Cas.snoc, jS, jS, tJ d xs y, List.append_assoc]
theorem qT : ∀ (xs : Sts) (y : St), eV xs -> qC y -> eV (xs.snoc y)
 | .nil, _, _, h => ⟨h, trivial⟩
 | .cons _ xs, y, h, h2 => ⟨h.1, qT xs y h.2 h2⟩
theorem qU : ∀ (xs : Cas) (y : Ca), mE xs -> vW y -> mE (xs.snoc y)
 | .nil, _, _, h => ⟨h, trivial⟩
 | .cons _ xs, y, h, h2 => ⟨h.1, qU xs y h.2 h2⟩
theorem StsL.snoc {E : Env} {d n0 n m : Nat} {xs : Sts} {y : St} (h : StsL E d n0 n xs) (h2 : StL E d n m y) : StsL E d n0 m (xs.snoc y) := by
 refine ⟨qT _ _ h.1 h2.1, ?_⟩
 rw [tI, List.length_append]
 have := h.2
 have := h2.2
 omega
theorem CasL.snoc {E : Env} {d n0 n m : Nat} {xs : Cas} {y : Ca} (h : CasL E d n0 n xs) (h2 : CaL E d n m y) : CasL E d n0 m (xs.snoc y) := by
 refine ⟨qU _ _ h.1 h2.1, ?_⟩
 rw [tJ, List.length_append]
 have := h.2
 have := h2.2
 omega
theorem StsL.on {E : Env} {d n0 n m : Nat} {xs : Sts} (h : StsL E d n0 n xs) (hm : n <= m) : StsL E d n0 m xs := ⟨h.1, by have := h.2; have := jM E hm; omega⟩
theorem eB (least : Nat) : exV least .nil = [] := rfl
theorem qV (d : Nat) : bG d .nil = [] := by rw [bG]
theorem GF (d : Nat) : jS d .nil = [] := by rw [jS]
theorem D6 (d : Nat) (x : Ex) : (iP d x).length <= 2 * d + 8 + (exV 1 x).length := by
 unfold iP
 split
 ·rw [aD]; simp only [fC, List.length_cons, List.length_nil]; omega
 ·rw [aD]; simp only [d9, List.length_append, List.length_cons, List.length_nil]; omega
theorem fN {E : Env} {d n m code at_ : Nat} {nm : Lx.B} {dst v : Ex} (hd : d <= 12) (h1 : bB dst) (h2 : bB v) (hl : nm.length + (exV 6 dst).length + (exV 1 v).length + 40 + wsT E n <= wsT E m) (hc : code < 12) : StL E d n m (stz code at_ nm dst v) := by
 refine ⟨⟨h1, h2, trivial, trivial, trivial⟩, ?_⟩
 have hg := D6 d v
 have : (stV d (stz code at_ nm dst v)).length <= 40 + nm.length + (exV 6 dst).length + (exV 1 v).length := by
  unfold stz
  rcases (by omega : code = 0 \/ code = 1 \/ code = 2 \/ code = 3 \/ code = 4 \/ code = 5 \/ code = 6 \/ code = 7 \/ code = 8 \/ code = 9 \/ code = 10 \/ code = 11) with rfl | rfl | rfl | rfl | rfl | rfl | rfl | rfl | rfl | rfl | rfl | rfl
  all_goals (rw [stV]; simp only [reduceIte, Nat.reduceEqDiff, cY, aD, mW, mX, fR, cRp, fS, fT, cGo, jR, dW, List.length_append, List.length_cons, List.length_nil]; omega)
 omega
theorem gJ {E : Env} (hnum : ∀ n, (pk E n).kind = 3 -> dY (pk E n).text <= 9223372036854775807) {f d n m : Nat} {x : Ex} (h : dJ E f d n = .ok x m) : ExL E n m x := (D5 hnum f).tied _ _ _ _ _ h
theorem u4 (E : Env) (n : Nat) : wsT E (n + 2) = wsT E n + ((pk E n).text.length + 128) + ((pk E (n + 1)).text.length + 128) := rfl
theorem GG {E : Env} {n m : Nat} {x : Ex} (h : ExL E n m x) (hc : Tr.codeOf x = 10) : bB (Tr.leftOf x) /\ (exV 6 (Tr.leftOf x)).length + 64 + wsT E n <= wsT E m := by
 cases x with
 | nil => cases hc
 | mk code at_ k op nm l r zs =>
  have hc' : code = 10 := hc
  subst hc'
  refine ⟨h.1.2.1, ?_⟩
  have h2 := h.2
  rw [aH] at h2
  simp only [reduceIte, List.length_append, List.length_cons, List.length_nil, Nat.reduceEqDiff, aM] at h2
  show (exW 6 l (aH l)).length + 64 + wsT E n <= wsT E m
  omega
theorem D7 {E : Env} (hnum : ∀ n, (pk E n).kind = 3 -> dY (pk E n).text <= 9223372036854775807) {f d n m : Nat} {s : St} (hd : d <= 12) (h : cN E f n = .ok s m) : StL E d n m s := by
 unfold cN at h
 by_cases c1 : (pk E n).kind = 1 /\ (pk E (n + 1)).text = iQ
 ·rw [if_pos c1] at h
  obtain ⟨y, n1, h1, h⟩ := aA h
  cases h
  have q := gJ hnum h1
  have q1 := q.ex 1
  rw [u4] at q1
  exact fN hd trivial q.1 (by rw [eB]; simp only [List.length_nil]; omega) (by decide)
 rw [if_neg c1] at h
 by_cases c2 : (pk E n).kind = 1 /\ (pk E (n + 1)).text = pW
 ·rw [if_pos c2] at h
  obtain ⟨y, n1, h1, h⟩ := aA h
  cases h
  have q := gJ hnum h1
  have q1 := q.ex 1
  rw [u4] at q1
  exact fN hd trivial q.1 (by rw [eB]; simp only [List.length_nil]; omega) (by decide)
 rw [if_neg c2] at h
 obtain ⟨y, n1, h1, h⟩ := aA h
 have q := (D5 hnum f).one _ _ _ _ h1
 by_cases c3 : (pk E n1).text = aM
 ·rw [if_pos c3] at h
  obtain ⟨z, n2, h2, h⟩ := aA h
  cases h
  have p := gJ hnum h2
  have q1 := q.ex 6
  have p1 := p.ex 1
  rw [bA] at p1
  exact fN hd q.1 p.1 (by simp only [List.length_nil]; omega) (by decide)
 rw [if_neg c3] at h
 by_cases c4 : Tr.codeOf y = 7 \/ Tr.codeOf y = 10
 ·rw [if_pos c4] at h
  cases h
  have q1 := q.ex 1
  exact fN hd trivial q.1 (by rw [eB]; simp only [List.length_nil]; omega) (by decide)
 rw [if_neg c4] at h
 exact (aP h).elim
theorem GH {E : Env} (hnum : ∀ n, (pk E n).kind = 3 -> dY (pk E n).text <= 9223372036854775807) {f n m : Nat} {s : Nat × B × Ex × Ex} (h : hH E f n = .ok s m) : bB s.2.2.1 /\ bB s.2.2.2 /\ (dG s.1 s.2.1 s.2.2.1 s.2.2.2).length + wsT E n <= wsT E m := by
 unfold hH at h
 by_cases c1 : (pk E n).kind = 1 /\ (pk E (n + 1)).text = iQ
 ·rw [if_pos c1] at h
  obtain ⟨_, n0, h0, h⟩ := aA h
  obtain ⟨y, n1, h1, h⟩ := aA h
  cases h
  have q := (D5 hnum f).one _ _ _ _ h1
  have a0 := dV h0
  subst a0
  have q1 := q.ex 6
  rw [bA, u4] at q1
  refine ⟨q.1, trivial, ?_⟩
  unfold dG
  rw [if_neg (show ¬ (10 : Nat) = 3 by decide), if_pos rfl]
  split
  all_goals (simp only [fY, jE, iH, List.length_append, List.length_cons, List.length_nil]; omega)
 rw [if_neg c1] at h
 obtain ⟨y, n1, h1, h⟩ := aA h
 have q := (D5 hnum f).one _ _ _ _ h1
 by_cases c3 : (pk E n1).text = aM
 ·rw [if_pos c3] at h
  obtain ⟨z, n2, h2, h⟩ := aA h
  cases h
  have p := gJ hnum h2
  have q1 := q.ex 6
  have p1 := p.ex 1
  rw [bA] at p1
  refine ⟨q.1, p.1, ?_⟩
  unfold dG cY
  rw [if_pos rfl]
  simp only [jE, List.length_append, List.length_cons, List.length_nil]
  omega
 rw [if_neg c3] at h
 by_cases c4 : Tr.codeOf y = 10
 ·rw [if_pos c4] at h
  cases h
  obtain ⟨q1, q2⟩ := GG q c4
  refine ⟨q1, trivial, ?_⟩
  unfold dG
  rw [if_neg (show ¬ (10 : Nat) = 3 by decide), if_pos rfl, if_pos rfl]
  simp only [fY, List.length_append, List.length_cons, List.length_nil]
  omega
 rw [if_neg c4] at h
 exact (aP h).elim
theorem nT {E : Env} {dep n m : Nat} {t : Tok} (h : cR E dep n = .ok t m) : m = n + 1 /\ dep < 12 := by
 unfold cR at h
 by_cases c : (pk E n).text = tLb /\ 12 <= dep
 ·rw [if_pos c] at h; exact (aP h).elim
 ·rw [if_neg c] at h
  refine ⟨dV h, ?_⟩
  by_cases c2 : (pk E n).text = tLb
  ·exact Nat.lt_of_not_le fun e => c ⟨c2, e⟩
  ·unfold take at h
   rw [if_neg c2] at h
   exact (aP h).elim
structure Slens (E : Env) (f : Nat) : Prop where
 block : ∀ dep n x m, block E f dep n = .ok x m -> dep <= 12 -> eV x /\ (bG (dep + 1) x).length + 256 + wsT E n <= wsT E m
 stmts : ∀ dep cs a n0 n x m, stmts E f dep cs a n = .ok x m -> dep <= 12 -> StsL E dep n0 n a -> StsL E dep n0 m x
 stmt : ∀ dep n x m, stmt E f dep n = .ok x m -> dep <= 12 -> StL E dep n m x
 cases : ∀ d a n0 n x m, cases E f (d + 1) a n = .ok x m -> d + 1 <= 12 -> CasL E d n0 n a -> CasL E d n0 m x
 oneCase : ∀ d n x m, oneCase E f (d + 1) n = .ok x m -> d + 1 <= 12 -> CaL E d n m x
theorem LK {E : Env} (hnum : ∀ n, (pk E n).kind = 3 -> dY (pk E n).text <= 9223372036854775807) (f : Nat) : Slens E f := by
 induction f with
 | zero =>
  constructor
  ·intro _ _ _ _ h; rw [Tr.block] at h; cases h
  ·intro _ _ _ _ _ _ _ h; rw [Tr.stmts] at h; cases h
  ·intro _ _ _ _ h; rw [Tr.stmt] at h; cases h
  ·intro _ _ _ _ _ _ h; rw [Tr.cases] at h; cases h
  ·intro _ _ _ _ h; rw [Tr.oneCase] at h; cases h
 | succ f ih =>
  constructor
  ·intro dep n x m h hd
   rw [jW] at h
   obtain ⟨_, n1, h1, h⟩ := aA h
   obtain ⟨y, n2, h2, h⟩ := aA h
   obtain ⟨_, n3, h3, h⟩ := aA h
   cases h
   obtain ⟨rfl, hlt⟩ := nT h1
   have a3 := dV h3
   subst a3
   have q := ih.stmts _ _ .nil (n + 1) _ _ _ h2 (by omega) ⟨trivial, by rw [qV]; simp⟩
   have q2 := q.2
   rw [bA] at q2 ⊢
   exact ⟨q.1, by omega⟩
  ·intro dep cs a n0 n x m h hd ha
   rw [gB] at h
   by_cases c : (pk E n).text = tRb \/ (cs = true /\ ((pk E n).text = gM \/ (pk E n).text = bE))
   ·rw [if_pos c] at h
    cases h
    exact ha
   rw [if_neg c] at h
   obtain ⟨y, n1, h1, h⟩ := aA h
   have q := ha.snoc (ih.stmt _ _ _ _ h1 hd)
   by_cases c2 : (pk E n1).text = tRb
   ·rw [if_pos c2] at h
    exact ih.stmts _ _ _ n0 _ _ _ h hd q
   ·rw [if_neg c2] at h
    obtain ⟨_, n2, h2, h⟩ := aA h
    exact ih.stmts _ _ _ n0 _ _ _ h hd (q.on (Nat.le_of_lt (aS h2)))
  ·intro dep n x m h hd
   rw [dA] at h
   by_cases c0 : (pk E n).text = iI
   ·rw [if_pos c0] at h
    obtain ⟨y, n1, h1, h⟩ := aA h
    cases h
    have q := (D5 hnum f).bracketed _ _ _ _ h1
    have q1 := q.ex 1
    rw [bA] at q1
    exact fN hd trivial q.1 (by rw [eB]; simp only [List.length_nil]; omega) (by decide)
   rw [if_neg c0] at h
   by_cases c1 : (pk E n).text = iJ
   ·rw [if_pos c1] at h
    obtain ⟨y, n1, h1, h⟩ := aA h
    cases h
    have q := gJ hnum h1
    have q1 := q.ex 1
    rw [bA] at q1
    exact fN hd trivial q.1 (by rw [eB]; simp only [List.length_nil]; omega) (by decide)
   rw [if_neg c1] at h
   by_cases c2 : (pk E n).text = iK
   ·rw [if_pos c2] at h
    obtain ⟨y, n1, h1, h⟩ := aA h
    cases h
    have q := gJ hnum h1
    have q1 := q.ex 1
    rw [bA] at q1
    exact fN hd trivial q.1 (by rw [eB]; simp only [List.length_nil]; omega) (by decide)
   rw [if_neg c2] at h
   by_cases c3 : (pk E n).text = tGo
   ·rw [if_pos c3] at h
    obtain ⟨t, n1, h1, h⟩ := aA h
    obtain ⟨y, n2, h2, h⟩ := aA h
    cases h
    obtain ⟨rfl, rfl⟩ := cA h1
    have q := (D5 hnum f).call _ _ (n + 1) _ _ _ h2 (by rw [bA E (n + 1)]; omega)
    have q1 := q.ex 1
    rw [bA] at q1
    exact fN hd trivial q.1 (by rw [eB]; simp only [List.length_nil]; omega) (by decide)
   rw [if_neg c3] at h
   by_cases c4 : (pk E n).text = dH
   ·rw [if_pos c4] at h
    by_cases c : (pk E (n + 1)).kind = 5 \/ (pk E (n + 1)).text = tRb
    ·rw [if_pos c] at h
     cases h
     exact fN hd trivial trivial (by rw [eB, eB, bA]; simp only [List.length_nil]; omega) (by decide)
    ·rw [if_neg c] at h
     obtain ⟨y, n1, h1, h⟩ := aA h
     cases h
     have q := gJ hnum h1
     have q1 := q.ex 1
     rw [bA] at q1
     exact fN hd trivial q.1 (by rw [eB]; simp only [List.length_nil]; omega) (by decide)
   rw [if_neg c4] at h
   by_cases c5 : (pk E n).text = iL
   ·rw [if_pos c5] at h
    cases h
    exact fN hd trivial trivial (by rw [eB, eB, bA]; simp only [List.length_nil]; omega) (by decide)
   rw [if_neg c5] at h
   by_cases c6 : (pk E n).text = cP
   ·rw [if_pos c6] at h
    cases h
    exact fN hd trivial trivial (by rw [eB, eB, bA]; simp only [List.length_nil]; omega) (by decide)
   rw [if_neg c6] at h
   by_cases c7 : (pk E n).text = tIf
   ·rw [if_pos c7] at h
    obtain ⟨y, n1, h1, h⟩ := aA h
    obtain ⟨a, n2, h2, h⟩ := aA h
    have q := gJ hnum h1
    have q1 := q.ex 1
    rw [bA] at q1
    obtain ⟨p1, p2⟩ := ih.block _ _ _ _ h2 hd
    by_cases c : (pk E n2).text = lC
    ·rw [if_pos c] at h
     obtain ⟨b, n3, h3, h⟩ := aA h
     cases h
     obtain ⟨r1, r2⟩ := ih.block _ _ _ _ h3 hd
     rw [bA] at r2
     refine ⟨⟨trivial, q.1, p1, r1, trivial⟩, ?_⟩
     rw [stV]
     simp only [reduceIte, Nat.reduceEqDiff, List.length_append, aD, cIf, cV, cF, List.length_cons, List.length_nil]
     split
     all_goals (simp only [List.length_append, aD, iO, List.length_cons, List.length_nil]; omega)
    ·rw [if_neg c] at h
     cases h
     refine ⟨⟨trivial, q.1, p1, trivial, trivial⟩, ?_⟩
     rw [stV]
     simp only [reduceIte, Nat.reduceEqDiff, List.length_append, aD, cIf, cV, cF, List.length_cons, List.length_nil, Sts.len]
     omega
   rw [if_neg c7] at h
   by_cases c8 : (pk E n).text = pE
   ·rw [if_pos c8] at h
    obtain ⟨y, n1, h1, h⟩ := aA h
    obtain ⟨a, n2, h2, h⟩ := aA h
    cases h
    have q := gJ hnum h1
    have q1 := q.ex 1
    rw [bA] at q1
    obtain ⟨p1, p2⟩ := ih.block _ _ _ _ h2 hd
    refine ⟨⟨trivial, q.1, p1, trivial, trivial⟩, ?_⟩
    rw [stV]
    simp only [reduceIte, Nat.reduceEqDiff, List.length_append, aD, rT, cV, cF, List.length_cons, List.length_nil]
    omega
   rw [if_neg c8] at h
   by_cases c9 : (pk E n).text = dI
   ·rw [if_pos c9] at h
    obtain ⟨_, n1, h1, h⟩ := aA h
    obtain ⟨a, n2, h2, h⟩ := aA h
    obtain ⟨_, n3, h3, h⟩ := aA h
    cases h
    obtain ⟨rfl, hlt⟩ := nT h1
    have a3 := dV h3
    subst a3
    have q := ih.cases _ .nil (n + 1 + 1) _ _ _ h2 (by omega) ⟨trivial, by rw [GF]; simp⟩
    have q2 := q.2
    rw [bA, bA] at q2
    refine ⟨⟨trivial, trivial, trivial, trivial, q.1⟩, ?_⟩
    rw [stV, bA]
    simp only [reduceIte, Nat.reduceEqDiff, List.length_append, aD, cG, cF, List.length_cons, List.length_nil]
    omega
   rw [if_neg c9] at h
   exact D7 hnum hd h
  ·intro d a n0 n x m h hd ha
   rw [hY] at h
   by_cases c : (pk E n).text = tRb
   ·rw [if_pos c] at h
    cases h
    exact ha
   rw [if_neg c] at h
   by_cases c2 : 6 <= a.len
   ·rw [if_pos c2] at h; exact (aP h).elim
   rw [if_neg c2] at h
   obtain ⟨y, n1, h1, h⟩ := aA h
   exact ih.cases _ _ n0 _ _ _ h hd (ha.snoc (ih.oneCase _ _ _ _ h1 hd))
  ·intro d n x m h hd
   rw [dK] at h
   by_cases c : (pk E n).text = bE
   ·rw [if_pos c] at h
    obtain ⟨_, n1, h1, h⟩ := aA h
    obtain ⟨l, n2, h2, h⟩ := aA h
    cases h
    have a1 := dV h1
    subst a1
    have q := ih.stmts _ _ .nil (n + 1 + 1) _ _ _ h2 hd ⟨trivial, by rw [qV]; simp⟩
    refine ⟨⟨trivial, trivial, q.1⟩, ?_⟩
    have q2 := q.2
    rw [bA, bA] at q2
    rw [caV, List.length_append, aD]
    unfold dG
    rw [if_neg (show ¬ (40 : Nat) = 3 by decide), if_neg (show ¬ (40 : Nat) = 10 by decide)]
    simp only [lS, kQ, List.length_append, List.length_cons, List.length_nil]
    omega
   rw [if_neg c] at h
   obtain ⟨_, n1, h1, h⟩ := aA h
   obtain ⟨t, n2, h2, h⟩ := aA h
   obtain ⟨_, n3, h3, h⟩ := aA h
   obtain ⟨l, n4, h4, h⟩ := aA h
   cases h
   have a1 := dV h1
   subst a1
   have a3 := dV h3
   subst a3
   obtain ⟨b1, b2, b3⟩ := GH hnum h2
   have q := ih.stmts _ _ .nil (n2 + 1) _ _ _ h4 hd ⟨trivial, by rw [qV]; simp⟩
   refine ⟨⟨b1, b2, q.1⟩, ?_⟩
   have q2 := q.2
   rw [bA] at q2 b3
   rw [caV, List.length_append, aD]
   simp only [kQ, List.length_append, List.length_cons, List.length_nil]
   omega
theorem qW {E : Env} : ∀ (f : Nat) (acc : List Pa) (n0 n : Nat) (x : List Pa) (m : Nat), params E f acc n = .ok x m -> (fD true acc).length + wsT E n0 <= wsT E n -> (fD true x).length + wsT E n0 <= wsT E m
 | 0, _, _, _, _, _, h, _ => by rw [params] at h; cases h
 | f + 1, acc, n0, n, x, m, h, ha => by
  rw [jC] at h
  obtain ⟨t, n1, h1, h⟩ := aA h
  obtain ⟨rfl, rfl⟩ := cA h1
  have hs : (fD true (acc ++ [⟨(pk E n).text, kindV (pk E (n + 1)).text, (pk E n).at_⟩])).length + wsT E n0 <= wsT E (n + 2) := by
   have hk := tG (kindV (pk E (n + 1)).text)
   rw [oQ, u4]
   unfold paV
   split
   all_goals (simp only [List.length_append, List.length_cons, List.length_nil]; omega)
  by_cases q : kindV (pk E (n + 1)).text = 0
  ·rw [if_pos q] at h; exact (aP h).elim
  rw [if_neg q] at h
  by_cases q2 : (pk E (n + 1 + 1)).text = cB
  ·rw [if_pos q2] at h
   exact qW f _ n0 _ _ _ h (Nat.le_trans hs (by have := jM E (show n + 2 <= n + 1 + 2 by omega); omega))
  ·rw [if_neg q2] at h
   obtain ⟨_, n2, h2, h⟩ := aA h
   cases h
   have a2 := dV h2
   subst a2
   exact Nat.le_trans hs (by have := jM E (show n + 2 <= n + 1 + 1 + 1 by omega); omega)
theorem u6 {E : Env} (hnum : ∀ n, (pk E n).kind = 3 -> dY (pk E n).text <= 9223372036854775807) {f n m : Nat} {g : Fu} (h : Tr.function E f n = .ok g m) : eV g.body /\ (fuV g).length + wsT E n <= wsT E m := by
 unfold Tr.function at h
 obtain ⟨_, n1, h1, h⟩ := aA h
 obtain ⟨t, n2, h2, h⟩ := aA h
 obtain ⟨_, n3, h3, h⟩ := aA h
 obtain ⟨ps, n4, h4, h⟩ := aA h
 obtain ⟨b, n5, h5, h⟩ := aA h
 cases h
 have a1 := dV h1
 subst a1
 obtain ⟨rfl, rfl⟩ := cA h2
 have a3 := dV h3
 subst a3
 have hp : (fD true ps).length + wsT E (n + 1 + 1 + 1) <= wsT E n4 := by
  by_cases q : (pk E (n + 1 + 1 + 1)).text = tRp
  ·rw [if_pos q] at h4
   cases h4
   have := jM E (show n + 1 + 1 + 1 <= n + 1 + 1 + 1 + 1 by omega)
   show ([] : Lx.B).length + _ <= _
   simp only [List.length_nil]
   omega
  ·rw [if_neg q] at h4
   exact qW f [] _ _ _ _ h4 (by show ([] : Lx.B).length + _ <= _; simp)
 obtain ⟨q1, q2⟩ := (LK hnum f).block _ _ _ _ h5 (by omega)
 refine ⟨q1, ?_⟩
 have hk := tG (kindV (pk E n4).text)
 have q3 : wsT E n4 <= wsT E (if kindV (pk E n4).text = 0 then n4 else n4 + 1) := by
  split
  ·exact Nat.le_refl _
  ·rw [bA]; omega
 rw [bA, bA, bA] at hp
 unfold fuV
 split
 all_goals (simp only [List.length_append, aD, gN, cF, List.length_cons, List.length_nil]; simp only [Nat.zero_add] at q2; omega)
theorem JF (g : Gl) : (glV g).length = g.name.length + 5 := by
 unfold glV
 simp only [aD, KS, List.length_append, List.length_cons, List.length_nil]
 omega
theorem lU {E : Env} (hnum : ∀ n, (pk E n).kind = 3 -> dY (pk E n).text <= 9223372036854775807) : ∀ (f : Nat) (src : Src) (n : Nat) (x : Src) (m : Nat), Tr.program E f src n = .ok x m -> n <= E.toks.length -> nS src -> (eX src).length <= wsT E n -> nS x /\ (eX x).length <= wsT E E.toks.length
 | 0, _, _, _, _, h, _, _, _ => by rw [Tr.program] at h; cases h
 | f + 1, src, n, x, m, h, hn, hok, hl => by
  rw [fU] at h
  by_cases c0 : E.toks.length <= n
  ·rw [if_pos c0] at h
   cases h
   have : n = E.toks.length := by omega
   rw [<- this]
   exact ⟨hok, hl⟩
  rw [if_neg c0] at h
  by_cases c1 : (pk E n).text = pD
  ·rw [if_pos c1] at h
   by_cases c2 : 8 <= src.globals.length
   ·rw [if_pos c2] at h; exact (aP h).elim
   rw [if_neg c2] at h
   obtain ⟨t, n1, h1, h⟩ := aA h
   obtain ⟨_, n2, h2, h⟩ := aA h
   obtain ⟨rfl, rfl⟩ := cA h1
   obtain ⟨rfl, _⟩ := cA h2
   obtain ⟨b2, _⟩ := iA (by decide) h2
   refine lU hnum f _ _ _ _ h (by omega) hok ?_
   rw [bA, bA, bA]
   unfold eX at hl ⊢
   simp only [List.flatMap_append, List.flatMap_cons, List.flatMap_nil, List.length_append, List.length_nil] at hl ⊢
   have hg := JF ⟨(pk E (n + 1)).text, (pk E (n + 1)).at_⟩
   simp only at hg
   omega
  rw [if_neg c1] at h
  by_cases c2 : (pk E n).text = kW
  ·rw [if_pos c2] at h
   by_cases c3 : 12 <= src.funcs.length
   ·rw [if_pos c3] at h; exact (aP h).elim
   rw [if_neg c3] at h
   obtain ⟨g, n1, h1, h⟩ := aA h
   obtain ⟨_, n2, h2, h⟩ := aA h
   obtain ⟨q1, q2⟩ := u6 hnum h1
   obtain ⟨rfl, _⟩ := cA h2
   obtain ⟨b2, _⟩ := iA (by decide) h2
   refine lU hnum f _ _ _ _ h (by omega) (fun g' hg' => ?_) ?_
   ·rcases List.mem_append.1 hg' with e | e
    ·exact hok g' e
    ·rw [List.mem_singleton.1 e]; exact q1
   rw [bA]
   unfold eX at hl ⊢
   simp only [List.flatMap_append, List.flatMap_cons, List.flatMap_nil, List.length_append, List.length_nil] at hl ⊢
   omega
  rw [if_neg c2] at h
  exact (aP h).elim
def wlT : List Tok -> Nat
 | [] => 0
 | t :: ts => (t.text.length + 128) + wlT ts
theorem xP : ∀ (l : List Tok) (t : Tok), wlT (l ++ [t]) = wlT l + (t.text.length + 128)
 | [], t => by simp [wlT]
 | x :: l, t => by show (x.text.length + 128) + wlT (l ++ [t]) = _; rw [xP l t, wlT]; omega
theorem BN (ts : List Tok) (e : Nat) : ∀ n, n <= ts.length -> wsT ⟨ts, e⟩ n = wlT (ts.take n)
 | 0, _ => by rw [List.take_zero]; rfl
 | n + 1, h => by
  have h1 : ts[n]? = some ts[n] := List.getElem?_eq_getElem (by omega)
  rw [List.take_add_one, h1, Option.toList_some, xP, bA, BN ts e n (by omega)]
  unfold pk
  rw [h1]
  rfl
theorem JG : ∀ (l : Lx.B) (a : Nat) (may : Bool) (ts : List Tok), lx l a may = (ts, none) -> wlT ts <= 129 * l.length + 128 := by
 refine lV (fun l _ _ ts => wlT ts <= 129 * l.length + 128) ?_ ?_ ?_
 ·intro a may
  unfold tY
  split
  ·simp [wlT]
  ·simp [wlT]
 ·intro l a may n ts _ _ _ _ _ ih
  rw [List.length_drop] at ih
  omega
 ·intro l a may k n ts hl hs h1 h2 _ ih
  rw [List.length_drop] at ih
  rw [wlT]
  simp only [List.length_take]
  omega
theorem tK : ∀ (l : Lx.B) (a : Nat) (may : Bool) (ts : List Tok), lx l a may = (ts, none) -> ∀ t ∈ ts, t.kind = 3 -> dY t.text <= 9223372036854775807 := by
 refine lV (fun _ _ _ ts => ∀ t ∈ ts, t.kind = 3 -> dY t.text <= 9223372036854775807) ?_ ?_ ?_
 ·intro a may t ht hk
  unfold tY at ht
  split at ht
  ·simp at ht; subst ht; cases hk
  ·cases ht
 ·intro l a may n ts _ _ _ _ _ ih
  exact ih
 ·intro l a may k n ts hl hs h1 h2 _ ih t ht hk
  rcases List.mem_cons.1 ht with rfl | ht
  ·have hk' : k = 3 := hk
   subst hk'
   exact Nat.le_of_not_lt (of_decide_eq_false (LI hl hs).2.1)
  ·exact ih t ht hk
theorem xQ {l : Lx.B} {ts : List Tok} {e m : Nat} {s : Src} (hts : lx l 0 false = (ts, none)) (h : Ev (fun f => Tr.program ⟨ts, e⟩ f ⟨[], []⟩ 0) (.ok s m)) : nS s /\ (eX s).length <= 129 * l.length + 128 := by
 obtain ⟨_, f0, h⟩ := h
 have hn := tK _ _ _ _ hts
 obtain ⟨h1, h2⟩ := lU (E := ⟨ts, e⟩) (fun n hk => by
  have hlt := mJ (E := ⟨ts, e⟩) (n := n) (by rw [hk]; decide)
  have h1 : ts[n]? = some ts[n] := List.getElem?_eq_getElem hlt
  have h2 : pk ⟨ts, e⟩ n = ts[n] := by unfold pk; rw [h1]; rfl
  rw [h2] at hk ⊢
  exact hn _ (List.getElem_mem hlt) hk) f0 ⟨[], []⟩ 0 s m (h f0 (Nat.le_refl _)) (Nat.zero_le _) (fun g hg => by cases hg) (Nat.zero_le _)
 refine ⟨h1, Nat.le_trans h2 ?_⟩
 have := JG _ _ _ _ hts
 rw [show (⟨ts, e⟩ : Env).toks.length = ts.length from rfl, BN ts e _ (Nat.le_refl _), List.take_length]
 exact this
theorem nU (x : Ex) : (exE x).code = x.code := by cases x <;> rw [exE] <;> rfl
theorem qX (x : Ex) : (exE x).op = x.op := by cases x <;> rw [exE] <;> rfl
theorem GI (x : Ex) : (exE x).n = x.n := by cases x <;> rw [exE] <;> rfl
theorem BO (x : Ex) : (exE x).l = exE x.l := by
 cases x
 ·rw [exE]; show Ex.nil = exE .nil; rw [exE]
 ·rw [exE]; rfl
theorem J4 (x : Ex) : (exE x).r = exE x.r := by
 cases x
 ·rw [exE]; show Ex.nil = exE .nil; rw [exE]
 ·rw [exE]; rfl
theorem zT (x : Ex) : (exE x).at_ = 0 := by cases x <;> rw [exE] <;> rfl
theorem nV (x : Ex) : bH (exE x) = bH x := by unfold bH; rw [nU, GI, qX, BO, nU, GI]
theorem nW (x : Ex) : cD (exE x) = cD x := by unfold cD; rw [nU, GI]
theorem GJ (b : Bool) (a : Nat) : exE (k9 b a) = k9 b 0 := by unfold k9; rw [exE, exE, gC]
theorem KU (n : Int) (a : Nat) : exE (lF n a) = lF n 0 := by
 unfold lF
 split
 ·simp only [exE, gC]
 ·simp only [exE, gC]
theorem BP (x : Ex) (n : Int) : exE (eT x n) = eT (exE x) n := by
 unfold eT
 split
 ·rfl
 ·rw [KU, zT]
theorem JH (x : Ex) (n : Int) : exE (kX x n) = kX (exE x) n := by
 unfold kX
 rw [qX, zT]
 split
 ·rw [GJ]
 ·rw [BP]
theorem tL (x : Ex) (b : Bool) : exE (dM x b) = dM (exE x) b := by
 unfold dM
 rw [BO, J4, nW, nW]
 split
 ·split <;> rfl
 ·split
  ·split <;> rfl
  ·rfl
theorem JI (x : Ex) : exE (lG x) = lG (exE x) := by
 unfold lG
 rw [BO, J4, nV, nV, qX]
 split
 ·split
  ·rw [JH]
  ·rfl
 ·split <;> rfl
 ·split <;> rfl
 ·rfl
theorem KV (x : Ex) : exE (p6 x) = p6 (exE x) := by
 unfold p6
 rw [qX]
 split
 ·rw [tL]
 ·split
  ·rw [tL]
  ·split
   ·rw [JI]
   ·rfl
theorem KW (x : Ex) : exE (oB x) = oB (exE x) := by
 unfold oB
 rw [nV, BO, nW, nV, qX, zT]
 split
 ·rfl
 ·split
  ·rw [GJ]
  ·split
   ·rw [BP]
   ·rfl
theorem KX (x : Ex) : exE (jQ x) = jQ (exE x) := by
 unfold jQ
 rw [nU]
 split
 ·rw [KV]
 ·split
  ·rw [KW]
  ·rfl
mutual
theorem kR : ∀ x : Ex, exE (aK x) = aK (exE x)
 | .nil => by rw [aK, exE, aK]
 | .mk c a n op nm l r zs => by
  rw [aK, KX, exE, exE, aK, kR l, kR r, xR zs]
theorem xR : ∀ xs : Exs, gC (aU xs) = aU (gC xs)
 | .nil => by rw [aU, gC, aU]
 | .cons x xs => by rw [aU, gC, gC, aU, kR x, xR xs]
end
theorem KY (s : St) : (p7 s).map stE = p7 (stE s) := by
 obtain ⟨c, a, nm, x, v, t, e, cs⟩ := s
 rw [stE, fK, fK, nW, lT, lT]
 split
 ·rw [Option.map_some, stE]
 ·split
  ·split
   ·rw [Option.map_some, stE]
   ·rfl
  ·split
   ·split
    ·rw [Option.map_some, stE, cS]
    ·rfl
   ·split
    ·split
     ·rw [Option.map_some, stE, cS]
     ·rfl
    ·rw [Option.map_some, stE]
mutual
theorem JJ : ∀ s : St, (cO s).map stE = cO (stE s)
 | .mk c a nm x v t e cs => by
  rw [cO, KY, stE, stE, cO, kR x, kR v, jF t, jF e, xS cs]
theorem jF : ∀ ss : Sts, cS (aE ss) = aE (cS ss)
 | .nil => by rw [aE, cS, aE]
 | .cons s ss => by
  have h := JJ s
  rw [aE, cS, aE, <- h]
  cases cO s with
  | none => exact jF ss
  | some y =>
   show cS (.cons y (aE ss)) = .cons (stE y) (aE (cS ss))
   rw [cS, jF ss]
theorem JK : ∀ c : Ca, caE (eU c) = eU (caE c)
 | .mk c a nm x v b => by rw [eU, caE, caE, eU, kR x, kR v, jF b]
theorem xS : ∀ cs : Cas, hZ (aT cs) = aT (hZ cs)
 | .nil => by rw [aT, hZ, aT]
 | .cons c cs => by rw [aT, hZ, hZ, aT, JK c, xS cs]
end
mutual
theorem qY : ∀ x : Ex, szE (exE x) = szE x
 | .nil => by rw [exE]
 | .mk c a n op nm l r zs => by rw [exE, szE, szE, qY l, qY r, GK zs]
theorem GK : ∀ xs : Exs, jJ (gC xs) = jJ xs
 | .nil => by rw [gC]
 | .cons x xs => by rw [gC, jJ, jJ, qY x, GK xs]
end
mutual
theorem LL : ∀ s : St, szS (stE s) = szS s
 | .mk c a nm x v t e cs => by rw [stE, szS, szS, qY x, qY v, oR t, oR e, GL cs]
theorem oR : ∀ ss : Sts, iD (cS ss) = iD ss
 | .nil => by rw [cS]
 | .cons x xs => by rw [cS, iD, iD, LL x, oR xs]
theorem LM : ∀ c : Ca, szC (caE c) = szC c
 | .mk c a nm x v b => by rw [caE, szC, szC, qY x, qY v, oR b]
theorem GL : ∀ cs : Cas, lP (hZ cs) = lP cs
 | .nil => by rw [hZ]
 | .cons x xs => by rw [hZ, lP, lP, LM x, GL xs]
end
def o8 : Sts -> Ex
 | .nil => .nil
 | .cons (.mk _ _ _ _ v _ _ _) _ => v
theorem BQ (ss : Sts) : o8 (cS ss) = exE (o8 ss) := by
 cases ss with
 | nil => rw [cS]; show Ex.nil = exE .nil; rw [exE]
 | cons s xs => obtain ⟨c, a, nm, x, v, t, e, cs⟩ := s; rw [cS, stE]; rfl
def pS : Lx.B := [102, 117, 110, 99, 32, 109, 97, 105, 110, 40, 41, 32, 123, 10, 112, 114, 105, 110, 116, 32, 50, 32, 42, 32, 51, 32, 43, 32, 49, 10, 105, 102, 32, 102, 97, 108, 115, 101, 32, 123, 10, 125, 10, 125]
def qZ (s : Src) : Bool := s.globals.length == 0 && (s.funcs.length == 1 && (s.funcs.all (fun f => f.params.length == 0 && (decide (iD f.body <= 1000) && ((aE f.body).len == 1 && exV 1 (o8 (aE f.body)) == [55])))))
def BR : Bool := match lx pS 0 false with
 | (ts, none) => match Tr.program ⟨ts, 44⟩ 200 ⟨[], []⟩ 0 with
  | .ok s _ => qZ s
  | _ => false
 | _ => false
theorem GM : BR = true := by kernel_rfl
theorem rA : ∃ ts s m, lx pS 0 false = (ts, none) /\ Tr.program ⟨ts, 44⟩ 200 ⟨[], []⟩ 0 = .ok s m /\ qZ s = true := by
 have h := GM
 unfold BR at h
 split at h
 ·rename_i ts hts
  split at h
  ·rename_i s m hs
   exact ⟨ts, s, m, hts, hs, h⟩
  ·cases h
 ·cases h
theorem xT {r : Res Src} {ts : List Tok} (hts : lx pS 0 false = (ts, none)) (hr : Ev (fun f => Tr.program ⟨ts, 44⟩ f ⟨[], []⟩ 0) r) :
  ∃ s m f, r = .ok s m /\ s.globals = [] /\ s.funcs = [f] /\ f.params = [] /\ iD f.body <= 1000 /\ (aE f.body).len = 1 /\ exV 1 (o8 (aE f.body)) = [55] := by
 obtain ⟨ts', s, m, h1, h2, h3⟩ := rA
 rw [hts] at h1
 cases h1
 simp only [qZ, Bool.and_eq_true, beq_iff_eq] at h3
 obtain ⟨a1, a2, a3⟩ := h3
 obtain ⟨s', m', rfl, e1, e2⟩ := uE h2 (by omega) (by omega) hr
 obtain ⟨g, hg⟩ := List.length_eq_one_iff.1 a2
 rw [hg] at a3 e2
 simp only [List.all_cons, List.all_nil, Bool.and_true, Bool.and_eq_true, beq_iff_eq, decide_eq_true_eq] at a3
 obtain ⟨b1, b2, b3, b4⟩ := a3
 rw [List.length_eq_zero_iff] at a1
 rw [a1] at e1
 have hf1 : s'.funcs.length = 1 := by simpa using congrArg List.length e2
 obtain ⟨f, hf⟩ := List.length_eq_one_iff.1 hf1
 rw [hf] at e2
 injection e2 with e2 _
 have p1 := congrArg (fun f : Fu => f.params.length) e2
 have p2 := congrArg (fun f : Fu => f.body) e2
 simp only [fuE, List.length_map] at p1 p2
 have p3 : cS (aE f.body) = cS (aE g.body) := by rw [jF, jF, p2]
 refine ⟨s', m', f, rfl, ?_, hf, ?_, ?_, ?_, ?_⟩
 ·exact List.map_eq_nil_iff.1 e1
 ·exact List.length_eq_zero_iff.1 (by omega)
 ·rw [<- oR, p2, oR]; exact b2
 ·rw [<- lT, p3, lT]; exact b3
 ·rw [<- J3, <- BQ, p3, BQ, J3]; exact b4
end Go.Proofs.YtnpapppipccdbaaGreatDoor
namespace Go.Proofs.YtnpapppipccdbaaGreatDoor
open Go.RowKit Lx Tr
variable {w w' : World}
theorem tM (w : World) (e : TypeId) (size : Nat) : (w.alloc (.cells #[] e)).ownsRow w.heap.size e size (.slice (some ⟨w.heap.size, 0, none⟩) 0 0) 0 [] :=
 ⟨by simp, Or.inr ⟨w.heap.size, 0, #[], rfl, Nat.le_refl _, heap_alloc_new w _, Nat.le_refl _, Nat.zero_le _, by simp, by simp⟩⟩
theorem tN {g : Nat} : ∀ (l : List Gl) (o : Nat), (∀ i p, l[i]? = some p -> w.cell? ⟨g, o + i * 2, none⟩ = some (.string (mkT p.name)) /\ w.cell? ⟨g, o + i * 2 + 1, none⟩ = some (.int .i64 (p.at_ : Nat))) -> ∀ j u, (bQ l)[j]? = some u -> w.cell? ⟨g, o + j, none⟩ = some u
 | [], _, _, _, _, h => by cases h
 | p :: l, o, hl, j, u, h => by
  obtain ⟨a0, a1⟩ := hl 0 p rfl
  rw [show o + 0 * 2 = o by omega] at a0 a1
  match j, h with
  | 0, h => cases h; exact a0
  | 1, h => cases h; exact a1
  | j + 2, h =>
   have := tN l (o + 2) (fun i q hi => by
    have h2 := hl (i + 1) q hi
    rw [show o + (i + 1) * 2 = o + 2 + i * 2 by omega] at h2
    exact h2) j u h
   rw [show o + (j + 2) = o + 2 + j by omega]
   exact this
theorem D8 (w : World) : (binOp BinOp.eql 23 (.slice none 0 0) (.slice none 0 0)).run Tryz.prog w = .ok (.bool true) w := by kernel_rfl
theorem zU (g n c : Nat) (w : World) : (binOp BinOp.eql 23 (.slice (some ⟨g, 0, none⟩) n c) (.slice none 0 0)).run Tryz.prog w = .ok (.bool false) w := by kernel_rfl
theorem BS : ∀ (l : List Gl), ∀ y ∈ bQ l, y.oneCell' = true
 | [], y, h => by cases h
 | p :: l, y, h => by
  have h' : y ∈ [Value.string (mkT p.name), Value.int .i64 (p.at_ : Nat)] ++ bQ l := h
  rcases List.mem_append.1 h' with h | h
  ·simp at h; rcases h with rfl | rfl <;> rfl
  ·exact BS l y h
theorem BT : ∀ l : List Gl, (bQ l).length = l.length * 2
 | [] => rfl
 | p :: l => by
  show ([Value.string (mkT p.name), Value.int .i64 (p.at_ : Nat)] ++ bQ l).length = (l.length + 1) * 2
  rw [List.length_append, BT l]
  simp only [List.length_cons, List.length_nil]
  omega
theorem JL {B : Nat} {v : Value} {l : List Gl} (hown : w.ownsRow B 54 2 v l.length (bQ l)) (hpos : 0 < l.length) : fA w (fun b => B <= b) v l := by
 have hc := hown
 rcases hown.2 with ⟨_, e⟩ | ⟨g, cap, cur, rfl, hb, hg, h3, h4, _⟩
 ·omega
 ·refine Or.inr ⟨g, cap, rfl, h3, h4, hb, hpos, fun i p hi => ?_⟩
  obtain ⟨a0, a1⟩ := mS l i p hi
  have hin := (List.getElem?_eq_some_iff.1 hi).1
  refine ⟨?_, ?_⟩
  ·rw [World.ownsRow.cellAt hc (i * 2) (by omega)]; exact a0
  ·rw [World.ownsRow.cellAt hc (i * 2 + 1) (by omega)]; exact a1
theorem zV {F : Nat -> Prop} {v : Value} {l : List Gl} (hl : l.length <= 1000000) (w : World) (h : fA w F v l) : Calls Tryz.prog 71 #[v] w fun e w' => ∃ u, e = .returned u /\ fA w' (fun b => w.heap.size <= b) u l /\ Below w.heap.size w w' := by
 rcases h with ⟨rfl, rfl⟩ | ⟨g, cap, rfl, h1, h2, h3, h4, h5⟩
 ·have hE := D8
  go_enter Tryz.func71, Tryz.ntmps71
  go_wp2_with fail
  go_ret
  exact ⟨_, rfl, Or.inl ⟨rfl, rfl⟩, Below.refl _ _⟩
 ·have hE := zU g l.length cap
  have hg : g < w.heap.size := by
   obtain ⟨p, hp⟩ : ∃ p, l[0]? = some p := ⟨_, List.getElem?_eq_getElem h4⟩
   exact block_lt_of_cell (h5 0 p hp).1
  have HC : Hid (∀ j u, (bQ l)[j]? = some u -> (w.alloc (.cells #[] 54)).cell? ((⟨g, 0, none⟩ : Addr).add j) = some u) := zz fun j u hj => by
   rw [kL, World.cell?_alloc_lt _ _ ⟨g, 0 + j, none⟩ hg]
   exact tN l 0 (fun i p hi => by
    have h9 := h5 i p hi
    rw [<- Nat.zero_add (i * 2)] at h9
    exact h9) j u hj
  have HO := zz (tM w 54 2)
  have HL := zz hl
  have HP := zz h4
  obtain ⟨i0, hi, hz0, hz1, hz2⟩ := info_parts o6
  have HI := zz (And.intro hi (And.intro hz0 (And.intro hz1 hz2)))
  clear h1 h2 h3 h4 h5 hg hl hi hz0 hz1 hz2
  go_enter Tryz.func71, Tryz.ntmps71
  go_wp2_with (at_builtin; refine wpList_append_own_at _ rfl _ _ 23 rfl w.heap.size 54 i0 (.agg #[.string ByteArray.empty, .int .i64 0]) 2 24 Tryz.underlying23 HI.out.1 HI.out.2.1 HI.out.2.2.1 HI.out.2.2.2 rfl (by decide) _ 0 [] rfl HO.out ⟨g, 0, none⟩ l.length cap (bQ l) rfl (BT l) HC.out (BS l) (by have := HL.out; unfold maxLen; omega) (by have := HL.out; omega) (by simp) ?_; intro v' w' q1 q2 _ _)
  rw [Nat.zero_add, List.nil_append] at q1
  have hk : Keeps (fun k => k = w.heap.size) w w' := eQ (v := .slice (some ⟨w.heap.size, 0, none⟩) 0 0) q2 (fun k e => by cases e; rfl)
  have hrow := JL q1 HP.out
  have HR := zz hrow
  have HB : Hid (Below w.heap.size w w') := zz (hk.below (Nat.le_refl _) (fun k _ e => by have h9 : k = w.heap.size := e; omega))
  clear q1 q2 hk hrow
  go_wp2_with fail
  go_ret
  exact ⟨_, rfl, HR.out, HB.out⟩
theorem tO {g : Nat} : ∀ (l : List Pa) (o : Nat), (∀ i p, l[i]? = some p -> w.cell? ⟨g, o + i * 3, none⟩ = some (.string (mkT p.name)) /\ w.cell? ⟨g, o + i * 3 + 1, none⟩ = some (.int .i64 (p.kind : Nat)) /\ w.cell? ⟨g, o + i * 3 + 2, none⟩ = some (.int .i64 (p.at_ : Nat))) -> ∀ j u, (cM l)[j]? = some u -> w.cell? ⟨g, o + j, none⟩ = some u
 | [], _, _, _, _, h => by cases h
 | p :: l, o, hl, j, u, h => by
  obtain ⟨a0, a1, a2⟩ := hl 0 p rfl
  rw [show o + 0 * 3 = o by omega] at a0 a1 a2
  match j, h with
  | 0, h => cases h; exact a0
  | 1, h => cases h; exact a1
  | 2, h => cases h; exact a2
  | j + 3, h =>
   have := tO l (o + 3) (fun i q hi => by
    have h2 := hl (i + 1) q hi
    rw [show o + (i + 1) * 3 = o + 3 + i * 3 by omega] at h2
    exact h2) j u h
   rw [show o + (j + 3) = o + 3 + j by omega]
   exact this
theorem D9 (w : World) : (binOp BinOp.eql 48 (.slice none 0 0) (.slice none 0 0)).run Tryz.prog w = .ok (.bool true) w := by kernel_rfl
theorem zW (g n c : Nat) (w : World) : (binOp BinOp.eql 48 (.slice (some ⟨g, 0, none⟩) n c) (.slice none 0 0)).run Tryz.prog w = .ok (.bool false) w := by kernel_rfl
theorem BU : ∀ (l : List Pa), ∀ y ∈ cM l, y.oneCell' = true
 | [], y, h => by cases h
 | p :: l, y, h => by
  have h' : y ∈ [Value.string (mkT p.name), Value.int .i64 (p.kind : Nat), Value.int .i64 (p.at_ : Nat)] ++ cM l := h
  rcases List.mem_append.1 h' with h | h
  ·simp at h; rcases h with rfl | rfl | rfl <;> rfl
  ·exact BU l y h
theorem BV : ∀ l : List Pa, (cM l).length = l.length * 3
 | [] => rfl
 | p :: l => by
  show ([Value.string (mkT p.name), Value.int .i64 (p.kind : Nat), Value.int .i64 (p.at_ : Nat)] ++ cM l).length = (l.length + 1) * 3
  rw [List.length_append, BV l]
  simp only [List.length_cons, List.length_nil]
  omega
theorem JM {B : Nat} {v : Value} {l : List Pa} (hown : w.ownsRow B 102 3 v l.length (cM l)) (hpos : 0 < l.length) : PaRow w (fun b => B <= b) v l := by
 have hc := hown
 rcases hown.2 with ⟨_, e⟩ | ⟨g, cap, cur, rfl, hb, hg, h3, h4, _⟩
 ·omega
 ·refine Or.inr ⟨g, cap, rfl, h3, h4, hb, hpos, fun i p hi => ?_⟩
  obtain ⟨a0, a1, a2⟩ := mR l i p hi
  have hin := (List.getElem?_eq_some_iff.1 hi).1
  refine ⟨?_, ?_, ?_⟩
  ·rw [World.ownsRow.cellAt hc (i * 3) (by omega)]; exact a0
  ·rw [World.ownsRow.cellAt hc (i * 3 + 1) (by omega)]; exact a1
  ·rw [World.ownsRow.cellAt hc (i * 3 + 2) (by omega)]; exact a2
theorem zX {F : Nat -> Prop} {v : Value} {l : List Pa} (hl : l.length <= 1000000) (w : World) (h : PaRow w F v l) : Calls Tryz.prog 74 #[v] w fun e w' => ∃ u, e = .returned u /\ PaRow w' (fun b => w.heap.size <= b) u l /\ Below w.heap.size w w' := by
 rcases h with ⟨rfl, rfl⟩ | ⟨g, cap, rfl, h1, h2, h3, h4, h5⟩
 ·have hE := D9
  go_enter Tryz.func74, Tryz.ntmps74
  go_wp2_with fail
  go_ret
  exact ⟨_, rfl, Or.inl ⟨rfl, rfl⟩, Below.refl _ _⟩
 ·have hE := zW g l.length cap
  have hg : g < w.heap.size := by
   obtain ⟨p, hp⟩ : ∃ p, l[0]? = some p := ⟨_, List.getElem?_eq_getElem h4⟩
   exact block_lt_of_cell (h5 0 p hp).1
  have HC : Hid (∀ j u, (cM l)[j]? = some u -> (w.alloc (.cells #[] 102)).cell? ((⟨g, 0, none⟩ : Addr).add j) = some u) := zz fun j u hj => by
   rw [kL, World.cell?_alloc_lt _ _ ⟨g, 0 + j, none⟩ hg]
   exact tO l 0 (fun i p hi => by
    have h9 := h5 i p hi
    rw [<- Nat.zero_add (i * 3)] at h9
    exact h9) j u hj
  have HO := zz (tM w 102 3)
  have HL := zz hl
  have HP := zz h4
  obtain ⟨i0, hi, hz0, hz1, hz2⟩ := info_parts qO
  have HI := zz (And.intro hi (And.intro hz0 (And.intro hz1 hz2)))
  clear h1 h2 h3 h4 h5 hg hl hi hz0 hz1 hz2
  go_enter Tryz.func74, Tryz.ntmps74
  go_wp2_with (at_builtin; refine wpList_append_own_at _ rfl _ _ 48 rfl w.heap.size 102 i0 (.agg #[.string ByteArray.empty, .int .i64 0, .int .i64 0]) 3 32 Tryz.underlying48 HI.out.1 HI.out.2.1 HI.out.2.2.1 HI.out.2.2.2 rfl (by decide) _ 0 [] rfl HO.out ⟨g, 0, none⟩ l.length cap (cM l) rfl (BV l) HC.out (BU l) (by have := HL.out; unfold maxLen; omega) (by have := HL.out; omega) (by simp) ?_; intro v' w' q1 q2 _ _)
  rw [Nat.zero_add, List.nil_append] at q1
  have hk : Keeps (fun k => k = w.heap.size) w w' := eQ (v := .slice (some ⟨w.heap.size, 0, none⟩) 0 0) q2 (fun k e => by cases e; rfl)
  have hrow := JM q1 HP.out
  have HR := zz hrow
  have HB : Hid (Below w.heap.size w w') := zz (hk.below (Nat.le_refl _) (fun k _ e => by have h9 : k = w.heap.size := e; omega))
  clear q1 q2 hk hrow
  go_wp2_with fail
  go_ret
  exact ⟨_, rfl, HR.out, HB.out⟩
def pT (nm : Lx.B) (a : Nat) (ap : Option Addr) (lp kp kd : Nat) (ab : Option Addr) (lb kb : Nat) : Value := .agg #[.string (mkT nm), .int .i64 (a : Nat), .slice ap lp kp, .int .i64 (kd : Nat), .slice ab lb kb]
def FuA (w : World) (F : Nat -> Prop) (u : Value) (g : Fu) : Prop := ∃ nm a ps kd body ap kp ab kb, g = ⟨nm, a, ps, kd, body⟩ /\ u = pT nm a ap ps.length kp kd ab body.len kb /\ PaRow w F (.slice ap ps.length kp) ps /\ StsF w F body (.slice ab body.len kb)
theorem tP {F : Nat -> Prop} {v : Value} {l : List Pa} (h : PaRow w F v l) : ∃ o c, v = .slice o l.length c := by
 rcases h with ⟨e, e0⟩ | ⟨g, cap, e, _⟩
 ·exact ⟨none, 0, by rw [e, e0]; rfl⟩
 ·exact ⟨_, _, e⟩
theorem jG {F G : Nat -> Prop} (hF : ∀ b, b < w.heap.size -> F b -> G b) {v : Value} {l : List Pa} (h : PaRow w F v l) : PaRow w G v l := by
 rcases h with h | ⟨g, cap, h1, h2, h3, h4, h5, h6⟩
 ·exact Or.inl h
 ·obtain ⟨p, hp⟩ : ∃ p, l[0]? = some p := ⟨_, List.getElem?_eq_getElem h5⟩
  have h7 := (h6 0 p hp).1
  exact Or.inr ⟨g, cap, h1, h2, h3, hF g (block_lt_of_cell h7) h4, h5, h6⟩
theorem nX {B k : Nat} {S : Nat -> Prop} {v : Value} {x : List Pa} (h : PaRow w (fun b => B <= b) v x) (hk : Keeps S w w') (hS : ∀ b, B <= b -> b < w.heap.size -> ¬ S b) (hB : k <= B) : PaRow w' (fun b => k <= b) v x :=
 jG (fun _ _ e => Nat.le_trans hB e.1) ((jG (G := fun b => B <= b /\ b < w.heap.size) (fun _ h1 h2 => ⟨h2, h1⟩) h).keeps hk (fun b e => hS b e.1 e.2))
theorem LN {k : Nat} {v0 v1 v2 v3 v4 : Value} : Keeps (fun b => b = k) w (((((w.setCell ⟨k, 0, none⟩ v0).setCell ⟨k, 1, none⟩ v1).setCell ⟨k, 2, none⟩ v2).setCell ⟨k, 3, none⟩ v3).setCell ⟨k, 4, none⟩ v4) :=
 (fW.trans fW).trans mF
def KZ (g : Fu) : Prop := ∀ (F : Nat -> Prop) (w : World) (u : Value), (∀ b, F b -> b < w.heap.size) -> FuA w F u g -> Calls Tryz.prog 73 #[u] w fun e w' => ∃ u', e = .returned (.tuple #[u', .bool true]) /\ FuA w' (fun b => w.heap.size <= b) u' (eG g) /\ Below w.heap.size w w'
theorem GN {g : Fu} (hp : g.params.length <= 1000000) (hS : kK g.body) : KZ g := by
 intro F w u hF h
 obtain ⟨nm, a, ps, kd, body, ap, kp, ab, kb, rfl, rfl, h1, h2⟩ := h
 obtain ⟨w1, hw1⟩ : ∃ W, W = (w.alloc (.cells #[.string (mkT nm), .int .i64 (a : Nat), .slice ap ps.length kp, .int .i64 (kd : Nat), .slice ab body.len kb] 51)).alloc (.cells #[.string ⟨#[]⟩, .int .i64 0, .slice none 0 0, .int .i64 0, .slice none 0 0] 51) := ⟨_, rfl⟩
 have HW1 := zz hw1
 have hB1 : Below w.heap.size w w1 := by rw [hw1]; exact fM w _ _ _ _
 have hz1 : w1.heap.size = w.heap.size + 2 := by rw [hw1]; simp
 have hs1 : Blk w1 w.heap.size [.string (mkT nm), .int .i64 (a : Nat), .slice ap ps.length kp, .int .i64 (kd : Nat), .slice ab body.len kb] := by
  rw [hw1]; exact (Blk.new w _ _).fresh (cU _ _ _)
 have hr1 : Blk w1 (w.heap.size + 1) [.string ⟨#[]⟩, .int .i64 0, .slice none 0 0, .int .i64 0, .slice none 0 0] := by
  rw [hw1]; exact Blk.new' _ _ _ (by simp)
 have hn : ∀ b, F b -> ¬ w.heap.size <= b := fun b e e2 => by have := hF b e; omega
 have HV : Hid (∀ W, Below w.heap.size w W -> PaRow W F (.slice ap ps.length kp) ps /\ StsF W F body (.slice ab body.len kb)) := zz fun W hb => by
  have hk : Keeps (fun k => w.heap.size <= k) w W := Keeps.of_below (S := fun k => w.heap.size <= k) hb (fun _ _ e => e)
  exact ⟨h1.keeps hk hn, dP h2 hk hn⟩
 have HF := zz hF
 have HS := zz hS
 have HB1 := zz hB1
 have HZ1 := zz hz1
 have SB1 := zz hs1
 have RB1 := zz hr1
 have HC := zz (zX hp w1 (HV.out w1 hB1).1)
 have i2 := hs1.at_ 2 _ rfl
 clear h1 h2 hS hp hw1 hB1 hz1 hs1 hr1 hn hF
 unfold pT
 go_enter Tryz.func73, Tryz.ntmps73
 go_upto_region 1 with fail
 rw [<- HW1.out]
 go_wp2_with fail
 refine HC.out.mono ?_
 rintro e w2 ⟨v2, rfl, hp2, hb2⟩
 obtain ⟨up, uk, rfl⟩ := tP hp2
 have SB2 := zz (SB1.out.fresh hb2)
 have RB2 := zz (RB1.out.fresh hb2)
 have j2 := SB2.out.at_ 2 _ rfl
 have z2 := SB2.out.free 2
 have hk3 : Keeps (fun b => b = w.heap.size) w2 (w2.setCell ⟨w.heap.size, 2, none⟩ (.slice up ps.length uk)) := mF
 have SB3 := zz (SB2.out.set 2 (.slice up ps.length uk) (by simp))
 have RB3 := zz (RB2.out.keeps hk3 (by omega))
 have hz1 := HZ1.out
 have hz2 := hb2.size
 have hB3 : Below w.heap.size w (w2.setCell ⟨w.heap.size, 2, none⟩ (.slice up ps.length uk)) := HB1.out.trans ((hb2.mono HB1.out.size).trans (hk3.below (by omega) (fun b _ e => by have h9 : b = w.heap.size := e; omega)))
 have hp3 : PaRow (w2.setCell ⟨w.heap.size, 2, none⟩ (.slice up ps.length uk)) (fun b => w.heap.size + 2 <= b) (.slice up ps.length uk) ps := nX hp2 hk3 (fun b h1 _ e => by have h9 : b = w.heap.size := e; omega) (by omega)
 have HE := zz (HS.out F _ _ (HV.out _ hB3).2 (fun b hb => Nat.lt_of_lt_of_le (HF.out b hb) hB3.size))
 have HB3 := zz hB3
 have HP3 := zz hp3
 have HZ3 : Hid (w.heap.size + 2 <= (w2.setCell ⟨w.heap.size, 2, none⟩ (.slice up ps.length uk)).heap.size) := zz (by have := hk3.size; omega)
 have i4 := SB3.out.at_ 4 _ rfl
 clear hp2 hb2 hk3 hz1 hz2 hB3 hp3 i2
 go_wp2_with (go_at_call 75; refine HE.out.mono ?_; rintro e w5 ⟨v5, rfl, hv5, hb5⟩; obtain ⟨vb, vk, rfl⟩ := bT hv5.1; have SB5 := zz (SB3.out.fresh hb5); have RB5 := zz (RB3.out.fresh hb5); have j5 := SB5.out.at_ 4 _ rfl; have z5 := SB5.out.free 4; have SB6 : Hid (Blk (w5.setCell ⟨w.heap.size, 4, none⟩ (.slice vb (aE body).len vk)) w.heap.size [.string (mkT nm), .int .i64 (a : Nat), .slice up ps.length uk, .int .i64 (kd : Nat), .slice vb (aE body).len vk]) := zz (SB5.out.set 4 _ (by simp)); have RB6 : Hid (Blk (w5.setCell ⟨w.heap.size, 4, none⟩ (.slice vb (aE body).len vk)) (w.heap.size + 1) [.string ⟨#[]⟩, .int .i64 0, .slice none 0 0, .int .i64 0, .slice none 0 0]) := zz (RB5.out.keeps (S := fun b => b = w.heap.size) mF (by omega)); have l0 := SB6.out.at_ 0 _ rfl; have l1 := SB6.out.at_ 1 _ rfl; have l2 := SB6.out.at_ 2 _ rfl; have l3 := SB6.out.at_ 3 _ rfl; have l4 := SB6.out.at_ 4 _ rfl; have r0 := RB6.out.at_ 0 _ rfl; have r1 := RB6.out.at_ 1 _ rfl; have r2 := RB6.out.at_ 2 _ rfl; have r3 := RB6.out.at_ 3 _ rfl; have r4 := RB6.out.at_ 4 _ rfl; have y0 := RB6.out.free 0; have y1 := RB6.out.free 1; have y2 := RB6.out.free 2; have y3 := RB6.out.free 3; have y4 := RB6.out.free 4; have HB5 := zz hb5; have HV5 := zz hv5; clear hb5 hv5)
 refine bodyPost_ret (v := .tuple #[.agg #[.string (mkT nm), .int .i64 (a : Nat), .slice up ps.length uk, .int .i64 (kd : Nat), .slice vb (aE body).len vk], .bool true]) (by simp [results, Tryz.results73, go_sem, r0, r1, r2, r3, r4]) rfl ?_
 have hk1 : Keeps (fun b => b = w.heap.size) w5 (w5.setCell ⟨w.heap.size, 4, none⟩ (.slice vb (aE body).len vk)) := mF
 have hk6 := LN (w := w5.setCell ⟨w.heap.size, 4, none⟩ (.slice vb (aE body).len vk)) (k := w.heap.size + 1) (v0 := .string (mkT nm)) (v1 := .int .i64 (a : Nat)) (v2 := .slice up ps.length uk) (v3 := .int .i64 (kd : Nat)) (v4 := .slice vb (aE body).len vk)
 have hk : Keeps (fun b => b = w.heap.size \/ b = w.heap.size + 1) w5 _ := (hk1.mono (fun _ _ e => Or.inl e)).trans (hk6.mono (fun _ _ e => Or.inr e))
 have hz5 := HB5.out.size
 have hz0 := HZ3.out
 have hno : ∀ b, w.heap.size + 2 <= b -> ¬ (b = w.heap.size \/ b = w.heap.size + 1) := fun b h e => by omega
 refine ⟨_, rfl, ⟨nm, a, ps, kd, aE body, up, uk, vb, vk, rfl, rfl, nX (nX HP3.out (Keeps.of_below (S := fun k => (w2.setCell ⟨w.heap.size, 2, none⟩ (.slice up ps.length uk)).heap.size <= k) HB5.out (fun _ _ e => e)) (fun b _ h2 e => by have h9 : (w2.setCell ⟨w.heap.size, 2, none⟩ (.slice up ps.length uk)).heap.size <= b := e; omega) (Nat.le_refl _)) hk (fun b h1 _ e => hno b h1 e) (by omega), dQ HV5.out hk (fun b h1 _ e => hno b (by omega) e) (by omega)⟩, HB3.out.trans ((HB5.out.mono HB3.out.size).trans (hk.below (by omega) (fun b _ e => by have h9 : b = w.heap.size \/ b = w.heap.size + 1 := e; omega)))⟩
theorem oS {ops : Array Oper} {rest : List Oper} {o : Oper} {a : Act} {Q : Exit -> Act -> World -> Prop} (hgd : o.guard = none) (s x : Operand)
  (ho : o.op = .call { callee := .builtin .append, args := #[s, x], argTypes := #[24, 24] }) (w : World) (B : Nat) (v : Value) (n : Nat) (xs us : List Value) (hus : us.length = 1 * 5) (h1us : ∀ u ∈ us, u.oneCell' = true) (hown : w.ownsRow B 51 5 v n xs) (hs : a.eval s = v)
  (g9 : Nat) (hx : a.eval x = .slice (some ⟨g9, 0, none⟩) 1 1) (hg9 : g9 = w.heap.size) (hl : n <= 1000000) (hB : B <= w.heap.size)
  (h : ∀ ao' cap' w', w'.ownsRow B 51 5 (.slice ao' (n + 1) cap') (n + 1) (xs ++ us) -> Keeps (fun b => v.ownBlock = some b) w w' -> (∀ k, (Value.slice ao' (n + 1) cap').ownBlock = some k -> v.ownBlock = some k \/ w.heap.size <= k) ->
   wpList Tryz.prog ops Q rest (a.put o.dst (.slice ao' (n + 1) cap')) w') : wpList Tryz.prog ops Q (o :: rest) a (w.alloc (.cells us.toArray 51)) := by
 subst hg9
 obtain ⟨i0, hi, hz0, hz1, hz2⟩ := info_parts sO
 refine wpList_append_own_at _ hgd s x 24 ho B 51 i0 (.agg #[.string ByteArray.empty, .int .i64 0, .slice none 0 0, .int .i64 0, .slice none 0 0]) 5 80 Tryz.underlying24 hi hz0 hz1 hz2 rfl (by decide) v n xs hs (World.ownsRow.alloc hown _) ⟨w.heap.size, 0, none⟩ 1 1 us hx hus
  (mU _ _ _) h1us (by unfold maxLen; omega) (by omega) (by simp; omega) ?_
 intro v' w' h1 h2 _ h4
 have hv' : ∃ ao' cap', v' = .slice ao' (n + 1) cap' := by
  rcases h1.2 with ⟨_, h0⟩ | ⟨g, cap', cur, rfl, _⟩
  ·omega
  ·exact ⟨_, _, rfl⟩
 obtain ⟨ao', cap', rfl⟩ := hv'
 refine h ao' cap' w' h1 (eQ h2 (fun k e => e)) (fun k e => ?_)
 rcases h4 with h5 | h5
 ·exact Or.inl (h5 ▸ e)
 ·rw [h5] at e
  have := Option.some.inj e
  exact Or.inr (by simp at this; omega)
theorem zY {F : Nat -> Prop} {g o : Nat} {s : Fu} (h : yY w F g o s) : ∃ nm a ps kd body ap kp ab kb, s = ⟨nm, a, ps, kd, body⟩ /\ w.cell? ⟨g, o, none⟩ = some (.string (mkT nm)) /\ w.cell? ⟨g, o + 1, none⟩ = some (.int .i64 (a : Nat)) /\ w.cell? ⟨g, o + 2, none⟩ = some (.slice ap ps.length kp) /\ w.cell? ⟨g, o + 3, none⟩ = some (.int .i64 (kd : Nat)) /\ w.cell? ⟨g, o + 4, none⟩ = some (.slice ab body.len kb) /\ PaRow w F (.slice ap ps.length kp) ps /\ StsF w F body (.slice ab body.len kb) := by
 obtain ⟨nm, a, ps, kd, body⟩ := s
 obtain ⟨pv, bv, c0, c1, c2, c3, c4, h1, h2⟩ := h
 obtain ⟨ap, kp, rfl⟩ := tP h1
 obtain ⟨ab, kb, rfl⟩ := bT h2.1
 exact ⟨nm, a, ps, kd, body, ap, kp, ab, kb, rfl, c0, c1, c2, c3, c4, h1, h2⟩
theorem zZ {F S : Nat -> Prop} {g o : Nat} {s : Fu} (h : yY w F g o s) (hg : F g) (hk : Keeps S w w') (hF : ∀ b, F b -> ¬ S b) : yY w' F g o s := by
 obtain ⟨pv, bv, c0, c1, c2, c3, c4, h1, h2⟩ := h
 have hn := hF g hg
 exact ⟨pv, bv, hk.cell_of c0 hn, hk.cell_of c1 hn, hk.cell_of c2 hn, hk.cell_of c3 hn, hk.cell_of c4 hn, h1.keeps hk hF, dP h2 hk hF⟩
theorem fZ {F S : Nat -> Prop} {v : Value} {l : List Fu} (h : eL w F v l) (hk : Keeps S w w') (hF : ∀ b, F b -> ¬ S b) : eL w' F v l := by
 rcases h with h | ⟨g, cap, h1, h2, h3, h4, h5, h6⟩
 ·exact Or.inl h
 ·exact Or.inr ⟨g, cap, h1, h2, h3, h4, h5, fun i p hi => zZ (h6 i p hi) h4 hk hF⟩
theorem dR {F G : Nat -> Prop} (hF : ∀ b, b < w.heap.size -> F b -> G b) {v : Value} {l : List Fu} (h : eL w F v l) : eL w G v l := by
 rcases h with h | ⟨g, cap, h1, h2, h3, h4, h5, h6⟩
 ·exact Or.inl h
 ·obtain ⟨p, hp⟩ : ∃ p, l[0]? = some p := ⟨_, List.getElem?_eq_getElem h5⟩
  have h7 := h6 0 p hp
  refine Or.inr ⟨g, cap, h1, h2, h3, hF g (block_lt_of_cell h7.choose_spec.choose_spec.1) h4, h5, fun i p hi => ?_⟩
  obtain ⟨pv, bv, c0, c1, c2, c3, c4, k1, k2⟩ := h6 i p hi
  exact ⟨pv, bv, c0, c1, c2, c3, c4, jG hF k1, cJ hF k2⟩
theorem tQ {F : Nat -> Prop} {v : Value} {l : List Fu} (h : eL w F v l) : ∃ o c, v = .slice o l.length c := by
 rcases h with ⟨e, e0⟩ | ⟨g, cap, e, _⟩
 ·exact ⟨none, 0, by rw [e, e0]; rfl⟩
 ·exact ⟨_, _, e⟩
theorem EA {B : Nat} {v : Value} {vs : List Value} {xs : List Fu} (hown : w.ownsRow B 51 5 v xs.length vs) (hv : RowF w (fun b => B <= b) vs xs) (h0 : xs.length = 0 -> v = .slice none 0 0) : eL w (fun b => B <= b) v xs := by
 by_cases hz : xs.length = 0
 ·exact Or.inl ⟨h0 hz, List.eq_nil_of_length_eq_zero hz⟩
 ·have hc := hown
  rcases hown.2 with ⟨_, e⟩ | ⟨g, cap, cur, rfl, hb, hg, h3, h4, _⟩
  ·exact absurd e hz
  ·refine Or.inr ⟨g, cap, rfl, h3, h4, hb, by omega, fun i p hi => ?_⟩
   have h8 := RowF.lies xs vs 0 (g := g) (fun j u hj => by
    rw [show 0 * 5 + j = j by omega, World.ownsRow.cellAt hc j (by have := (List.getElem?_eq_some_iff.1 hj).1; have := hc.1; omega)]
    exact hj) hv i p hi
   rw [Nat.zero_add] at h8
   exact h8
theorem xU {xs : List Fu} (hA : ∀ x ∈ xs, KZ x) (hsz : xs.length <= 1000000) {F : Nat -> Prop} (w : World) (v : Value) (hx : eL w F v xs) (hF : ∀ b, F b -> b < w.heap.size) :
  Calls Tryz.prog 72 #[v, .func (.func 73) #[] #[]] w fun e w' => ∃ sv, e = .returned sv /\ eL w' (fun b => w.heap.size <= b) sv (xs.map eG) /\ Below w.heap.size w w' := by
 obtain ⟨ao, cap, rfl⟩ := tQ hx
 have HA := zz hA
 have HN := zz hsz
 have HW : Hid (∀ W, Below w.heap.size w W -> eL W (fun b => b < w.heap.size) (.slice ao xs.length cap) xs) := zz fun W hb =>
  fZ (dR (fun b _ e => hF b e) hx) (Keeps.of_below (S := fun k => w.heap.size <= k) hb (fun _ _ e => e)) (fun b e e2 => by have h9 : w.heap.size <= b := e2; have h8 : b < w.heap.size := e; omega)
 clear hA hx hsz hF
 go_enter Tryz.func72, Tryz.ntmps72
 go_wp2_with fail
 go_loopw [5, 12] (fun v i wr => ∃ (k : Nat) (vals : List Value), k <= xs.length /\ i = .int .i64 k /\ wr.ownsRow w.heap.size 51 5 v k vals /\ RowF wr (fun b => w.heap.size <= b /\ v.ownBlock ≠ some b) vals ((xs.take k).map eG) /\ Below w.heap.size w wr /\ (k = 0 -> v = .slice none 0 0)) (fun _ i _ => xs.length - (intOf i).toNat)
 case atStart => exact ⟨0, [], Nat.zero_le _, rfl, World.ownsRow_nil _ _ _ _, rfl, Below.refl _ _, fun _ => rfl⟩
 case round =>
  obtain ⟨k, vals, hk, rfl, hown, hvals, hb, h0⟩ := hrel
  have hn := HN.out
  obtain ⟨ao1, cap1, hform⟩ : ∃ ao1 cap1, u5 = .slice ao1 k cap1 := by
   rcases hown.2 with ⟨e1, e2⟩ | ⟨g, c, cur, e1, _⟩
   ·exact ⟨none, 0, by rw [e1, e2]⟩
   ·exact ⟨_, _, e1⟩
  subst hform
  have HOW := zz hown
  have HVL := zz hvals
  have HBL := zz hb
  have H0 := zz h0
  clear hown hvals hb h0
  by_cases hlt : k < xs.length
  ·obtain ⟨x, hkx⟩ : ∃ x, xs[k]? = some x := ⟨_, List.getElem?_eq_getElem hlt⟩
   have hw0 := HW.out wr HBL.out
   obtain ⟨g, rfl, hin⟩ : ∃ g, ao = some ⟨g, 0, none⟩ /\ yY wr (fun b => b < w.heap.size) g (k * 5) x := by
    rcases hw0 with ⟨_, e0⟩ | ⟨g, cp, e, _, _, _, _, h6⟩
    ·rw [e0] at hkx; cases hkx
    ·injection e with e1 _ _; exact ⟨g, e1, h6 k x hkx⟩
   obtain ⟨nm, a, ps, kd, body, ap, kp, ab, kb, rfl, c0, c1, c2, c3, c4, hp1, hs1⟩ := zY hin
   have hki : (k : Int) < (xs.length : Int) := by omega
   have hkii : (0 : Int) <= (k : Int) /\ (k : Int) < (xs.length : Int) := by omega
   have hw : IntKind.i64.wrap ((k : Int) + 1) = (k : Int) + 1 := IntWalk.i64_in _ (by omega)
   have hmem := List.mem_of_getElem? hkx
   have HTK : Hid ((xs.take (k + 1)).map eG = (xs.take k).map eG ++ [eG ⟨nm, a, ps, kd, body⟩]) := zz (by rw [List.take_add_one, hkx, List.map_append]; rfl)
   obtain ⟨wq, hwq⟩ : ∃ W, W = wr.alloc (.cells #[.string (mkT nm), .int .i64 (a : Nat), .slice ap ps.length kp, .int .i64 (kd : Nat), .slice ab body.len kb] 51) := ⟨_, rfl⟩
   have HWQ := zz hwq
   have hbq : Below wr.heap.size wr wq := by rw [hwq]; exact cU wr _ _
   have HBQ := zz (HBL.out.trans (hbq.mono HBL.out.size))
   have HLO := zz (World.ownsRow.lt HOW.out)
   have HBQ1 := zz hbq
   have hkq : Keeps (fun k => wr.heap.size <= k) wr wq := Keeps.of_below (S := fun k => wr.heap.size <= k) HBQ1.out (fun _ _ e => e)
   have hnq : ∀ b, b < w.heap.size -> ¬ wr.heap.size <= b := fun b e e2 => by have := HBL.out.size; omega
   have HE := zz (HA.out _ hmem (fun b => b < w.heap.size) wq _ (fun b hb => Nat.lt_of_lt_of_le hb HBQ.out.size) ⟨nm, a, ps, kd, body, ap, kp, ab, kb, rfl, rfl, hp1.keeps hkq hnq, dP hs1 hkq hnq⟩)
   unfold pT at HE
   clear hkq hnq
   clear hkx hmem hin hw0 hwq hbq hp1 hs1
   go_wp2_with fail
   rw [<- HWQ.out]
   refine HE.out.mono ?_
   rintro e w2 ⟨u', rfl, hst, hb2⟩
   obtain ⟨nm', a', ps', kd', body', ap', kp', ab', kb', hdec, rfl, hv1', hv2'⟩ := hst
   have HB2 : Hid (Below w.heap.size w w2) := zz (HBQ.out.trans (hb2.mono HBQ.out.size))
   have HK2 : Hid (Keeps (fun b => wr.heap.size <= b) wr w2) := zz (Keeps.of_below (S := fun k => wr.heap.size <= k) (HBQ1.out.trans (hb2.mono HBQ1.out.size)) (fun _ _ e => e))
   have HSQ := zz HBQ1.out.size
   have HV2 := zz (And.intro hv1' hv2')
   have HD2 := zz hdec
   obtain ⟨w2a, hw2a⟩ : ∃ W, W = w2.alloc (.cells #[.string (mkT nm'), .int .i64 (a' : Nat), .slice ap' ps'.length kp', .int .i64 (kd' : Nat), .slice ab' body'.len kb'] 51) := ⟨_, rfl⟩
   have HW2 := zz hw2a
   have hba : Below w2.heap.size w2 w2a := by rw [hw2a]; exact cU w2 _ _
   have HBA := zz hba
   have HB2a := zz (HB2.out.trans (hba.mono HB2.out.size))
   have HSZ : Hid (w.heap.size <= w2a.heap.size) := zz HB2a.out.size
   have HKA : Hid (Keeps (fun b => wr.heap.size <= b) wr w2a) := zz (HK2.out.trans (Keeps.of_below (S := fun k => wr.heap.size <= k) hba (fun b _ e => Nat.le_trans HK2.out.size e)))
   have HOW2 : Hid (w2a.ownsRow w.heap.size 51 5 (.slice ao1 k cap1) k vals) := zz (HKA.out.row HOW.out (fun b e e2 => by have := (HLO.out b e).2; have h9 : wr.heap.size <= b := e2; omega))
   clear hb2 hv1' hv2' hdec hba hw2a
   unfold pT
   go_wp2_with (at_builtin; rw [<- HW2.out]; refine oS rfl _ _ rfl w2a w.heap.size _ k vals [.string (mkT nm'), .int .i64 (a' : Nat), .slice ap' ps'.length kp', .int .i64 (kd' : Nat), .slice ab' body'.len kb'] rfl (by intro u hu; simp at hu; rcases hu with rfl | rfl | rfl | rfl | rfl <;> rfl) HOW2.out rfl _ rfl (by rw [HW2.out]; simp) (by omega) HSZ.out ?_; intro ao' cap' w3 hO3 hK3 hN3)
   have HO3 := zz hO3
   have HK3 := zz hK3
   have HN3 := zz hN3
   clear hO3 hK3 hN3
   go_wp2_with fail
   go_roundw
   case rel =>
    have hz2 := HBA.out.size
    have hbl := HBL.out.size
    have hzq := HSQ.out
    have hz2w := HK2.out.size
    have h1 : RowF w2a (fun b => w.heap.size <= b /\ (Value.slice ao1 k cap1).ownBlock ≠ some b /\ b < wr.heap.size) vals ((xs.take k).map eG) := RowF.keeps HKA.out (fun b e e2 => by have h9 : wr.heap.size <= b := e2; omega) _ _ (RowF.mono (fun b hb e => ⟨e.1, e.2, hb⟩) _ _ HVL.out)
    have hm := HV2.out
    have hG : ∀ b, b < w2a.heap.size -> wq.heap.size <= b -> wq.heap.size <= b /\ b < w2a.heap.size := fun b h1 h2 => ⟨h2, h1⟩
    have hKB : ∀ b, wq.heap.size <= b /\ b < w2a.heap.size -> ¬ (Value.slice ao1 k cap1).ownBlock = some b := fun b e e2 => by have := (HLO.out b e2).2; have := e.1; omega
    have hFR : ∀ b, b < w3.heap.size -> wq.heap.size <= b /\ b < w2a.heap.size -> w.heap.size <= b /\ (Value.slice ao' (k + 1) cap').ownBlock ≠ some b := fun b _ e => ⟨by have := e.1; omega, fun e4 => by
     rcases HN3.out b e4 with h | h
     ·have := (HLO.out b h).2; have := e.1; omega
     ·have := e.2; omega⟩
    have hkA : Keeps (fun k => w2.heap.size <= k) w2 w2a := Keeps.of_below (S := fun k => w2.heap.size <= k) HBA.out (fun _ _ e => e)
    have hg3 := dQ (k := wq.heap.size) hm.2 hkA (fun b _ h2 e => by have h9 : w2.heap.size <= b := e; omega) (Nat.le_refl _)
    have hg4 := cJ hFR (dP (cJ hG hg3) HK3.out hKB)
    have hp3 := nX (k := wq.heap.size) hm.1 hkA (fun b _ h2 e => by have h9 : w2.heap.size <= b := e; omega) (Nat.le_refl _)
    have hp4 := jG hFR ((jG hG hp3).keeps HK3.out hKB)
    refine ⟨k + 1, _, by omega, by go_num, HO3.out, ?_, ?_, fun e => absurd e (by omega)⟩
    ·rw [HTK.out, HD2.out]
     refine RowF.snoc ?_ _ _ ?_
     ·exact ⟨_, _, rfl, hp4, hg4⟩
     ·exact RowF.mono (fun b _ e => ⟨e.1, fun e4 => by
       rcases HN3.out b e4 with h | h
       ·exact e.2.1 h
       ·omega⟩) _ _ (RowF.keeps HK3.out (fun b e e2 => e.2.1 e2) _ _ h1)
    ·exact HB2a.out.trans (HK3.out.below HSZ.out (fun b _ e => by have := (HLO.out b e).1; omega))
   case measure => simp [intOf]; omega
  ·have hki : ¬ (k : Int) < (xs.length : Int) := by omega
   have hkk : k = xs.length := by omega
   subst hkk
   go_wp2_with fail
   go_ret
   have hv := HVL.out
   rw [List.take_of_length_le (Nat.le_refl _)] at hv
   refine ⟨_, rfl, EA (vs := vals) (by rw [List.length_map]; exact HOW.out) (RowF.mono (fun b _ e => e.1) _ _ hv) (fun e => H0.out (by rw [List.length_map] at e; exact e)), HBL.out⟩
structure FoldOk (src : Src) : Prop where
 gl : src.globals.length <= 1000000
 fl : src.funcs.length <= 1000000
 fs : ∀ g ∈ src.funcs, g.params.length <= 1000000 /\ eV g.body /\ iD g.body <= 1000000
theorem EB {F : Nat -> Prop} {v : Value} {l : List Gl} (h : fA w F v l) : ∃ o c, v = .slice o l.length c := by
 rcases h with ⟨e, e0⟩ | ⟨g, cap, e, _⟩
 ·exact ⟨none, 0, by rw [e, e0]; rfl⟩
 ·exact ⟨_, _, e⟩
theorem jN {F S : Nat -> Prop} {v : Value} {l : List Gl} (h : fA w F v l) (hk : Keeps S w w') (hF : ∀ b, F b -> ¬ S b) : fA w' F v l := by
 rcases h with h | ⟨g, cap, h1, h2, h3, h4, h5, h6⟩
 ·exact Or.inl h
 ·exact Or.inr ⟨g, cap, h1, h2, h3, h4, h5, fun i p hi => ⟨hk.cell_of (h6 i p hi).1 (hF g h4), hk.cell_of (h6 i p hi).2 (hF g h4)⟩⟩
theorem gV {F G : Nat -> Prop} (hF : ∀ b, b < w.heap.size -> F b -> G b) {v : Value} {l : List Gl} (h : fA w F v l) : fA w G v l := by
 rcases h with h | ⟨g, cap, h1, h2, h3, h4, h5, h6⟩
 ·exact Or.inl h
 ·obtain ⟨p, hp⟩ : ∃ p, l[0]? = some p := ⟨_, List.getElem?_eq_getElem h5⟩
  exact Or.inr ⟨g, cap, h1, h2, h3, hF g (block_lt_of_cell (h6 0 p hp).1) h4, h5, h6⟩
theorem xV {B k : Nat} {S : Nat -> Prop} {v : Value} {x : List Gl} (h : fA w (fun b => B <= b) v x) (hk : Keeps S w w') (hS : ∀ b, B <= b -> b < w.heap.size -> ¬ S b) (hB : k <= B) : fA w' (fun b => k <= b) v x :=
 gV (fun _ _ e => Nat.le_trans hB e.1) (jN (gV (G := fun b => B <= b /\ b < w.heap.size) (fun _ h1 h2 => ⟨h2, h1⟩) h) hk (fun b e => hS b e.1 e.2))
theorem GO {B k : Nat} {S : Nat -> Prop} {v : Value} {x : List Fu} (h : eL w (fun b => B <= b) v x) (hk : Keeps S w w') (hS : ∀ b, B <= b -> b < w.heap.size -> ¬ S b) (hB : k <= B) : eL w' (fun b => k <= b) v x :=
 dR (fun _ _ e => Nat.le_trans hB e.1) (fZ (dR (G := fun b => B <= b /\ b < w.heap.size) (fun _ h1 h2 => ⟨h2, h1⟩) h) hk (fun b e => hS b e.1 e.2))
theorem rB {src : Src} (hok : FoldOk src) {F : Nat -> Prop} {ga fa : Option Addr} {gc fc : Nat} (w : World) (hF : ∀ b, F b -> b < w.heap.size) (hg : fA w F (.slice ga src.globals.length gc) src.globals) (hf : eL w F (.slice fa src.funcs.length fc) src.funcs) :
  Calls Tryz.prog 30 #[.agg #[.slice ga src.globals.length gc, .slice fa src.funcs.length fc]] w fun e w' => ∃ ga' gc' fa' fc', e = .returned (.agg #[.slice ga' src.globals.length gc', .slice fa' src.funcs.length fc']) /\ fA w' (fun b => w.heap.size <= b) (.slice ga' src.globals.length gc') src.globals /\ eL w' (fun b => w.heap.size <= b) (.slice fa' src.funcs.length fc') (src.funcs.map eG) /\ Below w.heap.size w w' := by
 obtain ⟨w1, hw1⟩ : ∃ W, W = (w.alloc (.cells #[.slice ga src.globals.length gc, .slice fa src.funcs.length fc] 26)).alloc (.cells #[.slice none 0 0, .slice none 0 0] 26) := ⟨_, rfl⟩
 have HW1 := zz hw1
 have hB1 : Below w.heap.size w w1 := by rw [hw1]; exact fM w _ _ _ _
 have hz1 : w1.heap.size = w.heap.size + 2 := by rw [hw1]; simp
 have hs1 : Blk w1 w.heap.size [.slice ga src.globals.length gc, .slice fa src.funcs.length fc] := by
  rw [hw1]; exact (Blk.new w _ _).fresh (cU _ _ _)
 have hr1 : Blk w1 (w.heap.size + 1) [.slice none 0 0, .slice none 0 0] := by
  rw [hw1]; exact Blk.new' _ _ _ (by simp)
 have hn : ∀ b, F b -> ¬ w.heap.size <= b := fun b e e2 => by have := hF b e; omega
 have HV : Hid (∀ W, Below w.heap.size w W -> fA W F (.slice ga src.globals.length gc) src.globals /\ eL W F (.slice fa src.funcs.length fc) src.funcs) := zz fun W hb => by
  have hk : Keeps (fun k => w.heap.size <= k) w W := Keeps.of_below (S := fun k => w.heap.size <= k) hb (fun _ _ e => e)
  exact ⟨jN hg hk hn, fZ hf hk hn⟩
 have HF := zz hF
 have HFN : Hid (∀ g ∈ src.funcs, KZ g) := zz fun g hg => GN (hok.fs g hg).1 (zF g.body (hok.fs g hg).2.1 (hok.fs g hg).2.2)
 have HFL := zz hok.fl
 have HB1 := zz hB1
 have HZ1 := zz hz1
 have SB1 := zz hs1
 have RB1 := zz hr1
 have hbd : Below w1.heap.size w1 w1.drew := Below.drew (Below.refl _ w1)
 have HC := zz (zV hok.gl w1.drew (HV.out _ (hB1.trans (hbd.mono hB1.size))).1)
 have HBD := zz hbd
 have i0 := hs1.at_ 0 _ rfl
 have i1 := hs1.at_ 1 _ rfl
 clear hg hf hok hw1 hB1 hz1 hs1 hr1 hn hF hbd
 go_enter Tryz.func30, Tryz.ntmps30
 go_upto_region 1 with fail
 rw [<- HW1.out]
 refine wp_region_held_drew (S := (fun W' : World => W'.cell? ⟨w.heap.size, 0, none⟩ = some (.slice ga src.globals.length gc) /\ W'.cell? ⟨w.heap.size, 1, none⟩ = some (.slice fa src.funcs.length fc))) (by kernel_rfl) ⟨by simp only [World.cell?_drew]; assumption, by simp only [World.cell?_drew]; assumption⟩ (fun hHeld => ?_)
 refine tk 0 3 (.pointer (some ⟨w.heap.size, 0, none⟩)) rfl (.inl ⟨by rfl, ?_⟩) hHeld ?_
 ·intro W9 hSW; (try dsimp only at hSW); go_simp
 try simp only [Act.put, sA, sB, sC]
 refine tk 1 4 (.slice ga src.globals.length gc) rfl (.inl ⟨by rfl, ?_⟩) hHeld ?_
 ·intro W9 hSW; (try dsimp only at hSW); go_simp
 try simp only [Act.put, sA, sB, sC]
 refine tk 3 6 (.pointer (some ⟨w.heap.size, 1, none⟩)) rfl (.inl ⟨by rfl, ?_⟩) hHeld ?_
 ·intro W9 hSW; (try dsimp only at hSW); go_simp
 try simp only [Act.put, sA, sB, sC]
 refine tk 4 7 (.slice fa src.funcs.length fc) rfl (.inl ⟨by rfl, ?_⟩) hHeld ?_
 ·intro W9 hSW; (try dsimp only at hSW); go_simp
 try simp only [Act.put, sA, sB, sC]
 refine ra 2 (some 5) rfl fun K hK => ?_
 go_simp
 go_at_call 71
 refine HC.out.mono ?_
 rintro e w2 ⟨v1, rfl, hv1, hb2⟩
 obtain ⟨g1, c1, rfl⟩ := EB hv1
 have HB2 : Hid (Below w1.heap.size w1 w2) := zz (HBD.out.trans (hb2.mono HBD.out.size))
 have SB2 := zz (SB1.out.fresh HB2.out)
 have k0 := SB2.out.at_ 0 _ rfl
 have k1 := SB2.out.at_ 1 _ rfl
 have HV1 : Hid (fA w2 (fun b => w1.heap.size <= b) (.slice g1 src.globals.length c1) src.globals) := zz hv1
 have hBw2 := HB1.out.trans (HB2.out.mono HB1.out.size)
 have HE := zz (xU HFN.out HFL.out w2 _ (HV.out _ hBw2).2 (fun b hb => Nat.lt_of_lt_of_le (HF.out b hb) hBw2.size))
 clear hv1 hb2 hBw2
 refine hK.out _ _ ⟨k0, k1⟩ (fun hHeld => ?_)
 clear hK K
 refine ra 5 (some 8) rfl fun K hK => ?_
 go_simp
 go_at_call 72
 refine HE.out.mono ?_
 rintro e w3 ⟨v2, rfl, hv2, hb3⟩
 obtain ⟨f1, d1, hf1⟩ := tQ hv2
 rw [List.length_map] at hf1
 subst hf1
 have HB3 : Hid (Below w1.heap.size w1 w3) := zz (HB2.out.trans (hb3.mono HB2.out.size))
 have SB3 := zz (SB1.out.fresh HB3.out)
 have RB3 := zz (RB1.out.fresh HB3.out)
 have k3 := SB3.out.at_ 0 _ rfl
 have k4 := SB3.out.at_ 1 _ rfl
 have r0 := RB3.out.at_ 0 _ rfl
 have r1 := RB3.out.at_ 1 _ rfl
 have y0 := RB3.out.free 0
 have y1 := RB3.out.free 1
 have HV1b : Hid (fA w3 (fun b => w1.heap.size <= b) (.slice g1 src.globals.length c1) src.globals) := zz (xV HV1.out (Keeps.of_below (S := fun k => w2.heap.size <= k) hb3 (fun _ _ e => e)) (fun b _ h2 e => by have h9 : w2.heap.size <= b := e; omega) (Nat.le_refl _))
 have HV2 : Hid (eL w3 (fun b => w1.heap.size <= b) (.slice f1 src.funcs.length d1) (src.funcs.map eG)) := zz (dR (fun b _ e => Nat.le_trans HB2.out.size e) hv2)
 clear hv2 hb3
 refine hK.out _ _ ⟨k3, k4⟩ (fun hHeld => ?_)
 clear hK K
 refine tk 6 9 (.agg #[.slice g1 src.globals.length c1, .slice f1 src.funcs.length d1]) rfl (.inl ⟨by rfl, ?_⟩) hHeld ?_
 ·intro W9 hSW; (try dsimp only at hSW); go_simp
 try simp only [Act.put, sA, sB, sC]
 have hks : Keeps (fun b => b = w.heap.size + 1) w3 ((w3.setCell ⟨w.heap.size + 1, 0, none⟩ (.slice g1 src.globals.length c1)).setCell ⟨w.heap.size + 1, 1, none⟩ (.slice f1 src.funcs.length d1)) := fW
 have s0 := hks.cell_of k3 (fun e => by have h9 : w.heap.size = w.heap.size + 1 := e; omega)
 have s1 := hks.cell_of k4 (fun e => by have h9 : w.heap.size = w.heap.size + 1 := e; omega)
 refine ra 7 none rfl fun K hK => ?_
 go_simp
 refine hK.out _ _ ⟨s0, s1⟩ (fun hHeld => ?_)
 clear hK K
 refine wpAnyH_done (by kernel_rfl) ?_ _
 have HKS := zz hks
 clear hks
 go_wp2_with fail
 refine bodyPost_ret (v := .agg #[.slice g1 src.globals.length c1, .slice f1 src.funcs.length d1]) (by simp [results, Tryz.results30, go_sem, r0, r1]) rfl ?_
 have hks := HKS.out
 have hz1 := HZ1.out
 have hz3 := HB3.out.size
 exact ⟨g1, c1, f1, d1, rfl, xV HV1b.out hks (fun b h1 _ e => by have h9 : b = w.heap.size + 1 := e; omega) (by omega), GO HV2.out hks (fun b h1 _ e => by have h9 : b = w.heap.size + 1 := e; omega) (by omega), HB1.out.trans ((HB3.out.mono HB1.out.size).trans (hks.below (by omega) (fun b _ e => by have h9 : b = w.heap.size + 1 := e; omega)))⟩
structure LawEnv (w : World) : Prop where
 tree : TreeEnv w
 pow : PowT w
 pb : 4 < w.heap.size
theorem LawEnv.penv (h : LawEnv w) : PEnv w.heap.size w := ⟨h.tree.signs, h.tree.b1, h.pow, h.pb, h.tree.kinds, h.tree.b2⟩
theorem LawEnv.below (h : LawEnv w) (hb : Below w.heap.size w w') : LawEnv w' := by
 have hl := h.tree.lex.below hb (Nat.le_refl _)
 have hp := h.penv.below hb
 have hz := hb.size
 exact ⟨⟨⟨hl.tabs, hl.errR, hl.sgs, by have := hl.b1; omega, by have := hl.b2; omega, by have := hl.b3; omega, by have := hl.b4; omega⟩, hp.signs, hp.kinds, by have := hp.b1; omega, by have := hp.b3; omega⟩, hp.pow, by have := hp.b2; omega⟩
theorem rC (w : World) : (binOp BinOp.eql 35 .nilIface .nilIface).run Tryz.prog w = .ok (.bool true) w := by kernel_rfl
theorem GP (p : Addr) (w : World) : (binOp BinOp.eql 35 (.iface 145 (.pointer (some p))) .nilIface).run Tryz.prog w = .ok (.bool false) w := by kernel_rfl
theorem EC (s : ByteArray) (w : World) : Calls Tryz.prog 63 #[.string s] w fun e w' => e = .returned (.bool (decide (1500 < s.size))) /\ w = w' := by
 go_enter Tryz.func63, Tryz.ntmps63
 go_wp2_with fail
 go_ret
 refine ⟨?_, rfl⟩
 have e : ((1500 : Int) < (s.size : Int)) ↔ 1500 < s.size := by omega
 show Ending.returned (Value.bool (decide ((1500 : Int) < (s.size : Int)))) = _
 rw [decide_eq_decide.2 e]
def GQ (w w' : World) (s : ByteArray) (e : Ending) : Prop :=
 (∃ ts src m gv fv, s.size <= 1500 /\ lx s.data.toList 0 false = (ts, none) /\ Ev (fun f => Tr.program ⟨ts, s.size⟩ f ⟨[], []⟩ 0) (.ok src m) /\ e = .returned (.tuple #[.agg #[gv, fv], .bool true]) /\ SrcO w' w.heap.size src gv fv) \/ e = .returned (.tuple #[.agg #[.slice none 0 0, .slice none 0 0], .bool false])
theorem ED {s : ByteArray} {e : Ending} (hs : s.size <= 4000) (h : fX w w' s e) : (∃ ts src m gv fv, lx s.data.toList 0 false = (ts, none) /\ Ev (fun f => Tr.program ⟨ts, s.size⟩ f ⟨[], []⟩ 0) (.ok src m) /\ e = .returned (.tuple #[.agg #[gv, fv], .nilIface]) /\ SrcO w' w.heap.size src gv fv) ∨
  ∃ b, e = .returned (.tuple #[.agg #[.slice none 0 0, .slice none 0 0], .iface 145 (.pointer (some ⟨b, 0, none⟩))]) := by
 unfold fX at h
 rw [if_neg (by omega)] at h
 split at h
 ·obtain ⟨x, rfl, b, rfl, _⟩ := h
  exact Or.inr ⟨b, rfl⟩
 ·rename_i ts hts
  obtain ⟨r, hev, hr⟩ := h
  cases r with
  | out => exact hr.elim
  | bad k a =>
   obtain ⟨x, rfl, b, rfl, _⟩ := hr
   exact Or.inr ⟨b, rfl⟩
  | ok src m =>
   obtain ⟨gv, fv, rfl, hs⟩ := hr
   exact Or.inl ⟨ts, src, m, gv, fv, hts, hev, rfl, hs⟩
theorem GR (s : ByteArray) (w : World) (hE : LawEnv w) : Calls Tryz.prog 23 #[.string s] w fun e w' => GQ w w' s e /\ Below w.heap.size w w' := by
 have hb0 := aG w #[.slice none 0 0, .slice none 0 0] 26
 have HL := zz (EC s (w.alloc (.cells #[.slice none 0 0, .slice none 0 0] 26)))
 have HP := zz (mH s (w.alloc (.cells #[.slice none 0 0, .slice none 0 0] 26)) (hE.below hb0).tree)
 have HB0 := zz hb0
 clear hE hb0
 go_enter Tryz.func23, Tryz.ntmps23
 go_wp2_with fail
 refine HL.out.mono ?_
 rintro e w1 ⟨rfl, rfl⟩
 by_cases hs : 1500 < s.size
 ·rw [decide_eq_true hs]
  clear hs
  go_wp2_with fail
  refine bodyPost_ret (v := .tuple #[sV, .bool false]) (by simp [results, Tryz.results23, go_sem]; rfl) rfl ?_
  exact ⟨Or.inr rfl, HB0.out⟩
 ·rw [decide_eq_false hs]
  have HS : Hid (s.size <= 1500) := zz (by omega)
  clear hs
  go_wp2_with fail
  refine HP.out.mono ?_
  rintro e w2 ⟨hsay, hb2⟩
  have hz : w.heap.size < w2.heap.size := Nat.lt_of_lt_of_le (by simp) hb2.size
  have c0 : w2.cell? ⟨w.heap.size, 0, none⟩ = some (.slice none 0 0) := by rw [hb2.cell (p := ⟨w.heap.size, 0, none⟩) (by simp)]; exact bK _ _ _ 0 _ rfl (by simp)
  have c1 : w2.cell? ⟨w.heap.size, 1, none⟩ = some (.slice none 0 0) := by rw [hb2.cell (p := ⟨w.heap.size, 1, none⟩) (by simp)]; exact bK _ _ _ 1 _ rfl (by simp)
  have z0 : w2.frozen? ⟨w.heap.size, 0, none⟩ = false := by rw [hb2.frozen (p := ⟨w.heap.size, 0, none⟩) (by simp)]; exact World.frozen?_alloc_new _ _ _ _
  have z1 : w2.frozen? ⟨w.heap.size, 1, none⟩ = false := by rw [hb2.frozen (p := ⟨w.heap.size, 1, none⟩) (by simp)]; exact World.frozen?_alloc_new _ _ _ _
  have HB2 := zz (HB0.out.trans (hb2.mono HB0.out.size))
  have HZ := zz hz
  rcases ED (by have := HS.out; omega) hsay with ⟨ts, src, m, gv, fv, hts, hev, rfl, hsrc⟩ | ⟨b, rfl⟩
  ·obtain ⟨⟨ga, gl, gc, rfl⟩, fa, fl, fc, rfl⟩ := hsrc.form
   have HTS := zz hts
   have HEV := zz hev
   have HSRC := zz hsrc
   clear hsay hb2 hts hev hsrc
   have hE1 := rC
   go_wp2_with fail
   go_region
   go_wp2_with fail
   try simp only [Exit.inBlock, Exit.then]
   have hks : Keeps (fun k => k = w.heap.size) w2 ((((w2.setCell ⟨w.heap.size, 0, none⟩ (.slice ga gl gc)).setCell ⟨w.heap.size, 1, none⟩ (.slice fa fl fc)).alloc (.cells #[.slice ga gl gc, .slice fa fl fc] 26)).drew) := ((mP (w := w2)).alloc _).drew
   have e0 : (((w2.setCell ⟨w.heap.size, 0, none⟩ (.slice ga gl gc)).setCell ⟨w.heap.size, 1, none⟩ (.slice fa fl fc)).alloc (.cells #[.slice ga gl gc, .slice fa fl fc] 26)).cell? ⟨w.heap.size, 0, none⟩ = some (.slice ga gl gc) := aZ (by rw [World.cell?_setCell_other _ _ _ _ (fun e => by injection e with _ e _; cases e)]; exact World.cell?_setCell_same _ _ _ c0)
   have e1 : (((w2.setCell ⟨w.heap.size, 0, none⟩ (.slice ga gl gc)).setCell ⟨w.heap.size, 1, none⟩ (.slice fa fl fc)).alloc (.cells #[.slice ga gl gc, .slice fa fl fc] 26)).cell? ⟨w.heap.size, 1, none⟩ = some (.slice fa fl fc) := aZ (World.cell?_setCell_same _ _ _ (by rw [World.cell?_setCell_other _ _ _ _ (fun e => by injection e with _ e _; cases e)]; exact c1))
   refine bodyPost_ret (v := .tuple #[.agg #[.slice ga gl gc, .slice fa fl fc], .bool true]) (by simp [results, Tryz.results23, go_sem, e0, e1]) rfl ?_
   have hz0 := HZ.out
   exact ⟨Or.inl ⟨ts, src, m, _, _, HS.out, HTS.out, HEV.out, rfl, SrcO.mono (B := (w.alloc (.cells #[.slice none 0 0, .slice none 0 0] 26)).heap.size) (by simp) (HSRC.out.keeps hks (fun b e e2 => by have h9 : b = w.heap.size := e2; have h8 : w.heap.size + 1 <= b := (by simpa using e); omega))⟩, HB2.out.trans (hks.below (by omega) (fun k _ e => by have h9 : k = w.heap.size := e; omega))⟩
  ·clear hsay hb2
   have hE1 := GP ⟨b, 0, none⟩
   go_wp2_with fail
   go_region
   go_wp2_with fail
   try simp only [Exit.inBlock, Exit.then]
   have hks : Keeps (fun k => k = w.heap.size) w2 ((((w2.setCell ⟨w.heap.size, 0, none⟩ (.slice none 0 0)).setCell ⟨w.heap.size, 1, none⟩ (.slice none 0 0)).alloc (.cells #[.slice none 0 0, .slice none 0 0] 26)).drew) := ((mP (w := w2)).alloc _).drew
   have e0 : (((w2.setCell ⟨w.heap.size, 0, none⟩ (.slice none 0 0)).setCell ⟨w.heap.size, 1, none⟩ (.slice none 0 0)).alloc (.cells #[.slice none 0 0, .slice none 0 0] 26)).cell? ⟨w.heap.size, 0, none⟩ = some (.slice none 0 0) := aZ (by rw [World.cell?_setCell_other _ _ _ _ (fun e => by injection e with _ e _; cases e)]; exact World.cell?_setCell_same _ _ _ c0)
   have e1 : (((w2.setCell ⟨w.heap.size, 0, none⟩ (.slice none 0 0)).setCell ⟨w.heap.size, 1, none⟩ (.slice none 0 0)).alloc (.cells #[.slice none 0 0, .slice none 0 0] 26)).cell? ⟨w.heap.size, 1, none⟩ = some (.slice none 0 0) := aZ (World.cell?_setCell_same _ _ _ (by rw [World.cell?_setCell_other _ _ _ _ (fun e => by injection e with _ e _; cases e)]; exact c1))
   refine bodyPost_ret (v := .tuple #[.agg #[.slice none 0 0, .slice none 0 0], .bool false]) (by simp [results, Tryz.results23, go_sem, e0, e1]) rfl ?_
   have hz0 := HZ.out
   exact ⟨Or.inr rfl, HB2.out.trans (hks.below (by omega) (fun k _ e => by have h9 : k = w.heap.size := e; omega))⟩
theorem kS {w : World} {base : Nat} {e : TypeId} {size : Nat} {v : Value} {n : Nat} {xs : List Value} (h : w.ownsRow base e size v n xs) : ∃ ao cap, v = .slice ao n cap := by
 rcases h.2 with ⟨e1, e2⟩ | ⟨g, cap, cur, e1, _⟩
 ·exact ⟨none, 0, by rw [e1, e2]⟩
 ·exact ⟨_, _, e1⟩
theorem SrcO.toG {B : Nat} {G : Nat -> Prop} {src : Src} {gv fv : Value} (h : SrcO w B src gv fv) (hG : ∀ b, b < w.heap.size -> B <= b -> G b) : zG w G src gv fv := by
 obtain ⟨fvals, h2, h3, h4, h5, h6, h7⟩ := h
 refine ⟨?_, ?_⟩
 ·by_cases hz : src.globals = []
  ·exact Or.inl ⟨h5 hz, hz⟩
  ·have hpos : 0 < src.globals.length := List.length_pos_iff.2 hz
   rcases h2.2 with ⟨_, e⟩ | ⟨g, cap, cur, e1, e2, e5, e3, e4, _⟩
   ·omega
   ·refine Or.inr ⟨g, cap, e1, e3, e4, hG g (Array.getElem?_eq_some_iff.1 e5).1 e2, hpos, fun i p hi => ?_⟩
    obtain ⟨a1, a2⟩ := mS src.globals i p hi
    have hin := (List.getElem?_eq_some_iff.1 hi).1
    subst e1
    rw [World.ownsRow.cellAt h2 (i * 2) (by omega), World.ownsRow.cellAt h2 (i * 2 + 1) (by omega)]
    exact ⟨a1, a2⟩
 ·by_cases hz : src.funcs = []
  ·exact Or.inl ⟨h6 hz, hz⟩
  ·have hpos : 0 < src.funcs.length := List.length_pos_iff.2 hz
   rcases h3.2 with ⟨_, e⟩ | ⟨g, cap, cur, e1, e2, e5, e3, e4, _⟩
   ·omega
   ·refine Or.inr ⟨g, cap, e1, e3, e4, hG g (Array.getElem?_eq_some_iff.1 e5).1 e2, hpos, fun i p hi => ?_⟩
    subst e1
    have h8 := RowF.lies src.funcs fvals 0 (g := g) (fun j v hj => by
     rw [show 0 * 5 + j = j by omega, World.ownsRow.cellAt h3 j (by have := (List.getElem?_eq_some_iff.1 hj).1; have := h3.1; omega)]
     exact hj) (RowF.mono (fun b hb e => hG b hb e.1) _ _ h4) i p hi
    rw [Nat.zero_add] at h8
    exact h8
theorem JN {s y : St} (h : qC s) (hy : p7 s = some y) : qC y := by
 obtain ⟨c, a, nm, x, v, t, e, cs⟩ := s
 obtain ⟨h1, h2, h3, h4, h5⟩ := h
 rw [fK] at hy
 split at hy
 ·obtain rfl := Option.some.inj hy
  exact ⟨h1, h2, h3, h4, h5⟩
 ·split at hy
  ·split at hy
   ·obtain rfl := Option.some.inj hy
    exact ⟨h1, h2, h3, h4, h5⟩
   ·cases hy
  ·split at hy
   ·split at hy
    ·obtain rfl := Option.some.inj hy
     exact ⟨h1, h2, h3, trivial, h5⟩
    ·cases hy
   ·split at hy
    ·split at hy
     ·obtain rfl := Option.some.inj hy
      exact ⟨h1, h2, trivial, h4, h5⟩
     ·cases hy
    ·obtain rfl := Option.some.inj hy
     exact ⟨h1, h2, h3, h4, h5⟩
mutual
theorem GS : ∀ s : St, qC s -> ∀ y, cO s = some y -> qC y
 | .mk c a nm x v t e cs, h, y, hy => by
  obtain ⟨h1, h2, h3, h4, h5⟩ := h
  rw [cO] at hy
  have hk : qC (.mk c a nm (aK x) (aK v) (aE t) (aE e) (aT cs)) := ⟨gH x h1, gH v h2, f4 t h3, f4 e h4, tR cs h5⟩
  exact JN hk hy
theorem f4 : ∀ ss : Sts, eV ss -> eV (aE ss)
 | .nil, _ => by rw [aE]; trivial
 | .cons s ss, h => by
  obtain ⟨h1, h2⟩ := h
  have hs := GS s h1
  have hss := f4 ss h2
  rw [aE]
  split
  ·rename_i y hy
   exact ⟨hs y hy, hss⟩
  ·exact hss
theorem GT : ∀ c : Ca, vW c -> vW (eU c)
 | .mk c a nm x v b, h => by
  obtain ⟨h1, h2, h3⟩ := h
  rw [eU]; exact ⟨gH x h1, gH v h2, f4 b h3⟩
theorem tR : ∀ cs : Cas, mE cs -> mE (aT cs)
 | .nil, _ => by rw [aT]; trivial
 | .cons c cs, h => by
  obtain ⟨h1, h2⟩ := h
  rw [aT]; exact ⟨GT c h1, tR cs h2⟩
end
theorem z8 {s : Src} (h : nS s) : nS (cL s) := by
 intro g hg
 obtain ⟨f, hf, rfl⟩ := List.mem_map.1 hg
 exact f4 f.body (h f hf)
theorem GU {ss : Sts} (h : eV ss) : bB (o8 ss) := by
 cases ss with
 | nil => trivial
 | cons s xs => obtain ⟨c, a, nm, x, v, t, e, cs⟩ := s; exact h.1.2.1
theorem AA {F : Nat -> Prop} {fa : Option Addr} {fc : Nat} {f : Fu} (h : eL w F (.slice fa 1 fc) [f]) (hl : f.body.len = 1) : ∃ g bo bc q, fa = some ⟨g, 0, none⟩ /\ 1 <= fc /\ w.cell? ⟨g, 4, none⟩ = some (.slice (some ⟨bo, 0, none⟩) 1 bc) /\ 1 <= bc /\ w.cell? ⟨bo, 4, none⟩ = some (.pointer q) /\ ExIn w F (.pointer q) (o8 f.body) := by
 rcases h with ⟨_, e⟩ | ⟨g, cap, e, h1, h2, h3, h4, h5⟩
 ·cases e
 injection e with e1 _ e3
 subst e1
 subst e3
 obtain ⟨pv, bv, _, _, _, _, c4, _, hst⟩ := h5 0 f rfl
 cases hb : f.body with
 | nil => rw [hb] at hl; exact absurd hl (by decide)
 | cons s xs =>
  rw [hb] at hst hl
  rcases hst.1 with ⟨_, e0⟩ | ⟨bo, bc, e, k1, _, _, _⟩
  ·rw [e0] at hl; exact absurd hl (by decide)
  rw [hl] at e k1
  subst e
  have hin := hst.2 bo 1 bc rfl
  obtain ⟨c, a, nm, dst, val, thn, els, cs⟩ := s
  obtain ⟨tv, vv, nv, ev, cv, _, _, _, _, b4, _, _, _, _, hx, _⟩ := hin.1
  obtain ⟨q, rfl⟩ := eM hx
  simp only [Nat.zero_mul, Nat.zero_add] at b4 c4
  exact ⟨g, bo, bc, q, rfl, h1, c4, k1, b4, hx⟩
theorem u7 {s : ByteArray} {e : Ending} (hs : s.size = 44) (hl : s.data.toList = pS) (h : fX w w' s e) : ∃ f gv fv, e = .returned (.tuple #[.agg #[gv, fv], .nilIface]) /\ SrcO w' w.heap.size ⟨[], [f]⟩ gv fv /\ eV f.body /\ f.params = [] /\ iD f.body <= 1000 /\ (aE f.body).len = 1 /\ exV 1 (o8 (aE f.body)) = [55] := by
 obtain ⟨ts0, s0, m0, h1, _, _⟩ := rA
 unfold fX at h
 rw [if_neg (by omega), hl, hs] at h
 rw [h1] at h
 simp only at h
 obtain ⟨r, hev, hr⟩ := h
 obtain ⟨src, m, f, rfl, a1, a2, a3, a4, a5, a6⟩ := xT h1 hev
 obtain ⟨gv, fv, rfl, hso⟩ := hr
 have hok := (xQ h1 hev).1
 obtain ⟨gs, fs⟩ := src
 simp only at a1 a2
 subst a1
 subst a2
 exact ⟨f, gv, fv, rfl, hso, hok f (List.mem_singleton.2 rfl), a3, a4, a5, a6⟩
theorem AB (w : World) (hE : LawEnv w) : Calls Tryz.prog 32 #[] w fun e w' => e = .returned (.bool true) /\ Below w.heap.size w w' := by
 have HE := zz hE
 clear hE
 go_enter Tryz.func32, Tryz.ntmps32
 go_wp2_with fail
 refine (mH _ _ HE.out.tree).mono ?_
 rintro e w1 ⟨hsay, hb1⟩
 obtain ⟨f, gv, fv, rfl, hso, hok, hp, hz, hl1, hx7⟩ := u7 (by kernel_rfl) (by kernel_rfl) hsay
 clear hsay
 have hg0 : gv = .slice none 0 0 := hso.choose_spec.2.2.2.1 rfl
 subst hg0
 obtain ⟨fa, fc, rfl⟩ := kS hso.choose_spec.2.1
 have hso2 : zG (w1.alloc (.cells #[.slice none 0 0, .slice fa 1 fc] 26)) (fun b => b < (w1.alloc (.cells #[.slice none 0 0, .slice fa 1 fc] 26)).heap.size) ⟨[], [f]⟩ (.slice none 0 0) (.slice fa 1 fc) := (hso.keeps (S := fun _ => False) ((Keeps.refl _ _).alloc _) (fun _ _ e => e)).toG (fun b h1 _ => h1)
 have hbx := hb1.trans ((aG w1 #[.slice none 0 0, .slice fa 1 fc] 26).mono hb1.size)
 have HF : Hid (Calls Tryz.prog 30 #[.agg #[.slice none 0 0, .slice fa 1 fc]] (w1.alloc (.cells #[.slice none 0 0, .slice fa 1 fc] 26)) _) := zz (rB (src := ⟨[], [f]⟩) ⟨Nat.zero_le _, (by show 1 <= 1000000; decide), fun g hg => by rw [List.mem_singleton.1 hg]; exact ⟨by rw [hp]; decide, hok, by omega⟩⟩ _ (fun _ h => h) hso2.1 hso2.2)
 have HBX := zz hbx
 have HOK := zz (GU (f4 _ hok))
 have HL1 := zz hl1
 have HX7 := zz hx7
 clear hso hso2 hbx hb1 hok hp hz hl1 hx7
 have hEN := rC
 go_wp2_with fail
 refine HF.out.mono ?_
 rintro e w2 ⟨ga', gc', fa', fc', rfl, _, hfu, hb2⟩
 have hb3 := HBX.out.trans (hb2.mono HBX.out.size)
 have hfu2 : eL (w2.alloc (.cells #[.slice ga' 0 gc', .slice fa' 1 fc'] 26)) (fun b => b < (w2.alloc (.cells #[.slice ga' 0 gc', .slice fa' 1 fc'] 26)).heap.size) (.slice fa' 1 fc') [eG f] := dR (fun b h1 _ => h1) (fZ (S := fun _ => False) hfu ((Keeps.refl _ _).alloc _) (fun _ _ e => e))
 obtain ⟨g, bo, bc, q, rfl, k1, c4, k2, b4, hx⟩ := AA hfu2 HL1.out
 have hb4 := hb3.trans ((aG w2 #[.slice ga' 0 gc', .slice (some ⟨g, 0, none⟩) 1 fc'] 26).mono hb3.size)
 have HT := zz (eS (o8 (aE f.body)) HOK.out _ _ (Nat.le_refl _) (HE.out.below hb4).penv hx (by rw [HX7.out]; decide))
 rw [HX7.out] at HT
 unfold fB at HT
 have HB4 := zz hb4
 clear hfu hfu2 hx hb2 hb3 hb4
 go_wp2_with fail
 refine HT.out.mono ?_
 rintro e w4 ⟨rfl, hb5⟩
 have HB5 := zz (HB4.out.trans (hb5.mono HB4.out.size))
 clear hb5
 go_wp2_with fail
 go_ret
 have hq : ((mkT [55]).toList == [55]) = true := by rw [ByteArray.toList_eq]; exact beq_self_eq_true _
 refine ⟨?_, HB5.out⟩
 first
  | rfl
  | (show Ending.returned (.bool ((mkT [55]).toList == [55])) = _; rw [hq])
end Go.Proofs.YtnpapppipccdbaaGreatDoor
namespace Go.Proofs.YtnpapppipccdbaaGreatDoor
open Go.RowKit Lx Tr
mutual
def lwE : Ex -> Nat
 | .nil => 0
 | .mk _ _ _ _ nm l r zs => 27 + nm.length + lwE l + lwE r + nY zs
def nY : Exs -> Nat
 | .nil => 0
 | .cons x xs => 2 + lwE x + nY xs
end
mutual
theorem mI : ∀ (x : Ex) (k : Nat), bB x -> (exW k x (aH x)).length <= lwE x
 | .nil, _, _ => Nat.zero_le _
 | .mk c a n op nm l r zs, k, h => by
  have hl1 := mI l (bN op) h.2.1
  have hl2 := mI l 6 h.2.1
  have hl3 := mI l 1 h.2.1
  have hr1 := mI r (bN op + 1) h.2.2.1
  have hz := BW zs true h.2.2.2
  have hn : n <= 9223372036854775807 := h.1
  have h1 : (kM n).length <= 21 := Lib.itoa_length_le _ (by omega) (by omega)
  have h2 := u0 op
  have h3 := l9 op
  have t1 : cW.length = 5 := rfl
  have t2 : eY.length = 4 := rfl
  have t3 : iS.length = 3 := rfl
  have t4 : aM.length = 2 := rfl
  have t5 : dZ.length = 4 := rfl
  have t6 : iR.length = 3 := rfl
  have hb : (aH (.mk c a n op nm l r zs)).length + 2 <= lwE (.mk c a n op nm l r zs) := by
   rw [aH, lwE]
   split
   ·omega
   ·split
    ·split <;> omega
    ·split
     ·omega
     ·split
      ·omega
      ·split
       ·simp only [List.length_append, List.length_cons, List.length_nil]; omega
       ·split
        ·simp only [List.length_append]; omega
        ·split
         ·simp only [List.length_append]; omega
         ·split
          ·simp only [List.length_append, List.length_cons, List.length_nil]; omega
          ·split
           ·simp only [List.length_append, List.length_cons, List.length_nil]; omega
           ·split
            ·simp only [List.length_append, List.length_cons, List.length_nil]; omega
            ·simp only [List.length_nil]; omega
  unfold exW
  split
  ·exact Nat.zero_le _
  ·rename_i e
   split
   ·simp only [List.length_append, List.length_cons, List.length_nil]; omega
   ·omega
theorem BW : ∀ (zs : Exs) (f : Bool), kZ zs -> (f7 f zs).length <= nY zs
 | .nil, _, _ => Nat.zero_le _
 | .cons x xs, f, h => by
  have k1 := mI x 1 h.1
  have k2 := BW xs false h.2
  rw [f7, nY]
  cases f with
  | true => simp only [List.length_append, List.length_nil, if_true]; omega
  | false => simp only [List.length_append, List.length_cons, List.length_nil, Bool.false_eq_true, if_false]; omega
end
theorem L6 (x : Ex) : lwE x.l <= lwE x := by
 cases x with
 | nil => exact Nat.le_refl _
 | mk c a n op nm l r zs => rw [lwE]; show lwE l <= _; omega
theorem L7 (x : Ex) : lwE x.r <= lwE x := by
 cases x with
 | nil => exact Nat.le_refl _
 | mk c a n op nm l r zs => rw [lwE]; show lwE r <= _; omega
theorem AC {x : Ex} (h : x.code ≠ 0) : 27 <= lwE x := by
 cases x with
 | nil => exact absurd rfl h
 | mk c a n op nm l r zs => rw [lwE]; omega
theorem BZ (b : Bool) (a : Nat) : lwE (k9 b a) = 27 := by unfold k9; rw [lwE, lwE, nY]; rfl
theorem JO (n : Int) (a : Nat) : lwE (lF n a) <= 54 := by
 unfold lF
 split
 ·simp only [lwE, nY, List.length_nil]; omega
 ·simp only [lwE, nY, List.length_nil]; omega
theorem K0 (x : Ex) : lwE (jQ x) <= lwE x := by
 have hN : ∀ n, 54 <= lwE x -> lwE (eT x n) <= lwE x := fun n h => by
  unfold eT
  split
  ·exact Nat.le_refl _
  ·exact Nat.le_trans (JO _ _) h
 have hl := L6 x
 have hr := L7 x
 have two : x.code ≠ 0 -> x.l.code ≠ 0 -> 54 <= lwE x := fun h1 h2 => by
  cases x with
  | nil => exact absurd rfl h1
  | mk c a n op nm l r zs => rw [lwE]; have := AC (x := l) h2; omega
 unfold jQ
 split
 ·rename_i h5
  have h1 : 27 <= lwE x := AC (by omega)
  unfold p6 dM lG kX
  split
  ·split
   ·split
    ·exact hr
    ·exact hl
   ·split
    ·split
     ·exact hl
     ·exact Nat.le_refl _
    ·exact Nat.le_refl _
  ·split
   ·split
    ·split
     ·exact hr
     ·exact hl
    ·split
     ·split
      ·exact hl
      ·exact Nat.le_refl _
     ·exact Nat.le_refl _
   ·split
    ·split
     ·rename_i a b hka hkb
      split
      ·split
       ·rw [BZ]; exact h1
       ·exact hN _ (two (by omega) (kC (by rw [hka]; simp)))
      ·exact Nat.le_refl _
     ·split
      ·exact hl
      ·exact Nat.le_refl _
     ·split
      ·exact hr
      ·exact Nat.le_refl _
     ·exact Nat.le_refl _
    ·exact Nat.le_refl _
 ·split
  ·rename_i h6
   have h1 : 27 <= lwE x := AC (by omega)
   unfold oB
   split
   ·exact Nat.le_refl _
   ·split
    ·rw [BZ]; exact h1
    ·split
     ·rename_i n hk
      exact hN _ (two (by omega) (kC (by rw [hk]; simp)))
     ·exact Nat.le_refl _
  ·exact Nat.le_refl _
mutual
theorem jH : ∀ x : Ex, lwE (aK x) <= lwE x
 | .nil => Nat.le_refl _
 | .mk c a n op nm l r zs => by
  have hl := jH l
  have hr := jH r
  have hz := tS zs
  rw [aK]
  refine Nat.le_trans (K0 _) ?_
  rw [lwE, lwE]
  omega
theorem tS : ∀ xs : Exs, nY (aU xs) <= nY xs
 | .nil => Nat.le_refl _
 | .cons x xs => by
  have := jH x
  have := tS xs
  rw [aU, nY, nY]
  omega
end
mutual
def lwS : Nat -> St -> Nat
 | d, .mk _ _ nm x v t e cs => 6 * d + 48 + nm.length + lwE x + lwE v + kT (d + 1) t + kT (d + 1) e + oT d cs
def kT : Nat -> Sts -> Nat
 | _, .nil => 0
 | d, .cons s ss => lwS d s + kT d ss
def lwC : Nat -> Ca -> Nat
 | d, .mk _ _ nm x v b => 2 * d + 32 + nm.length + lwE x + lwE v + kT (d + 1) b
def oT : Nat -> Cas -> Nat
 | _, .nil => 0
 | d, .cons c cs => lwC d c + oT d cs
end
theorem B0 {x y : Ex} (hx : bB x) (hy : bB y) : (cY x y).length <= lwE x + (4 + lwE y) := by
 have h1 : (exV 6 x).length <= _ := mI x 6 hx
 have h2 : (exV 1 y).length <= _ := mI y 1 hy
 unfold cY
 simp only [List.length_append, List.length_cons, List.length_nil]
 omega
theorem JP (code : Nat) (nm : Lx.B) {x y : Ex} (hx : bB x) (hy : bB y) : (dG code nm x y).length <= 20 + nm.length + lwE x + lwE y := by
 have h1 : (exV 6 x).length <= _ := mI x 6 hx
 have h2 := B0 hx hy
 unfold dG
 split
 ·simp only [List.length_append, jE, List.length_cons, List.length_nil]; omega
 ·split
  ·split
   ·simp only [List.length_append, fY, List.length_cons, List.length_nil]; omega
   ·simp only [List.length_append, jE, iH, List.length_cons, List.length_nil]; omega
  ·simp only [lS, List.length_cons, List.length_nil]; omega
theorem JQ (d : Nat) {v : Ex} (hv : bB v) : (iP d v).length <= 2 * d + 8 + lwE v := by
 have h2 : (exV 1 v).length <= _ := mI v 1 hv
 unfold iP
 split
 ·rw [aD]; simp only [fC, List.length_cons, List.length_nil]; omega
 ·rw [aD]; simp only [d9, List.length_append, List.length_cons, List.length_nil]; omega
mutual
theorem LO : ∀ (s : St) (d : Nat), qC s -> (stV d s).length <= lwS d s
 | .mk c a nm x v t e cs, d, h => by
  obtain ⟨h1, h2, h3, h4, h5⟩ := h
  have k2 : (exV 1 v).length <= _ := mI v 1 h2
  have ks := B0 h1 h2
  have kg := JQ d h2
  have k3 := rD t (d + 1) h3
  have k4 := rD e (d + 1) h4
  have k5 := GV cs d h5
  have he : (if e.len = 0 then [] else aC d iO ++ bG (d + 1) e).length <= 2 * d + 9 + kT (d + 1) e := by
   split
   ·exact Nat.zero_le _
   ·rw [List.length_append, aD]; simp only [iO, List.length_cons, List.length_nil]; omega
  have q1 : mW.length = 4 := rfl
  have q2 : mX.length = 3 := rfl
  have q3 : fR.length = 6 := rfl
  have q4 : cRp.length = 1 := rfl
  have q5 : fS.length = 6 := rfl
  have q6 : fT.length = 6 := rfl
  have q7 : cGo.length = 3 := rfl
  have q8 : jR.length = 5 := rfl
  have q9 : dW.length = 8 := rfl
  have r1 : cIf.length = 3 := rfl
  have r2 : cV.length = 2 := rfl
  have r3 : rT.length = 4 := rfl
  have r4 : cF.length = 1 := rfl
  have r5 : cG.length = 8 := rfl
  rw [stV, lwS]
  generalize (if e.len = 0 then [] else aC d iO ++ bG (d + 1) e) = X at *
  generalize iP d v = Y at *
  generalize cY x v = Z at *
  by_cases c1 : c = 1
  ·rw [if_pos c1]
   (try simp only [List.length_append, aD])
   omega
  rw [if_neg c1]
  by_cases c2 : c = 2
  ·rw [if_pos c2]
   (try simp only [List.length_append, aD])
   omega
  rw [if_neg c2]
  by_cases c3 : c = 3
  ·rw [if_pos c3, aD]
   omega
  rw [if_neg c3]
  by_cases c4 : c = 4
  ·rw [if_pos c4]
   (try simp only [List.length_append, aD])
   omega
  rw [if_neg c4]
  by_cases c5 : c = 5
  ·rw [if_pos c5]
   (try simp only [List.length_append, aD])
   omega
  rw [if_neg c5]
  by_cases c6 : c = 6
  ·rw [if_pos c6]
   (try simp only [List.length_append, aD])
   omega
  rw [if_neg c6]
  by_cases c7 : c = 7
  ·rw [if_pos c7]
   (try simp only [List.length_append, aD])
   omega
  rw [if_neg c7]
  by_cases c8 : c = 8
  ·rw [if_pos c8]
   omega
  rw [if_neg c8]
  by_cases c9 : c = 9
  ·rw [if_pos c9, aD]
   omega
  rw [if_neg c9]
  by_cases c10 : c = 10
  ·rw [if_pos c10, aD]
   omega
  rw [if_neg c10]
  by_cases c11 : c = 11
  ·rw [if_pos c11, aD]
   omega
  rw [if_neg c11]
  by_cases c12 : c = 12
  ·rw [if_pos c12]
   (try simp only [List.length_append, aD])
   omega
  rw [if_neg c12]
  by_cases c13 : c = 13
  ·rw [if_pos c13]
   (try simp only [List.length_append, aD])
   omega
  rw [if_neg c13]
  by_cases c14 : c = 14
  ·rw [if_pos c14]
   (try simp only [List.length_append, aD])
   omega
  rw [if_neg c14]
  rw [List.length_nil]; omega
theorem rD : ∀ (ss : Sts) (d : Nat), eV ss -> (bG d ss).length <= kT d ss
 | .nil, _, _ => Nat.zero_le _
 | .cons s ss, d, h => by
  have k1 := LO s d h.1
  have k2 := rD ss d h.2
  rw [bG, kT, List.length_append]
  omega
theorem LP : ∀ (s : Ca) (d : Nat), vW s -> (caV d s).length <= lwC d s
 | .mk c a nm x v b, d, h => by
  obtain ⟨h1, h2, h3⟩ := h
  have k1 := JP c nm h1 h2
  have k2 := rD b (d + 1) h3
  rw [caV, lwC, List.length_append, aD]
  simp only [kQ, List.length_append, List.length_cons, List.length_nil]
  omega
theorem GV : ∀ (ss : Cas) (d : Nat), mE ss -> (jS d ss).length <= oT d ss
 | .nil, _, _ => Nat.zero_le _
 | .cons s ss, d, h => by
  have k1 := LP s d h.1
  have k2 := GV ss d h.2
  rw [jS, oT, List.length_append]
  omega
end
theorem K1 (d : Nat) : ∀ s y : St, p7 s = some y -> lwS d y <= lwS d s
 | .mk c a nm x v t e cs, y, h => by
  have h0 : ∀ d, kT d .nil = 0 := fun d => by rw [kT]
  rw [fK] at h
  split at h
  ·obtain rfl := Option.some.inj h; exact Nat.le_refl _
  ·split at h
   ·split at h
    ·obtain rfl := Option.some.inj h; exact Nat.le_refl _
    ·cases h
   ·split at h
    ·split at h
     ·obtain rfl := Option.some.inj h
      rw [lwS, lwS, h0]; omega
     ·cases h
    ·split at h
     ·split at h
      ·obtain rfl := Option.some.inj h
       rw [lwS, lwS, h0]; omega
      ·cases h
     ·obtain rfl := Option.some.inj h; exact Nat.le_refl _
mutual
theorem GW : ∀ (s : St) (d : Nat) (y : St), cO s = some y -> lwS d y <= lwS d s
 | .mk c a nm x v t e cs, d, y, h => by
  rw [cO] at h
  refine Nat.le_trans (K1 d _ _ h) ?_
  have h1 := jH x
  have h2 := jH v
  have h3 := j4 t (d + 1)
  have h4 := j4 e (d + 1)
  have h5 := tT cs d
  rw [lwS, lwS]
  omega
theorem j4 : ∀ (ss : Sts) (d : Nat), kT d (aE ss) <= kT d ss
 | .nil, _ => by rw [aE]; exact Nat.le_refl _
 | .cons s ss, d => by
  have hs := GW s d
  have hss := j4 ss d
  rw [aE]
  split
  ·rename_i y hy
   have := hs y hy
   rw [kT, kT]; omega
  ·rw [kT]; omega
theorem GX : ∀ (c : Ca) (d : Nat), lwC d (eU c) <= lwC d c
 | .mk c a nm x v b, d => by
  have h1 := jH x
  have h2 := jH v
  have h3 := j4 b (d + 1)
  rw [eU, lwC, lwC]; omega
theorem tT : ∀ (cs : Cas) (d : Nat), oT d (aT cs) <= oT d cs
 | .nil, _ => by rw [aT]; exact Nat.le_refl _
 | .cons c cs, d => by
  have h1 := GX c d
  have h2 := tT cs d
  rw [aT, oT, oT]; omega
end
end Go.Proofs.YtnpapppipccdbaaGreatDoor
namespace Go.Proofs.YtnpapppipccdbaaGreatDoor
namespace Tr
open Lx
structure WordT (k : Nat) (t : B) : Prop where
 whole : bD t = t.length
 letter : 0 < bS t
 kind : k = if j9 t then 2 else 1
 short : k = 1 -> t.length <= 12
theorem WordT.ne {k : Nat} {t : B} (h : WordT k t) : t ≠ [] := fun e => by
 have := h.letter
 rw [e] at this
 exact absurd this (by decide)
structure NumT (t : B) : Prop where
 digits : jU t = t.length
 pos : t ≠ []
 zero : 1 < t.length -> t.head? ≠ some 48
 small : dY t <= 9223372036854775807
theorem GY (d : Nat) (h : d < 10) : cI (UInt8.ofNat (48 + d)) = true /\ (UInt8.ofNat (48 + d)).toNat - 48 = d := by
 have : ∀ d, d < 10 -> cI (UInt8.ofNat (48 + d)) = true /\ (UInt8.ofNat (48 + d)).toNat - 48 = d := by decide
 exact this d h
end Tr
end Go.Proofs.YtnpapppipccdbaaGreatDoor
namespace Go.Proofs.YtnpapppipccdbaaGreatDoor
open Lx Tr
namespace Tr
theorem EE (l : B) (c : UInt8) : dY (l ++ [c]) = dY l * 10 + (c.toNat - 48) := by
 unfold dY
 rw [List.foldl_append]
 rfl
theorem xW : ∀ {l : B}, (∀ c ∈ l, cI c = true) -> jU l = l.length
 | [], _ => rfl
 | c :: r, h => by rw [n8 (h c (List.mem_cons_self ..)), xW (fun x hx => h x (List.mem_cons_of_mem _ hx)), List.length_cons]
theorem JR (k : Nat) : ∀ n, n <= k -> (∀ c ∈ Lib.decDigits n, cI c = true) /\ Lib.decDigits n ≠ [] /\ dY (Lib.decDigits n) = n /\ (10 <= n -> (Lib.decDigits n).head? ≠ some 48 /\ 1 < (Lib.decDigits n).length) /\ (n < 10 -> (Lib.decDigits n).length = 1) /\ (0 < n -> (Lib.decDigits n).head? ≠ some 48) := by
 induction k with
 | zero =>
  intro n hn
  obtain rfl : n = 0 := by omega
  rw [Lib.decDigits, dif_pos (by decide)]
  refine ⟨fun c hc => ?_, by simp, by decide, fun h => absurd h (by decide), fun _ => rfl, fun h => absurd h (by decide)⟩
  rw [List.mem_singleton.1 hc]
  decide
 | succ k ih =>
  intro n hn
  by_cases h : n < 10
  ·rw [Lib.decDigits, dif_pos h]
   obtain ⟨q1, q2⟩ := GY n h
   refine ⟨fun c hc => ?_, by simp, ?_, fun h2 => absurd h2 (by omega), fun _ => rfl, fun h2 e => ?_⟩
   ·rw [List.mem_singleton.1 hc]; exact q1
   ·show 0 * 10 + ((UInt8.ofNat (48 + n)).toNat - 48) = n
    rw [q2]; omega
   ·have e2 : UInt8.ofNat (48 + n) = 48 := Option.some.inj e
    have e3 : (UInt8.ofNat (48 + n)).toNat - 48 = 0 := by rw [e2]; rfl
    omega
  ·rw [Lib.decDigits, dif_neg h]
   obtain ⟨a1, a2, a3, a4, a5, a6⟩ := ih (n / 10) (by omega)
   obtain ⟨q1, q2⟩ := GY (n % 10) (by omega)
   have hh : (Lib.decDigits (n / 10) ++ [UInt8.ofNat (48 + n % 10)]).head? = (Lib.decDigits (n / 10)).head? := by
    cases hq : Lib.decDigits (n / 10) with
    | nil => exact absurd hq a2
    | cons x xs => rfl
   have hlen : 0 < (Lib.decDigits (n / 10)).length := List.length_pos_iff.2 a2
   refine ⟨fun c hc => ?_, by simp, ?_, fun _ => ⟨by rw [hh]; exact a6 (by omega), by rw [List.length_append]; simp; omega⟩, fun h2 => absurd h2 (by omega), fun _ => by rw [hh]; exact a6 (by omega)⟩
   ·rcases List.mem_append.1 hc with hc | hc
    ·exact a1 c hc
    ·rw [List.mem_singleton.1 hc]; exact q1
   ·rw [EE, a3, q2]; omega
theorem K4 (n : Nat) (h : n <= 9223372036854775807) : NumT (kM n) /\ dY (kM n) = n := by
 have e : kM n = Lib.decDigits n := by
  unfold kM Lib.itoa
  rw [if_neg (by omega)]
  rfl
 obtain ⟨a1, a2, a3, a4, a5, a6⟩ := JR n n (Nat.le_refl _)
 rw [e]
 refine ⟨⟨xW a1, a2, fun h1 => ?_, by rw [a3]; exact h⟩, a3⟩
 by_cases h2 : n < 10
 ·rw [a5 h2] at h1; exact absurd h1 (by decide)
 ·exact (a4 (by omega)).1
def brk (least : Nat) (x : Ex) : Nat := match x with
 | .nil => 0
 | .mk code _ _ op _ _ _ _ => if code = 5 /\ bN op < least then 1 else 0
mutual
def bJ : Ex -> Nat -> Prop
 | .nil, _ => False
 | .mk code _ n op nm l r zs, d => d <= 12 /\ (
  (code = 1 /\ n <= 9223372036854775807 /\ op = 0 /\ nm = [] /\ l = .nil /\ r = .nil /\ zs = .nil) ∨
  (code = 2 /\ n <= 1 /\ op = 0 /\ nm = [] /\ l = .nil /\ r = .nil /\ zs = .nil) ∨
  (code = 3 /\ n = 0 /\ op = 0 /\ nm = [] /\ l = .nil /\ r = .nil /\ zs = .nil) ∨
  (code = 4 /\ n = 0 /\ op = 0 /\ WordT 1 nm /\ l = .nil /\ r = .nil /\ zs = .nil) ∨
  (code = 5 /\ n = 0 /\ nm = [] /\ zs = .nil /\ 1 <= bN op /\ bJ l (d + brk (bN op) l) /\ bJ r (d + brk (bN op + 1) r)) ∨
  (code = 6 /\ n = 0 /\ nm = [] /\ r = .nil /\ zs = .nil /\ (op = 17 \/ op = 18 \/ op = 19) /\ bJ l (d + 1 + brk 6 l)) ∨
  (code = 10 /\ n = 0 /\ op = 0 /\ nm = [] /\ r = .nil /\ zs = .nil /\ bJ l (d + 1 + brk 6 l)) ∨
  ((code = 8 \/ code = 9) /\ n = 0 /\ op = 0 /\ nm = [] /\ r = .nil /\ zs = .nil /\ bJ l (d + 1)) ∨
  (code = 7 /\ n = 0 /\ op = 0 /\ WordT 1 nm /\ l = .nil /\ r = .nil /\ dS zs (d + 1)))
def dS : Exs -> Nat -> Prop
 | .nil, _ => True
 | .cons x xs, d => bJ x d /\ dS xs d
end
theorem u9 {least code a n op : Nat} {nm : B} {l r : Ex} {zs : Exs} (h : code = 5 /\ bN op < least) : brk least (.mk code a n op nm l r zs) = 1 := if_pos h
theorem jT {least code a n op : Nat} {nm : B} {l r : Ex} {zs : Exs} (h : ¬ (code = 5 /\ bN op < least)) : brk least (.mk code a n op nm l r zs) = 0 := if_neg h
def eN (x : Ex) (d : Nat) : Prop := bJ x (d + brk 6 x)
mutual
def eW : St -> Nat -> Prop
 | .mk code _ name dst val thn els cases, dep =>
  ((code = 1 \/ code = 2) /\ WordT 1 name /\ dst = .nil /\ bJ val 0 /\ thn = .nil /\ els = .nil /\ cases = .nil) ∨
  (code = 3 /\ name = [] /\ eN dst 0 /\ bJ val 0 /\ thn = .nil /\ els = .nil /\ cases = .nil) ∨
  (code = 4 /\ name = [] /\ dst = .nil /\ bJ val 1 /\ thn = .nil /\ els = .nil /\ cases = .nil) ∨
  ((code = 5 \/ code = 6) /\ name = [] /\ dst = .nil /\ bJ val 0 /\ thn = .nil /\ els = .nil /\ cases = .nil) ∨
  (code = 7 /\ name = [] /\ dst = .nil /\ bJ val 0 /\ codeOf val = 7 /\ thn = .nil /\ els = .nil /\ cases = .nil) ∨
  (code = 8 /\ name = [] /\ dst = .nil /\ (val = .nil \/ bJ val 0) /\ thn = .nil /\ els = .nil /\ cases = .nil) ∨
  ((code = 9 \/ code = 10) /\ name = [] /\ dst = .nil /\ val = .nil /\ thn = .nil /\ els = .nil /\ cases = .nil) ∨
  (code = 11 /\ name = [] /\ dst = .nil /\ bJ val 0 /\ (codeOf val = 7 \/ codeOf val = 10) /\ thn = .nil /\ els = .nil /\ cases = .nil) ∨
  (code = 12 /\ name = [] /\ dst = .nil /\ bJ val 0 /\ dep < 12 /\ dT thn (dep + 1) /\ dT els (dep + 1) /\ cases = .nil) ∨
  (code = 13 /\ name = [] /\ dst = .nil /\ bJ val 0 /\ dep < 12 /\ dT thn (dep + 1) /\ els = .nil /\ cases = .nil) ∨
  (code = 14 /\ name = [] /\ dst = .nil /\ val = .nil /\ thn = .nil /\ els = .nil /\ dep < 12 /\ cases.len <= 6 /\ gK cases (dep + 1))
def dT : Sts -> Nat -> Prop
 | .nil, _ => True
 | .cons x xs, dep => eW x dep /\ dT xs dep
def rE : Ca -> Nat -> Prop
 | .mk code _ name dst val body, dep =>
  ((code = 3 /\ name = [] /\ eN dst 0 /\ bJ val 0) \/ (code = 10 /\ name = [] /\ eN dst 1 /\ val = .nil) \/ (code = 10 /\ WordT 1 name /\ eN dst 0 /\ val = .nil) \/ (code = 40 /\ name = [] /\ dst = .nil /\ val = .nil)) /\ dT body dep
def gK : Cas -> Nat -> Prop
 | .nil, _ => True
 | .cons x xs, dep => rE x dep /\ gK xs dep
end
theorem Cas.len_snocT : ∀ (xs : Cas) (y : Ca), (xs.snoc y).len = xs.len + 1
 | .nil, _ => rfl
 | .cons _ xs, y => congrArg (· + 1) (Cas.len_snocT xs y)
def B1 (p : Pa) : Prop := WordT 1 p.name /\ 1 <= p.kind /\ p.kind <= 3
structure GoodF (g : Fu) : Prop where
 name : WordT 1 g.name
 params : ∀ p ∈ g.params, B1 p
 kind : g.kind <= 3
 body : dT g.body 1
structure GoodSrc (s : Src) : Prop where
 gls : ∀ g ∈ s.globals, WordT 1 g.name
 fus : ∀ g ∈ s.funcs, GoodF g
 ng : s.globals.length <= 8
 nf : s.funcs.length <= 12
end Tr
end Go.Proofs.YtnpapppipccdbaaGreatDoor
