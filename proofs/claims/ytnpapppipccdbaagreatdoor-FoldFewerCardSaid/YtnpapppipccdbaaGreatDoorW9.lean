/-
  Texts of one proof, in build order: LexLaid FoldLaid
-/
import Derived.Test.YtnpapppipccdbaaGreatDoorW8
import Derived.Test.YtnpapppipccdbaaGreatDoorTie
import Derived.PinnedBridge
import Derived.LaidMore
import Derived.Lib.LaidTab
import Derived.Lib.LaidU8
import Derived.MakeChecks
set_option maxRecDepth 100000
set_option maxHeartbeats 12800000
namespace Go.Proofs.YtnpapppipccdbaaGreatDoor
open Go.RowKit Lx
theorem rR {H : Type} {enc : TypeId × Value -> H} {P : Program} {w : World} {base : Nat} {sp : Nat -> Bool} {fuel : Nat} {t : TypeId} {cs : List Value} {name : String} {d : DataW H} {p : List MemPlace}
  (ht : ∃ ms, P.underlying t = some (.interface ms)) (h : DataW.trod enc P w base sp false fuel t cs = some (.iface name d, p)) : ∃ u v, cs = [.iface u v] := by
 cases fuel with
 | zero => simp [DataW.trod] at h
 | succ fuel =>
  obtain ⟨ms, ht⟩ := ht
  match cs with
  | [] => simp [DataW.trod, ht] at h
  | a :: b :: r => simp [DataW.trod, ht] at h
  | [a] =>
   cases a <;> first | exact ⟨_, _, rfl⟩ | (simp [DataW.trod, ht] at h; done)
theorem xU8 : Go.Proofs.U8Extra Tryz.prog Tryz.lays260_ren := ⟨by kernel_rfl, by kernel_rfl, by kernel_rfl, by kernel_rfl, by kernel_rfl, by kernel_rfl, by kernel_rfl⟩
theorem JC : Tryz.prog.globalNamed "sluiceway/lex.signs" = some 3 := by kernel_rfl
theorem KY : (Tryz.prog.globals[3]?).map (·.type) = some 249 := by kernel_rfl
theorem KZ : Tryz.prog.cellsOf 249 = 28 := by kernel_rfl
theorem LH : Tryz.prog.cellsOf 9 = 1 := by kernel_rfl
theorem JD : Tryz.prog.globalNamed "strconv.ErrRange" = some 11 := by kernel_rfl
theorem K0 : (Tryz.prog.globals[11]?).map (·.type) = some 35 := by kernel_rfl
theorem DW {W : World} {l : List (String × DataW Unit)} (h : laidMet Tryz.prog l W) (m1 : ("unicode/utf8.first", Rows.laid_unicode_utf8_first) ∈ l) (m2 : ("unicode/utf8.acceptRanges", Rows.laid_unicode_utf8_acceptRanges) ∈ l)
  (m3 : ("strconv.ErrRange", Rows.laid_strconv_ErrRange) ∈ l) (m4 : ("sluiceway/lex.signs", Rows.laid_sluiceway_lex_signs) ∈ l) : LexEnv W.heap.size W := by
 have r1 := Go.Lib.laidMet.reads h m1
 have r2 := Go.Lib.laidMet.reads h m2
 have r3 := Go.Lib.laidMet.reads h m3
 have r4 := Go.Lib.laidMet.reads h m4
 have hT : Tabs W := Go.Proofs.utf8Tabs_of_reads Tryz.lays260 xU8 (Pinned.utf8First_eq ▸ r1) (show Go.Lib.VarReads Tryz.prog W "unicode/utf8.acceptRanges" Go.Lib.acceptData from r2)
 have hE : GX W := by
  obtain ⟨g, t, cs, fuel, p, hg, hty, hvar, hd⟩ := r3
  obtain rfl := Option.some.inj (JD.symm.trans hg)
  obtain rfl := Option.some.inj (K0.symm.trans hty)
  obtain ⟨u, v, hcs⟩ := rR ⟨_, Tryz.underlying35⟩ hd
  refine ⟨u, v, ?_⟩
  have := World.var?_cell JD hvar 0
  rw [this, <- Array.getElem?_toList, hcs]
  rfl
 have hS : Sgs W := by
  obtain ⟨g, t, cs, fuel, p, hg, hty, hvar, hd⟩ := r4
  obtain rfl := Option.some.inj (JC.symm.trans hg)
  obtain rfl := Option.some.inj (KY.symm.trans hty)
  have hcs := iX (zs := fI) Tryz.underlying249 Tryz.underlying9 LH KZ hd
  intro n hn
  have := World.var?_cell JC hvar n
  rw [this, <- Array.getElem?_toList, hcs, List.getElem?_map, List.getD_eq_getElem?_getD]
  have hl : n < fI.length := hn
  rw [List.getElem?_eq_getElem hl]
  rfl
 exact ⟨hT, hE, hS, hT.lt.1, hT.lt.2, by obtain ⟨tp, p, hc⟩ := hE; exact block_lt_of_cell hc, block_lt_of_cell (hS 0 (by decide))⟩
theorem K1 : (Tryz.prog.globals[4]?).map (·.type) = some 271 := by kernel_rfl
theorem zV : Tryz.prog.cellsOf 238 = 1 := by kernel_rfl
theorem zW : Tryz.prog.cellsOf 271 = 20 := by kernel_rfl
theorem BH : Tryz.prog.globalNamed "sluiceway/tree.kinds" = some 2 := by kernel_rfl
theorem I3 : (Tryz.prog.globals[2]?).map (·.type) = some 234 := by kernel_rfl
theorem vA : Tryz.prog.cellsOf 234 = 4 := by kernel_rfl
theorem DX {W : World} {l : List (String × DataW Unit)} (h : laidMet Tryz.prog l W) (m1 : ("unicode/utf8.first", Rows.laid_unicode_utf8_first) ∈ l) (m2 : ("unicode/utf8.acceptRanges", Rows.laid_unicode_utf8_acceptRanges) ∈ l)
  (m3 : ("strconv.ErrRange", Rows.laid_strconv_ErrRange) ∈ l) (m4 : ("sluiceway/lex.signs", Rows.laid_sluiceway_lex_signs) ∈ l) (m5 : ("sluiceway/arith.signs", Rows.laid_sluiceway_arith_signs) ∈ l) (m6 : ("sluiceway/tree.kinds", Rows.laid_sluiceway_tree_kinds) ∈ l) (hP : PowT W) : LawEnv W := by
 have hl : LexEnv W.heap.size W := DW h m1 m2 m3 m4
 have r5 := Go.Lib.laidMet.reads h m5
 have r6 := Go.Lib.laidMet.reads h m6
 have hS : kE W := by
  obtain ⟨g, t, cs, fuel, p, hg, hty, hvar, hd⟩ := r5
  obtain rfl := Option.some.inj (D0.symm.trans hg)
  obtain rfl := Option.some.inj (JE.symm.trans hty)
  have hcs := iX (zs := nN) Tryz.underlying294 Tryz.underlying9 mO vE hd
  intro n hn
  have := World.var?_cell D0 hvar n
  rw [this, <- Array.getElem?_toList, hcs, List.getElem?_map]
  unfold cL
  rw [List.getD_eq_getElem?_getD]
  have hl : n < nN.length := hn
  rw [List.getElem?_eq_getElem hl]
  rfl
 have hK : nV W := by
  obtain ⟨g, t, cs, fuel, p, hg, hty, hvar, hd⟩ := r6
  obtain rfl := Option.some.inj (BH.symm.trans hg)
  obtain rfl := Option.some.inj (I3.symm.trans hty)
  have hcs := iX (zs := g8) Tryz.underlying234 Tryz.underlying9 mO vA hd
  intro n hn
  have := World.var?_cell BH hvar n
  rw [this, <- Array.getElem?_toList, hcs, List.getElem?_map, List.getD_eq_getElem?_getD]
  have hl : n < g8.length := hn
  rw [List.getElem?_eq_getElem hl]
  rfl
 exact ⟨⟨hl, hS, hK, block_lt_of_cell (hS 0 (by decide)), block_lt_of_cell (hK 0 (by decide))⟩, hP, block_lt_of_cell (World.var?_cell FI hP 0)⟩
theorem rA {W : World} (h : laidMetH Tryz.prog Rows.foldFewerRow.laid W) : LawEnv W := by
 rw [MakeChecks.laidMetH_plain _ _ _ (by kernel_rfl)] at h
 have hP : PowT W := Lib.tabIs_of_head (rest := []) FI K1 Tryz.underlying271 Tryz.underlying238 zV zW (h.filter fun x => x.1 == "internal/strconv.uint64pow10")
 exact DX h (by repeat' first | exact .head _ | apply List.Mem.tail) (by repeat' first | exact .head _ | apply List.Mem.tail) (by repeat' first | exact .head _ | apply List.Mem.tail) (by repeat' first | exact .head _ | apply List.Mem.tail) (by repeat' first | exact .head _ | apply List.Mem.tail) (by repeat' first | exact .head _ | apply List.Mem.tail) hP
end Go.Proofs.YtnpapppipccdbaaGreatDoor
