/-
  Texts of one proof, in build order: LexLaid FoldLaid
-/
import Derived.Test.YtnpapppipccdbaaGreatDoorU9
import Derived.Test.YtnpapppipccdbaaGreatDoorTie
import Derived.PinnedBridge
import Derived.LaidMore
import Derived.Lib.LaidTab
import Derived.Lib.LaidU8
import Derived.MakeChecks
set_option maxRecDepth 100000
set_option maxHeartbeats 12800000
namespace Go.Proofs.YtnpapppipccdbaaGreatDoor
open Go.RowKit Lx
theorem rZ {H : Type} {enc : TypeId × Value -> H} {P : Program} {w : World} {base : Nat} {sp : Nat -> Bool} {fuel : Nat} {t : TypeId} {cs : List Value} {name : String} {d : DataW H} {p : List MemPlace}
  (ht : ∃ ms, P.underlying t = some (.interface ms)) (h : DataW.trod enc P w base sp false fuel t cs = some (.iface name d, p)) : ∃ u v, cs = [.iface u v] := by
 cases fuel with
 | zero => simp [DataW.trod] at h
 | succ fuel =>
  obtain ⟨ms, ht⟩ := ht
  match cs with
  | [] => simp [DataW.trod, ht] at h
  | a :: b :: r => simp [DataW.trod, ht] at h
  | [a] =>
   cases a <;> first | exact ⟨_, _, rfl⟩ | (simp [DataW.trod, ht] at h; done)
theorem xU8 : Go.Proofs.U8Extra Tryz.prog Tryz.lays260_ren := ⟨by kernel_rfl, by kernel_rfl, by kernel_rfl, by kernel_rfl, by kernel_rfl, by kernel_rfl, by kernel_rfl⟩
theorem J5 : Tryz.prog.globalNamed "sluiceway/lex.signs" = some 3 := by kernel_rfl
theorem LX : (Tryz.prog.globals[3]?).map (·.type) = some 249 := by kernel_rfl
theorem LY : Tryz.prog.cellsOf 249 = 28 := by kernel_rfl
theorem MG : Tryz.prog.cellsOf 9 = 1 := by kernel_rfl
theorem J6 : Tryz.prog.globalNamed "strconv.ErrRange" = some 11 := by kernel_rfl
theorem LZ : (Tryz.prog.globals[11]?).map (·.type) = some 35 := by kernel_rfl
theorem EH {W : World} {l : List (String × DataW Unit)} (h : laidMet Tryz.prog l W) (m1 : ("unicode/utf8.first", Rows.laid_unicode_utf8_first) ∈ l) (m2 : ("unicode/utf8.acceptRanges", Rows.laid_unicode_utf8_acceptRanges) ∈ l)
  (m3 : ("strconv.ErrRange", Rows.laid_strconv_ErrRange) ∈ l) (m4 : ("sluiceway/lex.signs", Rows.laid_sluiceway_lex_signs) ∈ l) : LexEnv W.heap.size W := by
 have r1 := Go.Lib.laidMet.reads h m1
 have r2 := Go.Lib.laidMet.reads h m2
 have r3 := Go.Lib.laidMet.reads h m3
 have r4 := Go.Lib.laidMet.reads h m4
 have hT : Tabs W := Go.Proofs.utf8Tabs_of_reads Tryz.lays260 xU8 (Pinned.utf8First_eq ▸ r1) (show Go.Lib.VarReads Tryz.prog W "unicode/utf8.acceptRanges" Go.Lib.acceptData from r2)
 have hE : IR W := by
  obtain ⟨g, t, cs, fuel, p, hg, hty, hvar, hd⟩ := r3
  obtain rfl := Option.some.inj (J6.symm.trans hg)
  obtain rfl := Option.some.inj (LZ.symm.trans hty)
  obtain ⟨u, v, hcs⟩ := rZ ⟨_, Tryz.underlying35⟩ hd
  refine ⟨u, v, ?_⟩
  have := World.var?_cell J6 hvar 0
  rw [this, <- Array.getElem?_toList, hcs]
  rfl
 have hS : Sgs W := by
  obtain ⟨g, t, cs, fuel, p, hg, hty, hvar, hd⟩ := r4
  obtain rfl := Option.some.inj (J5.symm.trans hg)
  obtain rfl := Option.some.inj (LX.symm.trans hty)
  have hcs := jO (zs := f9) Tryz.underlying249 Tryz.underlying9 MG LY hd
  intro n hn
  have := World.var?_cell J5 hvar n
  rw [this, <- Array.getElem?_toList, hcs, List.getElem?_map, List.getD_eq_getElem?_getD]
  have hl : n < f9.length := hn
  rw [List.getElem?_eq_getElem hl]
  rfl
 exact ⟨hT, hE, hS, hT.lt.1, hT.lt.2, by obtain ⟨tp, p, hc⟩ := hE; exact block_lt_of_cell hc, block_lt_of_cell (hS 0 (by decide))⟩
theorem L0 : (Tryz.prog.globals[4]?).map (·.type) = some 271 := by kernel_rfl
theorem AK : Tryz.prog.cellsOf 238 = 1 := by kernel_rfl
theorem AL : Tryz.prog.cellsOf 271 = 20 := by kernel_rfl
theorem B4 : Tryz.prog.globalNamed "sluiceway/tree.kinds" = some 2 := by kernel_rfl
theorem JW : (Tryz.prog.globals[2]?).map (·.type) = some 234 := by kernel_rfl
theorem vB : Tryz.prog.cellsOf 234 = 4 := by kernel_rfl
theorem EI {W : World} {l : List (String × DataW Unit)} (h : laidMet Tryz.prog l W) (m1 : ("unicode/utf8.first", Rows.laid_unicode_utf8_first) ∈ l) (m2 : ("unicode/utf8.acceptRanges", Rows.laid_unicode_utf8_acceptRanges) ∈ l)
  (m3 : ("strconv.ErrRange", Rows.laid_strconv_ErrRange) ∈ l) (m4 : ("sluiceway/lex.signs", Rows.laid_sluiceway_lex_signs) ∈ l) (m5 : ("sluiceway/arith.signs", Rows.laid_sluiceway_arith_signs) ∈ l) (m6 : ("sluiceway/tree.kinds", Rows.laid_sluiceway_tree_kinds) ∈ l) (hP : PowT W) : LawEnv W := by
 have hl : LexEnv W.heap.size W := EH h m1 m2 m3 m4
 have r5 := Go.Lib.laidMet.reads h m5
 have r6 := Go.Lib.laidMet.reads h m6
 have hS : lB W := by
  obtain ⟨g, t, cs, fuel, p, hg, hty, hvar, hd⟩ := r5
  obtain rfl := Option.some.inj (EL.symm.trans hg)
  obtain rfl := Option.some.inj (J7.symm.trans hty)
  have hcs := jO (zs := n9) Tryz.underlying294 Tryz.underlying9 nC vF hd
  intro n hn
  have := World.var?_cell EL hvar n
  rw [this, <- Array.getElem?_toList, hcs, List.getElem?_map]
  unfold cQ
  rw [List.getD_eq_getElem?_getD]
  have hl : n < n9.length := hn
  rw [List.getElem?_eq_getElem hl]
  rfl
 have hK : mM W := by
  obtain ⟨g, t, cs, fuel, p, hg, hty, hvar, hd⟩ := r6
  obtain rfl := Option.some.inj (B4.symm.trans hg)
  obtain rfl := Option.some.inj (JW.symm.trans hty)
  have hcs := jO (zs := gG) Tryz.underlying234 Tryz.underlying9 nC vB hd
  intro n hn
  have := World.var?_cell B4 hvar n
  rw [this, <- Array.getElem?_toList, hcs, List.getElem?_map, List.getD_eq_getElem?_getD]
  have hl : n < gG.length := hn
  rw [List.getElem?_eq_getElem hl]
  rfl
 exact ⟨⟨hl, hS, hK, block_lt_of_cell (hS 0 (by decide)), block_lt_of_cell (hK 0 (by decide))⟩, hP, block_lt_of_cell (World.var?_cell FZ hP 0)⟩
theorem rH {W : World} (h : laidMetH Tryz.prog Rows.foldAgainRow.laid W) : LawEnv W := by
 rw [MakeChecks.laidMetH_plain _ _ _ (by kernel_rfl)] at h
 have hP : PowT W := Lib.tabIs_of_head (rest := []) FZ L0 Tryz.underlying271 Tryz.underlying238 AK AL (h.filter fun x => x.1 == "internal/strconv.uint64pow10")
 exact EI h (by repeat' first | exact .head _ | apply List.Mem.tail) (by repeat' first | exact .head _ | apply List.Mem.tail) (by repeat' first | exact .head _ | apply List.Mem.tail) (by repeat' first | exact .head _ | apply List.Mem.tail) (by repeat' first | exact .head _ | apply List.Mem.tail) (by repeat' first | exact .head _ | apply List.Mem.tail) hP
end Go.Proofs.YtnpapppipccdbaaGreatDoor
