/-
  What the row lists.
-/
import Derived.Test.YtjejcajnnbilmaaGreatDoorB9
import Derived.Test.YtjejcajnnbilmaaGreatDoorTie
import Derived.PinnedBridge
import Derived.LaidMore
import Derived.Lib.LaidTab
import Derived.Lib.LaidU8
import Derived.MakeChecks
namespace Go.Proofs.YtjejcajnnbilmaaGreatDoor
open Go.RowKit Lx
theorem iface_of_trod {H : Type} {enc : TypeId × Value -> H} {P : Program} {w : World} {base : Nat} {sp : Nat -> Bool} {fuel : Nat} {t : TypeId} {cs : List Value} {name : String} {d : DataW H} {p : List MemPlace}
  (ht : ∃ ms, P.underlying t = some (.interface ms)) (h : DataW.trod enc P w base sp false fuel t cs = some (.iface name d, p)) : ∃ u v, cs = [.iface u v] := by
 cases fuel with
 | zero => simp [DataW.trod] at h
 | succ fuel =>
  obtain ⟨ms, ht⟩ := ht
  match cs with
  | [] => simp [DataW.trod, ht] at h
  | a :: b :: r => simp [DataW.trod, ht] at h
  | [a] =>
   cases a <;> first | exact ⟨_, _, rfl⟩ | (simp [DataW.trod, ht] at h; done)
theorem xU8 : Go.Proofs.U8Extra Tryz.prog Tryz.lays260_ren := ⟨by kernel_rfl, by kernel_rfl, by kernel_rfl, by kernel_rfl, by kernel_rfl, by kernel_rfl, by kernel_rfl⟩
theorem gSigs : Tryz.prog.globalNamed "sluiceway/lex.signs" = some 3 := by kernel_rfl
theorem tSigs : (Tryz.prog.globals[3]?).map (·.type) = some 181 := by kernel_rfl
theorem cSigs : Tryz.prog.cellsOf 181 = 28 := by kernel_rfl
theorem cStr : Tryz.prog.cellsOf 9 = 1 := by kernel_rfl
theorem gErrR : Tryz.prog.globalNamed "strconv.ErrRange" = some 8 := by kernel_rfl
theorem tErrR : (Tryz.prog.globals[8]?).map (·.type) = some 33 := by kernel_rfl
theorem lexEnv_of {W : World} {l : List (String × DataW Unit)} (h : laidMet Tryz.prog l W) (m1 : ("unicode/utf8.first", Rows.laid_unicode_utf8_first) ∈ l) (m2 : ("unicode/utf8.acceptRanges", Rows.laid_unicode_utf8_acceptRanges) ∈ l)
  (m3 : ("strconv.ErrRange", Rows.laid_strconv_ErrRange) ∈ l) (m4 : ("sluiceway/lex.signs", Rows.laid_sluiceway_lex_signs) ∈ l) : LexEnv W.heap.size W := by
 have r1 := Go.Lib.laidMet.reads h m1
 have r2 := Go.Lib.laidMet.reads h m2
 have r3 := Go.Lib.laidMet.reads h m3
 have r4 := Go.Lib.laidMet.reads h m4
 have hT : Tabs W := Go.Proofs.utf8Tabs_of_reads Tryz.lays260 xU8 (Pinned.utf8First_eq ▸ r1) (show Go.Lib.VarReads Tryz.prog W "unicode/utf8.acceptRanges" Go.Lib.acceptData from r2)
 have hE : ErrR W := by
  obtain ⟨g, t, cs, fuel, p, hg, hty, hvar, hd⟩ := r3
  obtain rfl := Option.some.inj (gErrR.symm.trans hg)
  obtain rfl := Option.some.inj (tErrR.symm.trans hty)
  obtain ⟨u, v, hcs⟩ := iface_of_trod ⟨_, Tryz.underlying33⟩ hd
  refine ⟨u, v, ?_⟩
  have := World.var?_cell gErrR hvar 0
  rw [this, <- Array.getElem?_toList, hcs]
  rfl
 have hS : Sgs W := by
  obtain ⟨g, t, cs, fuel, p, hg, hty, hvar, hd⟩ := r4
  obtain rfl := Option.some.inj (gSigs.symm.trans hg)
  obtain rfl := Option.some.inj (tSigs.symm.trans hty)
  have hcs := cells_of_tabS (zs := sigsL) Tryz.underlying181 Tryz.underlying9 cStr cSigs hd
  intro n hn
  have := World.var?_cell gSigs hvar n
  rw [this, <- Array.getElem?_toList, hcs, List.getElem?_map, List.getD_eq_getElem?_getD]
  have hl : n < sigsL.length := hn
  rw [List.getElem?_eq_getElem hl]
  rfl
 exact ⟨hT, hE, hS, hT.lt.1, hT.lt.2, by obtain ⟨tp, p, hc⟩ := hE; exact block_lt_of_cell hc, block_lt_of_cell (hS 0 (by decide))⟩
theorem tPowT : (Tryz.prog.globals[9]?).map (·.type) = some 241 := by kernel_rfl
theorem cells_u64T : Tryz.prog.cellsOf 202 = 1 := by kernel_rfl
theorem cells_powT : Tryz.prog.cellsOf 241 = 20 := by kernel_rfl
theorem gKindsT : Tryz.prog.globalNamed "sluiceway/tree.kinds" = some 2 := by kernel_rfl
theorem tKindsT : (Tryz.prog.globals[2]?).map (·.type) = some 156 := by kernel_rfl
theorem cells_kindsT : Tryz.prog.cellsOf 156 = 4 := by kernel_rfl
end Go.Proofs.YtjejcajnnbilmaaGreatDoor
namespace Go.Proofs.YtjejcajnnbilmaaGreatDoor
open Go.RowKit
theorem etG : Tryz.prog.globalNamed "errors.errorType" = some 1 := by kernel_rfl
theorem etRt : (Tryz.prog.cutTypes.find? (·.1 == "internal/reflectlite.rtype")).map (·.2) = some 160 := by kernel_rfl
theorem etOne : ((List.range Tryz.prog.types.size).filter fun t => Tryz.prog.rowNamed t [101, 114, 114, 111, 114]) = [33] := by kernel_rfl
theorem errT_of_laid {W : World} {l : List (String × DataW Unit)} (h : laidMetH Tryz.prog l W) (hm : ("errors.errorType", Rows.laid_errors_errorType) ∈ l) : ErrT W := by
 obtain ⟨name, u, ty, e1, e2, e3, e4, e5⟩ := (laidMetH_iff.1 h).2 _ (List.mem_filter.2 ⟨hm, rfl⟩)
 have en : name = [101, 114, 114, 111, 114] := (Option.some.inj e1).symm
 subst en
 obtain rfl := Option.some.inj (etRt.symm.trans e2)
 have hr : ty ∈ (List.range Tryz.prog.types.size).filter fun t => Tryz.prog.rowNamed t [101, 114, 114, 111, 114] := List.mem_filter.2 ⟨List.mem_range.2 e3, e4⟩
 rw [etOne] at hr
 obtain rfl := List.mem_singleton.1 hr
 have hh : typeHandle Tryz.prog 33 = .pointer (some ⟨12, 33, none⟩) := by kernel_rfl
 rw [hh] at e5
 simpa [ErrT] using World.var?_cell etG e5 0
end Go.Proofs.YtjejcajnnbilmaaGreatDoor
namespace Go.Proofs.YtjejcajnnbilmaaGreatDoor
open Go.RowKit Lx
theorem lawEnv_of {W : World} {l : List (String × DataW Unit)} (h : laidMet Tryz.prog l W) (m1 : ("unicode/utf8.first", Rows.laid_unicode_utf8_first) ∈ l) (m2 : ("unicode/utf8.acceptRanges", Rows.laid_unicode_utf8_acceptRanges) ∈ l)
  (m3 : ("strconv.ErrRange", Rows.laid_strconv_ErrRange) ∈ l) (m4 : ("sluiceway/lex.signs", Rows.laid_sluiceway_lex_signs) ∈ l) (m5 : ("sluiceway/arith.signs", Rows.laid_sluiceway_arith_signs) ∈ l) (m6 : ("sluiceway/tree.kinds", Rows.laid_sluiceway_tree_kinds) ∈ l) (hP : PowT W) : LawEnv W := by
 have hl : LexEnv W.heap.size W := lexEnv_of h m1 m2 m3 m4
 have r5 := Go.Lib.laidMet.reads h m5
 have r6 := Go.Lib.laidMet.reads h m6
 have hS : Signs W := by
  obtain ⟨g, t, cs, fuel, p, hg, hty, hvar, hd⟩ := r5
  obtain rfl := Option.some.inj (gSigns.symm.trans hg)
  obtain rfl := Option.some.inj (tSigns.symm.trans hty)
  have hcs := cells_of_tabS (zs := signsL) Tryz.underlying124 Tryz.underlying9 cells_string cells_signs hd
  intro n hn
  have := World.var?_cell gSigns hvar n
  rw [this, <- Array.getElem?_toList, hcs, List.getElem?_map]
  unfold signL
  rw [List.getD_eq_getElem?_getD]
  have hl : n < signsL.length := hn
  rw [List.getElem?_eq_getElem hl]
  rfl
 have hK : KindsT W := by
  obtain ⟨g, t, cs, fuel, p, hg, hty, hvar, hd⟩ := r6
  obtain rfl := Option.some.inj (gKindsT.symm.trans hg)
  obtain rfl := Option.some.inj (tKindsT.symm.trans hty)
  have hcs := cells_of_tabS (zs := kindsL) Tryz.underlying156 Tryz.underlying9 cells_string cells_kindsT hd
  intro n hn
  have := World.var?_cell gKindsT hvar n
  rw [this, <- Array.getElem?_toList, hcs, List.getElem?_map, List.getD_eq_getElem?_getD]
  have hl : n < kindsL.length := hn
  rw [List.getElem?_eq_getElem hl]
  rfl
 exact ⟨⟨hl, hS, hK, block_lt_of_cell (hS 0 (by decide)), block_lt_of_cell (hK 0 (by decide))⟩, hP, block_lt_of_cell (World.var?_cell gPowT hP 0)⟩
theorem treeBrackets_laid {W : World} (h : laidMetH Tryz.prog Rows.treeBracketsRow.laid W) : LawEnv W /\ ErrT W := by
 refine ⟨?_, errT_of_laid h (by repeat' first | exact .head _ | apply List.Mem.tail)⟩
 have h1 := (laidMetH_iff.1 h).1
 have hP : PowT W := Lib.tabIs_of_head (rest := []) gPowT tPowT Tryz.underlying241 Tryz.underlying202 cells_u64T cells_powT (h1.filter fun x => x.1 == "internal/strconv.uint64pow10")
 exact lawEnv_of h1 (List.mem_filter.2 ⟨by repeat' first | exact .head _ | apply List.Mem.tail, rfl⟩) (List.mem_filter.2 ⟨by repeat' first | exact .head _ | apply List.Mem.tail, rfl⟩) (List.mem_filter.2 ⟨by repeat' first | exact .head _ | apply List.Mem.tail, rfl⟩) (List.mem_filter.2 ⟨by repeat' first | exact .head _ | apply List.Mem.tail, rfl⟩) (List.mem_filter.2 ⟨by repeat' first | exact .head _ | apply List.Mem.tail, rfl⟩) (List.mem_filter.2 ⟨by repeat' first | exact .head _ | apply List.Mem.tail, rfl⟩) hP
end Go.Proofs.YtjejcajnnbilmaaGreatDoor
