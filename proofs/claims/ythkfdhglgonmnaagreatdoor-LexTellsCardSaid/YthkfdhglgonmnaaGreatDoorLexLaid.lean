/-
  What the variables that chapter 7's laws list give their walks.
-/
import Derived.Test.YthkfdhglgonmnaaGreatDoorLexW5
import Derived.Test.YthkfdhglgonmnaaGreatDoorTie
import Derived.PinnedBridge
import Derived.LaidMore
import Derived.Lib.LaidTab
import Derived.Lib.LaidU8
namespace Go.Proofs.YthkfdhglgonmnaaGreatDoor
open Go.RowKit Lx

theorem iface_of_trod {H : Type} {enc : TypeId × Value → H} {P : Program} {w : World} {base : Nat} {sp : Nat → Bool} {fuel : Nat} {t : TypeId} {cs : List Value} {name : String} {d : DataW H} {p : List MemPlace}
    (ht : ∃ ms, P.underlying t = some (.interface ms)) (h : DataW.trod enc P w base sp false fuel t cs = some (.iface name d, p)) : ∃ u v, cs = [.iface u v] := by
  cases fuel with
  | zero => simp [DataW.trod] at h
  | succ fuel =>
    obtain ⟨ms, ht⟩ := ht
    match cs with
    | [] => simp [DataW.trod, ht] at h
    | a :: b :: r => simp [DataW.trod, ht] at h
    | [a] =>
      cases a <;> first | exact ⟨_, _, rfl⟩ | (simp [DataW.trod, ht] at h; done)

theorem xU8 : Go.Proofs.U8Extra Tryz.prog Tryz.lays260_ren := ⟨by kernel_rfl, by kernel_rfl, by kernel_rfl, by kernel_rfl, by kernel_rfl, by kernel_rfl, by kernel_rfl⟩
theorem gSigs : Tryz.prog.globalNamed "sluiceway/lex.signs" = some 2 := by kernel_rfl
theorem tSigs : (Tryz.prog.globals[2]?).map (·.type) = some 152 := by kernel_rfl
theorem cSigs : Tryz.prog.cellsOf 152 = 28 := by kernel_rfl
theorem cStr : Tryz.prog.cellsOf 9 = 1 := by kernel_rfl
theorem gErrR : Tryz.prog.globalNamed "strconv.ErrRange" = some 8 := by kernel_rfl
theorem tErrR : (Tryz.prog.globals[8]?).map (·.type) = some 30 := by kernel_rfl

theorem lexEnv_of {W : World} {l : List (String × DataW Unit)} (h : laidMet Tryz.prog l W) (m1 : ("unicode/utf8.first", Rows.laid_unicode_utf8_first) ∈ l) (m2 : ("unicode/utf8.acceptRanges", Rows.laid_unicode_utf8_acceptRanges) ∈ l)
    (m3 : ("strconv.ErrRange", Rows.laid_strconv_ErrRange) ∈ l) (m4 : ("sluiceway/lex.signs", Rows.laid_sluiceway_lex_signs) ∈ l) : LexEnv W.heap.size W := by
  have r1 := Go.Lib.laidMet.reads h m1
  have r2 := Go.Lib.laidMet.reads h m2
  have r3 := Go.Lib.laidMet.reads h m3
  have r4 := Go.Lib.laidMet.reads h m4
  have hT : Tabs W := Go.Proofs.utf8Tabs_of_reads Tryz.lays260 xU8 (Pinned.utf8First_eq ▸ r1) (show Go.Lib.VarReads Tryz.prog W "unicode/utf8.acceptRanges" Go.Lib.acceptData from r2)
  have hE : ErrR W := by
    obtain ⟨g, t, cs, fuel, p, hg, hty, hvar, hd⟩ := r3
    obtain rfl := Option.some.inj (gErrR.symm.trans hg)
    obtain rfl := Option.some.inj (tErrR.symm.trans hty)
    obtain ⟨u, v, hcs⟩ := iface_of_trod ⟨_, Tryz.underlying30⟩ hd
    refine ⟨u, v, ?_⟩
    have := World.var?_cell gErrR hvar 0
    rw [this, ← Array.getElem?_toList, hcs]
    rfl
  have hS : Sgs W := by
    obtain ⟨g, t, cs, fuel, p, hg, hty, hvar, hd⟩ := r4
    obtain rfl := Option.some.inj (gSigs.symm.trans hg)
    obtain rfl := Option.some.inj (tSigs.symm.trans hty)
    have hcs := cells_of_tabS (zs := sigsL) Tryz.underlying152 Tryz.underlying9 cStr cSigs hd
    intro n hn
    have := World.var?_cell gSigs hvar n
    rw [this, ← Array.getElem?_toList, hcs, List.getElem?_map, List.getD_eq_getElem?_getD]
    have hl : n < sigsL.length := hn
    rw [List.getElem?_eq_getElem hl]
    rfl
  exact ⟨hT, hE, hS, hT.lt.1, hT.lt.2, by obtain ⟨tp, p, hc⟩ := hE; exact block_lt_of_cell hc, block_lt_of_cell (hS 0 (by decide))⟩
end Go.Proofs.YthkfdhglgonmnaaGreatDoor
