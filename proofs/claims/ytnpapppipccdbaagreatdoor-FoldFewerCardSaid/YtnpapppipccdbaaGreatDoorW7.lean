/-
  Texts of one proof, in build order: TreeP1 TreeP2 TreeP3 TreeP4 FoldA5 FoldA6 TreeP5 TreeP6 TreeP7 TreeP8 TreeP9 TreePA TreePB TreePC TreePD TreePE TreePF TreePG TreePH TreePI TreePJ TreePK TreePL TreeQ5 TreeQ6 TreeQ7
-/
import Derived.Test.YtnpapppipccdbaaGreatDoorW6
import Derived.Lib.Builder
import Derived.Deep.RegionHeld
import Derived.Lib.AppendStr
import Derived.Lib.UnsafeStr
import Derived.Lib.ItoaNum
import Derived.Lib.LaidTab
import Derived.Lib.ItoaLen
set_option maxRecDepth 100000
set_option maxHeartbeats 12800000
namespace Go.Proofs.YtnpapppipccdbaaGreatDoor
open Go.RowKit
theorem C9 : (Tryz.prog.info? 5).map (fun i => (i.zero, i.size, i.bytes)) = some (some (.int .u8 0), 1, 1) := by kernel_rfl
theorem IE (l : List UInt8) (s : ByteArray) : Lib.byteCells l ++ Lib.strCells s = Lib.byteCells (l ++ s.data.toList) := by
 rw [Lib.strCells_eq]; simp [Lib.byteCells]
def PB (B b : Nat) (l : List UInt8) (w : World) : Prop := Lib.IsBuilder 129 5 B b ((Lib.byteCells l)) w
def PC (B b : Nat) (l : List UInt8) (w : World) : Prop := PB B b l w /\ (l = [] -> w.cell? ⟨b, 1, none⟩ = some (.slice none 0 0))
def Others (b : Nat) (w w' : World) : Prop := ∀ (k : Nat) (xs : Array Value) (e : TypeId) (fz : Nat × Nat), k ≠ b -> e ≠ 5 -> w.heap[k]? = some (Obj.cells xs e fz) -> w'.heap[k]? = some (Obj.cells xs e fz)
theorem Others.trans {b : Nat} {a w w' : World} (h : Others b a w) (k : Others b w w') : Others b a w' := fun i xs e fz h1 h2 h3 => k i xs e fz h1 h2 (h i xs e fz h1 h2 h3)
theorem Others.refl (b : Nat) (w : World) : Others b w w := fun _ _ _ _ _ _ h => h
theorem AZ : (Tryz.prog.info? 127).map (·.size) = some 2 := by kernel_rfl
theorem IF : liesAt Tryz.prog Tryz.prog.depth 129 (2 / Tryz.prog.cellsOf 129) 0 127 1 = true := by kernel_rfl
theorem xH (b : Nat) (w : World) (h0 : w.cell? ⟨b, 0, none⟩ = some (.pointer (some ⟨b, 0, none⟩))) :
  Calls Tryz.prog 228 #[.pointer (some ⟨b, 0, none⟩)] w fun e w' => e = .returned (.tuple #[]) /\ w' = w := by
 obtain ⟨j, hj, _⟩ := Option.map_eq_some_iff.1 AZ
 go_enter Tryz.func228, Tryz.ntmps228
 go_wp2
 rw [Lib.run_neq_ptr_same w _ Tryz.underlying124 hj]
 go_wp2
 go_end0
 exact ⟨rfl, rfl⟩
theorem uO (b : Nat) (w : World) (h0 : w.cell? ⟨b, 0, none⟩ = some (.pointer none)) (hsh : w.shape? b = some (129, 2)) (hfz : w.frozen? ⟨b, 0, none⟩ = false) :
  Calls Tryz.prog 228 #[.pointer (some ⟨b, 0, none⟩)] w fun e w' => e = .returned (.tuple #[]) /\ w' = w.setCell ⟨b, 0, none⟩ (.pointer (some ⟨b, 0, none⟩)) := by
 obtain ⟨j, hj, hjs⟩ := Option.map_eq_some_iff.1 AZ
 go_enter Tryz.func228, Tryz.ntmps228
 go_wp2
 rw [Lib.run_to_unsafe w ⟨b, 0, none⟩ Tryz.underlying124 Tryz.underlying169 hj (by rw [hjs]; decide) hsh (Nat.zero_lt_succ 1)]
 simp only [Result.andThen]
 rw [Oper.upon_value]
 go_wp2
 rw [run_callFunc_extern Tryz.func270 (by kernel_rfl) (by kernel_rfl) (by kernel_rfl) (e := Extern.AbiNoEscape.same) (by kernel_rfl)]
 rw [Lib.run_noEscape]
 simp only [Result.andThen]
 rw [Oper.upon_value]
 go_wp2
 rw [Lib.run_from_unsafe w ⟨b, 0, none⟩ Tryz.underlying169 Tryz.underlying124 hj hsh IF]
 simp only [Result.andThen]
 rw [Oper.upon_value]
 go_wp2
 go_end0
 exact ⟨rfl, rfl⟩
theorem zH (B b : Nat) (l : List UInt8) (w : World) (h : PB B b l w) :
  Calls Tryz.prog 228 #[.pointer (some ⟨b, 0, none⟩)] w fun e w' => e = .returned (.tuple #[]) /\ (Lib.BuilderAt 129 5 B b (.pointer (some ⟨b, 0, none⟩)) ((Lib.byteCells l)) w' /\ Below B w w' /\ w'.cell? ⟨b, 1, none⟩ = w.cell? ⟨b, 1, none⟩ /\ ∀ k, k ≠ b -> w'.heap[k]? = w.heap[k]?) := by
 rcases h with h | h
 ·refine (uO b w h.cell0 h.shape h.frozen0).mono ?_
  rintro e w' ⟨rfl, rfl⟩
  exact ⟨rfl, h.used _, (Below.refl B w).setCell (p := ⟨b, 0, none⟩) h.1 _, World.cell?_setCell_other _ _ _ _ (aO (by decide) b), fun k hk => Below.heap_setCell _ _ _ _ hk⟩
 ·refine (xH b w h.cell0).mono ?_
  rintro e w' ⟨rfl, rfl⟩
  exact ⟨rfl, h, Below.refl B _, rfl, fun _ _ => rfl⟩
theorem zI (B b : Nat) (l : List UInt8) (s : ByteArray) (w : World) (h : PC B b l w) (hlen : l.length + s.size <= 100000000) (hBw : B <= w.heap.size) :
  Calls Tryz.prog 184 #[.pointer (some ⟨b, 0, none⟩), .string s] w fun e w' => e = .returned (.tuple #[.int .i64 s.size, .nilIface]) /\ (PC B b (l ++ s.data.toList) w' /\ Below B w w' /\ Others b w w') := by
 obtain ⟨i0, hi, hz0, hz1, hz2⟩ := lM C9
 go_enter Tryz.func184, Tryz.ntmps184
 go_wp2_with fail
 refine (zH B b l _ h.1).mono ?_
 rintro e w1 ⟨rfl, h1, hb1, hc1, hot⟩
 have HOT := zz hot
 clear hot
 have HC1 := zz hc1
 have HPC := zz h
 clear hc1 h
 obtain ⟨hB, v, hbk, hown, hne⟩ := h1
 have c0 : w1.cell? ⟨b, 0, none⟩ = some (.pointer (some ⟨b, 0, none⟩)) := by rw [Lib.cell_of_heap hbk]; rfl
 have c1 : w1.cell? ⟨b, 1, none⟩ = some v := by rw [Lib.cell_of_heap hbk]; rfl
 have hcl := Lib.byteCells_length l
 go_wp2_with (at_builtin; refine Lib.wpList_append_own_string _ rfl _ _ 125 9 rfl B 5 i0 Tryz.underlying125 Tryz.underlying9 hi hz0 hz1 hz2 _ _ _ rfl hown s rfl ?c3 ?c4 ?c5 ?_)
 case c3 => unfold maxLen; omega
 case c4 => omega
 case c5 => have := hb1.size; omega
 intro v' w2 hown' hgrow hiff
 have hnil : l ++ s.data.toList = [] -> v' = .slice none 0 0 := fun e => by
  obtain ⟨e1, e2⟩ := List.append_eq_nil_iff.1 e
  refine hiff.2 ⟨?_, by have : s.data.toList.length = s.size := (by simp); rw [e2] at this; simpa using this.symm⟩
  have h9 := HPC.out.2 e1
  rw [<- HC1.out, c1] at h9
  exact Option.some.inj h9
 have HNIL := zz hnil
 have HOTH : Hid (∀ (k : Nat) (xs : Array Value) (e : TypeId) (fz : Nat × Nat), e ≠ 5 -> w1.heap[k]? = some (Obj.cells xs e fz) -> w2.heap[k]? = some (Obj.cells xs e fz)) := zz fun k xs e fz he hk => by
  rw [hgrow.block k (Array.getElem?_eq_some_iff.1 hk).1 (fun e2 => ?_)]
  ·exact hk
  ·rcases hown.2 with ⟨rfl, _⟩ | ⟨g, cap, cur, rfl, _, hg, _⟩
   ·cases e2
   ·have e3 : k = g := Option.some.inj e2
    rw [e3, hg] at hk
    have e4 := Option.some.inj hk
    injection e4 with _ e5 _
    exact he e5.symm
 clear hnil hiff
 have hlt : b < w1.heap.size := by
  rcases Nat.lt_or_ge b w1.heap.size with h' | h'
  ·exact h'
  ·simp [Array.getElem?_eq_none h'] at hbk
 have hb2 : w2.heap[b]? = some (.cells #[.pointer (some ⟨b, 0, none⟩), v] 129 (0, 0)) := by
  rw [hgrow.block b hlt (fun e => hne e.symm)]
  exact hbk
 have d0 : w2.cell? ⟨b, 0, none⟩ = some (.pointer (some ⟨b, 0, none⟩)) := by rw [Lib.cell_of_heap hb2]; rfl
 have d1 : w2.cell? ⟨b, 1, none⟩ = some v := by rw [Lib.cell_of_heap hb2]; rfl
 have f1 : w2.frozen? ⟨b, 1, none⟩ = false := Lib.frozen_of_heap hb2 1
 obtain ⟨ao, n', cap, rfl⟩ : ∃ ao n' cap, v' = .slice ao n' cap := by
  rcases hown'.2 with ⟨hv, _⟩ | ⟨g, cap, cur, hv, _⟩
  ·exact ⟨_, _, _, hv⟩
  ·exact ⟨_, _, _, hv⟩
 have HO := zz hown'
 have HB3 := zz (hb1.grown hgrow (by have := hb1.size; omega) (fun k hk => (hown.lt k hk).1))
 clear hown' hgrow hown hbk c0 c1
 go_wp2
 go_ret2
 refine ⟨rfl, ⟨Or.inr ?_, fun e => by rw [HNIL.out e]; exact World.cell?_setCell_same _ _ _ d1⟩, HB3.out.setCell (p := ⟨b, 1, none⟩) hB _, fun k xs e fz hk he hx => by
  rw [Below.heap_setCell _ _ _ _ hk]
  exact HOTH.out k xs e fz he (by rw [HOT.out k hk]; exact hx)⟩
 have := Lib.BuilderAt.put (T := 129) (e := 5) hB hb2 (bs' := (Lib.byteCells l) ++ Lib.strCells s) (by simpa [Lib.strCells_length, Lib.byteCells_length] using HO.out) (by decide)
 rwa [IE] at this
theorem uP (w : World) (p : Addr) (n : Nat) : Keeps (fun k => k = p.block) w (w.freeze p n) := by
 unfold World.freeze
 split
 ·exact Keeps.refl _ _
 ·exact ⟨rfl, rfl, rfl, by simp, fun k hk hn => by
   simp only [Array.getElem?_modify]
   rw [if_neg (fun e => hn e.symm)]⟩
theorem uQ (B b : Nat) (l : List UInt8) (w : World) (h : PB B b l w) (h0 : l ≠ []) :
  Calls Tryz.prog 79 #[.pointer (some ⟨b, 0, none⟩)] w fun e w' => e = .returned (.string ⟨l.toArray⟩) /\ Below B w w' := by
 obtain ⟨p, hB, v, hbk, hown, hne⟩ : ∃ p, Lib.BuilderAt 129 5 B b p (Lib.byteCells l) w := by
  rcases h with h | h
  ·exact ⟨_, h⟩
  ·exact ⟨_, h⟩
 have hl0 : l.length ≠ 0 := by simpa using h0
 rw [Lib.byteCells_length] at hown
 have hcl := hown.1
 obtain ⟨g, cap, hv, hge, hcap, hcm, hsh⟩ : ∃ g cap, v = .slice (some ⟨g, 0, none⟩) l.length cap /\ B <= g /\ l.length <= cap /\ cap <= maxLen /\ w.shape? g = some (5, cap) := by
  rcases hown.2 with ⟨_, hz⟩ | ⟨g, cap, cur, hv, h1, h2, h3, h4, h5, _⟩
  ·exact absurd hz hl0
  ·exact ⟨g, cap, hv, h1, h3, h4, by simp [World.shape?, h2]; omega⟩
 subst hv
 have hbg : g ≠ b := fun e => hne (by rw [e]; rfl)
 have c1 : w.cell? ⟨b, 1, none⟩ = some (.slice (some ⟨g, 0, none⟩) l.length cap) := by rw [Lib.cell_of_heap hbk]; rfl
 have hSD : ∀ W, (Builtin.unsafeSliceData_ #[125] 192 #[.slice (some ⟨g, 0, none⟩) l.length cap]).run Tryz.prog W = .ok (.pointer (some ⟨g, 0, none⟩)) W := fun W => Lib.run_unsafeSliceData_row _ _ _ _ _ _ (by omega)
 have hcells : ∀ (j : Nat) (x : UInt8), l[j]? = some x -> w.drew.cell? ((⟨g, 0, none⟩ : Addr).add j) = some (.int .u8 x.toNat) := fun j x hx => hown.cells (g := g) rfl j (.int .u8 x.toNat) (by simp [Lib.byteCells, hx])
 have hUS : (Builtin.unsafeString_ #[192, 3] 9 #[.pointer (some ⟨g, 0, none⟩), .int .i64 l.length]).run Tryz.prog w.drew = .ok (.string ⟨l.toArray⟩) (w.drew.freeze ⟨g, 0, none⟩ l.length) :=
  Lib.run_unsafeString_row w.drew 192 3 9 5 Tryz.underlying192 (by kernel_rfl) g cap hsh l h0 hcap (by unfold maxLen at hcm; omega) hcells
 clear hcells hown hbk h hsh
 go_enter Tryz.func79, Tryz.ntmps79
 go_wp2_with fail
 refine wp_region_held_drew (S := fun W' => W'.cell? ⟨b, 1, none⟩ = some (.slice (some ⟨g, 0, none⟩) l.length cap)) (by kernel_rfl) (by simp only [World.cell?_drew]; assumption) (fun hHeld => ?_)
 refine tk 0 3 (.pointer (some ⟨b, 0, none⟩)) rfl (.inl ⟨by rfl, ?_⟩) hHeld ?_
 ·intro W9 hSW; (try dsimp only at hSW); go_simp
 try simp only [Act.put, sA, sB, sC]
 refine tk 1 4 (.pointer (some ⟨b, 0, none⟩)) rfl (.inl ⟨by rfl, ?_⟩) hHeld ?_
 ·intro W9 hSW; (try dsimp only at hSW); go_simp
 try simp only [Act.put, sA, sB, sC]
 refine tk 2 5 (.pointer (some ⟨b, 1, none⟩)) rfl (.inl ⟨by rfl, ?_⟩) hHeld ?_
 ·intro W9 hSW; (try dsimp only at hSW); go_simp
 try simp only [Act.put, sA, sB, sC]
 refine tk 3 6 (.slice (some ⟨g, 0, none⟩) l.length cap) rfl (.inl ⟨by rfl, ?_⟩) hHeld ?_
 ·intro W9 hSW; (try dsimp only at hSW); go_simp
 try simp only [Act.put, sA, sB, sC]
 refine tk 4 7 (.pointer (some ⟨g, 0, none⟩)) rfl (.inl ⟨by rfl, ?_⟩) hHeld ?_
 ·intro W9 hSW; (try dsimp only at hSW); go_simp
 try simp only [Act.put, sA, sB, sC]
 refine tk 5 8 (.pointer (some ⟨b, 0, none⟩)) rfl (.inl ⟨by rfl, ?_⟩) hHeld ?_
 ·intro W9 hSW; (try dsimp only at hSW); go_simp
 try simp only [Act.put, sA, sB, sC]
 refine tk 6 9 (.pointer (some ⟨b, 0, none⟩)) rfl (.inl ⟨by rfl, ?_⟩) hHeld ?_
 ·intro W9 hSW; (try dsimp only at hSW); go_simp
 try simp only [Act.put, sA, sB, sC]
 refine tk 7 10 (.pointer (some ⟨b, 1, none⟩)) rfl (.inl ⟨by rfl, ?_⟩) hHeld ?_
 ·intro W9 hSW; (try dsimp only at hSW); go_simp
 try simp only [Act.put, sA, sB, sC]
 refine tk 8 11 (.slice (some ⟨g, 0, none⟩) l.length cap) rfl (.inl ⟨by rfl, ?_⟩) hHeld ?_
 ·intro W9 hSW; (try dsimp only at hSW); go_simp
 try simp only [Act.put, sA, sB, sC]
 refine tk 9 12 (.int .i64 (l.length : Nat)) rfl (.inl ⟨by rfl, ?_⟩) hHeld ?_
 ·intro W9 hSW; (try dsimp only at hSW); go_simp
 try simp only [Act.put, sA, sB, sC]
 refine ra 10 (some 13) rfl fun K hK => ?_
 go_simp
 have hkf : Keeps (fun k => k = g) w.drew (w.drew.freeze ⟨g, 0, none⟩ l.length) := uP w.drew ⟨g, 0, none⟩ l.length
 refine hK.out _ _ (hkf.cell_of c1 (fun e => hbg e.symm)) (fun hHeld => ?_)
 clear hK K
 refine tk 11 2 (.string ⟨l.toArray⟩) rfl (.inl ⟨by rfl, ?_⟩) hHeld ?_
 ·intro W9 hSW; (try dsimp only at hSW); go_simp
 try simp only [Act.put, sA, sB, sC]
 refine wpAnyH_done (by kernel_rfl) ?_ _
 go_wp2_with fail
 go_ret
 exact ⟨rfl, Lib.below_freeze (Below.drew (Below.refl B w)) (p := ⟨g, 0, none⟩) hge _⟩
theorem uR (B b : Nat) (w : World) (c1 : w.cell? ⟨b, 1, none⟩ = some (.slice none 0 0)) : Calls Tryz.prog 79 #[.pointer (some ⟨b, 0, none⟩)] w fun e w' => e = .returned (.string ⟨#[]⟩) /\ Below B w w' := by
 have hSD : ∀ W, (Builtin.unsafeSliceData_ #[125] 192 #[.slice none 0 0]).run Tryz.prog W = .ok (.pointer none) W := fun W => by kernel_rfl
 have hUS : ∀ W, (Builtin.unsafeString_ #[192, 3] 9 #[.pointer none, .int .i64 0]).run Tryz.prog W = .ok (.string ⟨#[]⟩) W := fun W => by kernel_rfl
 go_enter Tryz.func79, Tryz.ntmps79
 go_wp2_with fail
 go_quiet (fail)
 go_wp2_with fail
 go_ret
 exact ⟨rfl, dH (Below.refl B w) _⟩
theorem xI (B b : Nat) (l : List UInt8) (w : World) (h : PC B b l w) : Calls Tryz.prog 79 #[.pointer (some ⟨b, 0, none⟩)] w fun e w' => e = .returned (.string ⟨l.toArray⟩) /\ Below B w w' := by
 cases l with
 | nil => exact uR B b w (h.2 rfl)
 | cons x r => exact uQ B b (x :: r) w h.1 (by simp)
end Go.Proofs.YtnpapppipccdbaaGreatDoor
namespace Go.Proofs.YtnpapppipccdbaaGreatDoor
open Go.RowKit Lx Tr
def fC : List ByteArray -> List UInt8
 | [] => []
 | x :: xs => x.data.toList ++ fC xs
theorem sU : ∀ (l : List ByteArray) (x : ByteArray), fC (l ++ [x]) = fC l ++ x.data.toList
 | [], x => by simp [fC]
 | y :: l, x => by show y.data.toList ++ fC (l ++ [x]) = _; rw [sU l x, <- List.append_assoc]; rfl
theorem sV {ps : List ByteArray} {k : Nat} {x : ByteArray} (h : ps[k]? = some x) : fC (ps.take (k + 1)) = fC (ps.take k) ++ x.data.toList := by
 rw [List.take_add_one, h]
 exact sU _ _
theorem A0 : ∀ (ps : List ByteArray) (k : Nat), (fC (ps.take k)).length <= (fC ps).length
 | [], k => by simp [fC]
 | x :: xs, 0 => Nat.zero_le _
 | x :: xs, k + 1 => by
  show (x.data.toList ++ fC (xs.take k)).length <= (x.data.toList ++ fC xs).length
  rw [List.length_append, List.length_append]
  exact Nat.add_le_add_left (A0 xs k) _
theorem IG (B b g cap : Nat) (l : List UInt8) (ps : List ByteArray) (xs : Array Value) (fz : Nat × Nat) (w : World) (h : PC B b l w) (hB : B <= w.heap.size) (hg : w.heap[g]? = some (Obj.cells xs 9 fz)) (hgb : g ≠ b) (hx : ∀ j x, ps[j]? = some x -> w.cell? ⟨g, j, none⟩ = some (.string x)) (hlen : l.length + (fC ps).length <= 100000000) (hn : ps.length <= 10000) :
  Calls Tryz.prog 129 #[.pointer (some ⟨b, 0, none⟩), .slice (some ⟨g, 0, none⟩) ps.length cap] w fun e w' => e = .returned (.tuple #[]) /\ PC B b (l ++ fC ps) w' /\ Below B w w' /\ Others b w w' := by
 have HI0 : Hid (PC B b (l ++ fC (ps.take 0)) w) := zz (by rw [List.take_zero]; show PC B b (l ++ []) w; rw [List.append_nil]; exact h)
 have HB := zz hB
 have HG := zz hg
 have HX := zz hx
 have HGB := zz hgb
 have HLEN := zz hlen
 clear h hB hg hgb hx hlen
 go_enter Tryz.func129, Tryz.ntmps129
 go_wp2_with fail
 go_loopw [8, 5] (fun i _ wr => ∃ k : Nat, k <= ps.length /\ i = .int .i64 k /\ PC B b (l ++ fC (ps.take k)) wr /\ Below B w wr /\ Others b w wr) (fun i _ _ => ps.length - (intOf i).toNat)
 case atStart => exact ⟨0, Nat.zero_le _, rfl, HI0.out, Below.refl _ _, Others.refl _ _⟩
 case round =>
  obtain ⟨k, hk, rfl, hp, hb, ho⟩ := hrel
  have HP := zz hp
  have HBL := zz hb
  have HO := zz ho
  clear hp hb ho
  by_cases hlt : k < ps.length
  ·obtain ⟨x, hkx⟩ : ∃ x, ps[k]? = some x := ⟨_, List.getElem?_eq_getElem hlt⟩
   have hgw := HO.out g xs 9 fz HGB.out (by decide) HG.out
   have c0 : wr.cell? ⟨g, k, none⟩ = some (.string x) := by
    have := HX.out k x hkx
    rw [Lib.cell_of_heap HG.out] at this
    rw [Lib.cell_of_heap hgw]; exact this
   have hki : (k : Int) < (ps.length : Int) := by omega
   have hkii : (0 : Int) <= (k : Int) /\ (k : Int) < (ps.length : Int) := by omega
   have hw : IntKind.i64.wrap ((k : Int) + 1) = (k : Int) + 1 := IntWalk.i64_in _ (by omega)
   have HKX := zz hkx
   have hlen2 : (l ++ fC (ps.take k)).length + x.size <= 100000000 := by
    have h1 := A0 ps (k + 1)
    rw [sV hkx, List.length_append] at h1
    have h2 : x.data.toList.length = x.size := by simp
    rw [List.length_append]
    have := HLEN.out
    omega
   have HWR := zz (zI B b (l ++ fC (ps.take k)) x wr HP.out hlen2 (Nat.le_trans HB.out HBL.out.size))
   clear hgw hkx hlen2
   go_wp2_with fail
   refine HWR.out.mono ?_
   rintro e w2 ⟨rfl, hp2, hb2, ho2⟩
   have HP2 := zz hp2
   have HB2 := zz hb2
   have HO2 := zz ho2
   clear hp2 hb2 ho2
   go_wp2_with fail
   refine ⟨⟨k + 1, by omega, by simp, ?_, HBL.out.trans HB2.out, HO.out.trans HO2.out⟩, ?_⟩
   ·rw [sV HKX.out, <- List.append_assoc]; exact HP2.out
   ·simp [intOf]; omega
  ·have hki : ¬ (k : Int) < (ps.length : Int) := by omega
   have hkk : k = ps.length := by omega
   have HKK := zz hkk
   clear hkk
   go_wp2_with fail
   go_end0
   refine ⟨rfl, ?_, HBL.out, HO.out⟩
   have h1 := HP.out
   rw [HKK.out, List.take_length] at h1
   exact h1
end Go.Proofs.YtnpapppipccdbaaGreatDoor
namespace Go.Proofs.YtnpapppipccdbaaGreatDoor
open Go.RowKit Lx Tr
variable {w w' : World}
def sgV (op : Nat) : B := if op = 30 then [38, 38] else if op = 31 then [124, 124] else cL op
def jX (n : Nat) : B := Lib.itoa (n : Int)
def exW (least : Nat) (x : Ex) (bare : B) : B := match x with
 | .nil => []
 | .mk code _ _ op _ _ _ _ => if code = 5 /\ bL op < least then [40] ++ (bare ++ [41]) else bare
mutual
def aF : Ex -> B
 | .nil => []
 | .mk code _ n op name l r args =>
  if code = 1 then jX n
  else if code = 2 then (if n = 0 then cP else eK)
  else if code = 3 then hZ
  else if code = 4 then name
  else if code = 5 then exW (bL op) l (aF l) ++ ([32] ++ (sgV op ++ ([32] ++ exW (bL op + 1) r (aF r))))
  else if code = 6 then cL op ++ exW 6 l (aF l)
  else if code = 10 then aK ++ exW 6 l (aF l)
  else if code = 8 then dQ ++ ([40] ++ (exW 1 l (aF l) ++ [41]))
  else if code = 9 then hY ++ ([40] ++ (exW 1 l (aF l) ++ [41]))
  else if code = 7 then name ++ ([40] ++ (fH true args ++ [41]))
  else []
def fH : Bool -> Exs -> B
 | _, .nil => []
 | first, .cons x xs => (if first then [] else [44, 32]) ++ (exW 1 x (aF x) ++ fH false xs)
end
def exV (least : Nat) (x : Ex) : B := exW least x (aF x)
theorem PB.fresh {B b : Nat} {l : List UInt8} (h : PB B b l w) (hb : Below w.heap.size w w') : PB B b l w' := by
 have key : ∀ p, Lib.BuilderAt 129 5 B b p (Lib.byteCells l) w -> Lib.BuilderAt 129 5 B b p (Lib.byteCells l) w' := fun p ⟨h1, v, h2, h3, h4⟩ =>
  ⟨h1, v, by rw [hb.block b (Array.getElem?_eq_some_iff.1 h2).1]; exact h2, (Keeps.of_new (S := fun _ => False) hb).row h3 (fun _ _ e => e), h4⟩
 exact h.imp (key _) (key _)
theorem PB.lt {B b : Nat} {l : List UInt8} (h : PB B b l w) : b < w.heap.size := by
 rcases h with ⟨_, v, h2, _⟩ | ⟨_, v, h2, _⟩ <;> exact (Array.getElem?_eq_some_iff.1 h2).1
theorem PC.fresh {B b : Nat} {l : List UInt8} (h : PC B b l w) (hb : Below w.heap.size w w') : PC B b l w' :=
 ⟨h.1.fresh hb, fun e => by rw [hb.cell (p := ⟨b, 1, none⟩) h.1.lt]; exact h.2 e⟩
theorem Others.of_new {b : Nat} (hb : Below w.heap.size w w') : Others b w w' := fun k xs e fz _ _ h => by rw [hb.block k (Array.getElem?_eq_some_iff.1 h).1]; exact h
theorem eW (B b : Nat) (l : List UInt8) (ps : List ByteArray) (w : World) (h : PC B b l w) (hB : B <= w.heap.size) (hlen : l.length + (fC ps).length <= 100000000) (hn : ps.length <= 10000) :
  Calls Tryz.prog 129 #[.pointer (some ⟨b, 0, none⟩), .slice (some ⟨w.heap.size, 0, none⟩) ps.length ps.length] (w.alloc (.cells (ps.map Value.string).toArray 9)) fun e w' => e = .returned (.tuple #[]) /\ PC B b (l ++ fC ps) w' /\ Below B w w' /\ Others b w w' := by
 have hb : Below w.heap.size w (w.alloc (.cells (ps.map Value.string).toArray 9)) := ((Keeps.refl (fun _ => False) w).alloc _).below (Nat.le_refl _) (fun _ _ e => e.elim)
 have hlt := h.1.lt
 refine (IG B b w.heap.size ps.length l ps (ps.map Value.string).toArray (0, 0) _ (h.fresh hb) (Nat.le_trans hB hb.size) (heap_alloc_new w _) (by omega) (fun j x hj => bJ _ _ _ j _ (by simp [hj]) rfl) hlen hn).mono ?_
 rintro e w' ⟨rfl, h1, h2, h3⟩
 exact ⟨rfl, h1, (hb.mono hB).trans h2, (Others.of_new hb).trans h3⟩
def bT (B b : Nat) (l out : List UInt8) (w : World) (f : FuncId) (args : Array Value) : Prop :=
 Calls Tryz.prog f args w fun e w' => e = .returned (.tuple #[]) /\ PC B b (l ++ out) w' /\ Below B w w' /\ Others b w w'
abbrev PowT (w : World) : Prop := Lib.TabIs Tryz.prog w "internal/strconv.uint64pow10" .u64 Lib.pow10Tab
theorem FI : Tryz.prog.globalNamed "internal/strconv.uint64pow10" = some 4 := by kernel_rfl
theorem PowT.below {B : Nat} (h : PowT w) (hB : 4 < B) (hb : Below B w w') : PowT w' := by
 unfold PowT Lib.TabIs World.var? at h ⊢
 rw [FI] at h ⊢
 simp only [Option.bind_some] at h ⊢
 rw [hb.block _ hB]
 exact h
structure PEnv (B : Nat) (w : World) : Prop where
 signs : kE w
 b1 : 7 < B
 pow : PowT w
 b2 : 4 < B
 kinds : nV w
 b3 : 2 < B
theorem PEnv.below {B : Nat} (h : PEnv B w) (hb : Below B w w') : PEnv B w' := ⟨fun k hk => by rw [hb.cell (p := ⟨7, k, none⟩) h.b1]; exact h.signs k hk, h.b1, h.pow.below h.b2 hb, h.b2, fun k hk => by rw [hb.cell (p := ⟨2, k, none⟩) h.b3]; exact h.kinds k hk, h.b3⟩
theorem PEnv.mono {B C : Nat} (h : PEnv B w) (hc : B <= C) : PEnv C w := ⟨h.signs, Nat.lt_of_lt_of_le h.b1 hc, h.pow, Nat.lt_of_lt_of_le h.b2 hc, h.kinds, Nat.lt_of_lt_of_le h.b3 hc⟩
def I7 (B b : Nat) (x : Ex) : Prop :=
 ∀ (l : List UInt8) (w : World) (v : Value), PC B b l w -> B <= w.heap.size -> PEnv B w -> ExIn w (fun k => k < B) v x -> l.length + (aF x).length <= 100000000 -> x ≠ .nil -> bT B b l (aF x) w 187 #[.pointer (some ⟨b, 0, none⟩), v]
def fS (B b : Nat) (x : Ex) : Prop :=
 ∀ (least : Nat) (l : List UInt8) (w : World) (v : Value), PC B b l w -> B <= w.heap.size -> PEnv B w -> ExIn w (fun k => k < B) v x -> l.length + (exV least x).length <= 100000000 -> bT B b l (exV least x) w 132 #[.pointer (some ⟨b, 0, none⟩), v, .int .i64 (least : Nat)]
theorem ExIn.below {B : Nat} {v : Value} {x : Ex} (h : ExIn w (fun k => k < B) v x) (hb : Below B w w') : ExIn w' (fun k => k < B) v x :=
 ExIn.keeps h (Keeps.of_below (S := fun k => B <= k) hb (fun _ _ e => e)) (fun k hk e => by have h1 : k < B := hk; have h2 : B <= k := e; omega)
theorem sW {B b : Nat} {x : Ex} (hC : I7 B b x) : fS B b x := by
 intro least l w v h hB hP hx hlen
 unfold bT
 cases x with
 | nil =>
  have hv : v = .pointer none := hx
  subst hv
  have hout : l ++ exV least .nil = l := List.append_nil l
  rw [hout]
  have H := zz h
  clear h hx hP hC hlen hout
  go_enter Tryz.func132, Tryz.ntmps132
  go_wp2_with fail
  try simp only [Exit.inBlock, Exit.then]
  refine bodyPost_ret (results_none rfl _ _ _) rfl ?_
  exact ⟨rfl, H.out, Below.refl _ _, Others.refl _ _⟩
 | mk code at_ n op name lx rx ar =>
  have hx' := hx
  obtain ⟨bk, lv, rv, av, rfl, hbk, c0, _, _, _, c4, _⟩ := hx'
  have HC := zz (hC l w _ h hB hP hx)
  have HL : Hid (∀ W, Calls Tryz.prog 186 #[.int .i64 (op : Nat)] W fun e w' => e = .returned (.int .i64 (bL op : Nat)) /\ W = w') := zz fun W => nU op W
  have H := zz h
  have HB := zz hB
  have HP := zz hP
  have HX := zz hx
  have HCC := zz hC
  by_cases hcond : code = 5 /\ bL op < least
  ·have hout : exV least (.mk code at_ n op name lx rx ar) = [40] ++ (aF (.mk code at_ n op name lx rx ar) ++ [41]) := by unfold exV exW; exact if_pos hcond
   rw [hout] at hlen ⊢
   rw [List.length_append, List.length_append] at hlen
   have HLN : Hid (l.length + (1 + ((aF (.mk code at_ n op name lx rx ar)).length + 1)) <= 100000000) := zz hlen
   have HPUT := zz (eW B b l [⟨#[40]⟩] w h hB (by have := HLN.out; show l.length + 1 <= _; omega) (by decide))
   have e5 : ((code : Int) == 5) = true := by rw [hcond.1]; rfl
   have hlt : ((bL op : Nat) : Int) < (least : Int) := by omega
   clear h hx hP hC hlen hout HC hcond
   go_enter Tryz.func132, Tryz.ntmps132
   go_wp2_with (go_at_call 186; refine (HL.out _).mono ?_; rintro e w2 ⟨rfl, rfl⟩)
   refine HPUT.out.mono ?_
   rintro e w3 ⟨rfl, h3, hb3, ho3⟩
   have hB3 := Nat.le_trans HB.out hb3.size
   have HBA := zz (HCC.out (l ++ [40]) w3 _ h3 hB3 (HP.out.below hb3) (HX.out.below hb3) (by have := HLN.out; rw [List.length_append]; show l.length + 1 + _ <= _; omega) (fun e => by cases e))
   have HB3 := zz hb3
   have HO3 := zz ho3
   clear h3 hb3 hB3 ho3
   go_wp2_with fail
   refine HBA.out.mono ?_
   rintro e w4 ⟨rfl, h4, hb4, ho4⟩
   have hB4 := Nat.le_trans HB.out (HB3.out.trans hb4).size
   have HPUT2 := zz (eW B b _ [⟨#[41]⟩] w4 h4 hB4 (by have := HLN.out; rw [List.length_append, List.length_append]; show l.length + 1 + _ + 1 <= _; omega) (by decide))
   have HB4 := zz (HB3.out.trans hb4)
   have HO4 := zz (HO3.out.trans ho4)
   clear h4 hb4 hB4 ho4
   go_wp2_with fail
   refine HPUT2.out.mono ?_
   rintro e w5 ⟨rfl, h5, hb5, ho5⟩
   have h5' : PC B b (l ++ ([40] ++ (aF (.mk code at_ n op name lx rx ar) ++ [41]))) w5 := by
    have e : l ++ ([40] ++ (aF (.mk code at_ n op name lx rx ar) ++ [41])) = l ++ [40] ++ aF (.mk code at_ n op name lx rx ar) ++ fC [⟨#[41]⟩] := by
     simp only [List.append_assoc]; rfl
    rw [e]; exact h5
   have H5 := zz h5'
   have HB5 := zz (HB4.out.trans hb5)
   have HO5 := zz (HO4.out.trans ho5)
   clear h5 h5' hb5 ho5
   go_wp2_with fail
   try simp only [Exit.inBlock, Exit.then]
   refine bodyPost_ret (results_none rfl _ _ _) rfl ?_
   exact ⟨rfl, H5.out, HB5.out, HO5.out⟩
  ·have hout : exV least (.mk code at_ n op name lx rx ar) = aF (.mk code at_ n op name lx rx ar) := by unfold exV exW; exact if_neg hcond
   rw [hout] at hlen ⊢
   have HW := zz (HC.out hlen (fun e => by cases e))
   clear h hx hP hC hlen hout HC
   by_cases h5 : code = 5
   ·have e5 : ((code : Int) == 5) = true := by rw [h5]; rfl
    have hlt : ¬ ((bL op : Nat) : Int) < (least : Int) := by omega
    clear hcond h5
    go_enter Tryz.func132, Tryz.ntmps132
    go_wp2_with (go_at_call 186; refine (HL.out _).mono ?_; rintro e w2 ⟨rfl, rfl⟩)
    refine HW.out.mono ?_
    rintro e w2 ⟨rfl, h2, hb2, ho2⟩
    have H2 := zz h2
    have HB2 := zz hb2
    have HO2 := zz ho2
    clear h2 hb2 ho2
    go_wp2_with fail
    go_end0
    exact ⟨rfl, H2.out, HB2.out, HO2.out⟩
   ·have e5 : ((code : Int) == 5) = false := beq_eq_false_iff_ne.2 (by omega)
    clear hcond h5
    go_enter Tryz.func132, Tryz.ntmps132
    go_wp2_with fail
    refine HW.out.mono ?_
    rintro e w2 ⟨rfl, h2, hb2, ho2⟩
    have H2 := zz h2
    have HB2 := zz hb2
    have HO2 := zz ho2
    clear h2 hb2 ho2
    go_wp2_with fail
    go_end0
    exact ⟨rfl, H2.out, HB2.out, HO2.out⟩
def kU : List Ex -> Nat
 | [] => 0
 | x :: xs => aJ x + kU xs
theorem jY : ∀ xs : Exs, dF xs = kU xs.toList
 | .nil => rfl
 | .cons x xs => by
  rw [dF, jY xs]; rfl
theorem xJ : ∀ (l : List Ex) (x : Ex), kU (l ++ [x]) = kU l + aJ x
 | [], x => by show aJ x + 0 = 0 + aJ x; omega
 | y :: ys, x => by
  show aJ y + kU (ys ++ [x]) = aJ y + kU ys + aJ x
  rw [xJ ys x]; omega
theorem DA {l : List Ex} {k : Nat} {x : Ex} (h : l[k]? = some x) : kU (l.take (k + 1)) = kU (l.take k) + aJ x := by
 rw [List.take_add_one, h, Option.toList_some, xJ]
theorem uS : ∀ (l : List Ex) (k : Nat), kU (l.take k) <= kU l
 | [], k => by rw [List.take_nil]; exact Nat.le_refl _
 | x :: xs, 0 => Nat.zero_le _
 | x :: xs, k + 1 => by
  have := uS xs k
  show aJ x + kU (xs.take k) <= aJ x + kU xs
  omega
def mG (x : Ex) : Prop := ∀ (B : Nat) (w : World) (v : Value), B <= w.heap.size -> ExIn w (fun b => b < B) v x -> Calls Tryz.prog 80 #[v] w fun e w' => e = .returned (.int .i64 (aJ x : Nat)) /\ Below w.heap.size w w'
theorem ArgsX.below {B : Nat} {v : Value} {zs : Exs} (h : ArgsX w (fun k => k < B) v zs) (hb : Below B w w') : ArgsX w' (fun k => k < B) v zs :=
 h.keeps (Keeps.of_below (S := fun k => B <= k) hb (fun _ _ e => e)) (fun k hk e => by have h1 : k < B := hk; have h2 : B <= k := e; omega)
theorem DB : mG .nil := by
 intro B w v hB hx
 have e : v = .pointer none := hx
 subst e
 clear hx hB
 go_enter Tryz.func80, Tryz.ntmps80
 go_wp2_with fail
 try simp only [Exit.inBlock, Exit.then]
 go_ret
 exact ⟨rfl, Below.refl _ _⟩
theorem FJ {c a n op : Nat} {nm : Lx.B} {l r : Ex} {zs : Exs} (hL : mG l) (hR : mG r) (hA : ∀ x ∈ zs.toList, mG x) (hsz : aJ (.mk c a n op nm l r zs) <= 100000000) : mG (.mk c a n op nm l r zs) := by
 intro B w v hB hx
 obtain ⟨bk, lv, rv, av, rfl, hbk, c0, c1, c2, c3, c4, c5, c6, c7, hl, hr, ha, has⟩ := hx
 obtain ⟨ql, rfl⟩ := aH hl
 obtain ⟨qr, rfl⟩ := aH hr
 have harg : ArgsX w (fun b => b < B) av zs := ⟨ha, has⟩
 obtain ⟨ao, cap, rfl⟩ := harg.form
 have hbk' : bk < w.heap.size := Nat.lt_of_lt_of_le hbk hB
 have HW : Hid (∀ W, Below w.heap.size w W -> ExIn W (fun b => b < B) (.pointer ql) l /\ ExIn W (fun b => b < B) (.pointer qr) r /\ ArgsX W (fun b => b < B) (.slice ao zs.len cap) zs /\ W.cell? ⟨bk, 5, none⟩ = some (.pointer ql) /\ W.cell? ⟨bk, 6, none⟩ = some (.pointer qr) /\ W.cell? ⟨bk, 7, none⟩ = some (.slice ao zs.len cap)) := zz fun W hb => by
  have hb' := hb.mono hB
  exact ⟨hl.below hb', hr.below hb', harg.below hb', by rw [hb.cell (p := ⟨bk, 5, none⟩) hbk']; exact c5, by rw [hb.cell (p := ⟨bk, 6, none⟩) hbk']; exact c6, by rw [hb.cell (p := ⟨bk, 7, none⟩) hbk']; exact c7⟩
 rw [aJ, jY] at hsz
 have hE : aJ (.mk c a n op nm l r zs) = 1 + aJ l + aJ r + kU zs.toList := by rw [aJ, jY]
 rw [hE]
 clear hE
 have hbd : Below w.heap.size w w.drew := Below.drew (Below.refl _ w)
 obtain ⟨PL, hPL⟩ : ∃ P, P = aJ l := ⟨_, rfl⟩
 obtain ⟨PR, hPR⟩ : ∃ P, P = aJ r := ⟨_, rfl⟩
 rw [<- hPL, <- hPR] at hsz ⊢
 obtain ⟨P1, hP1⟩ : ∃ P, P = 1 + PL := ⟨_, rfl⟩
 obtain ⟨P2, hP2⟩ : ∃ P, P = P1 + PR := ⟨_, rfl⟩
 have HP1 : IntKind.i64.wrap (1 + (PL : Int)) = (P1 : Int) := by rw [IntWalk.i64_in _ (by omega)]; omega
 have HP2 : IntKind.i64.wrap ((P1 : Int) + (PR : Int)) = (P2 : Int) := by rw [IntWalk.i64_in _ (by omega)]; omega
 have HL : Hid (Calls Tryz.prog 80 #[.pointer ql] w.drew fun e w' => e = .returned (.int .i64 (PL : Nat)) /\ Below w.drew.heap.size w.drew w') := zz (by rw [hPL]; exact hL B w.drew _ hB (HW.out _ hbd).1)
 have HR : Hid (∀ W, Below w.heap.size w W -> Calls Tryz.prog 80 #[.pointer qr] W fun e w' => e = .returned (.int .i64 (PR : Nat)) /\ Below W.heap.size W w') := zz (fun W hb => by rw [hPR]; exact hR B W _ (Nat.le_trans hB hb.size) (HW.out _ hb).2.1)
 have HA := zz hA
 have HBB := zz hB
 have HBD := zz hbd
 have HSZ : Hid (P2 + kU zs.toList <= 100000000 /\ zs.toList.length = zs.len) := zz ⟨by omega, kN zs⟩
 have HEQ : Hid (1 + PL + PR = P2) := zz (by omega)
 rw [HEQ.out]
 clear hL hR hA hB hbd hsz hl hr ha has harg hbk hbk' hPL hPR hP1 hP2 c0 c1 c2 c3 c4
 go_enter Tryz.func80, Tryz.ntmps80
 go_wp2_with fail
 refine wp_region_held_drew (S := (fun W' : World => W'.cell? ⟨bk, 5, none⟩ = some (.pointer ql) /\ W'.cell? ⟨bk, 6, none⟩ = some (.pointer qr))) (by kernel_rfl) ⟨by simp only [World.cell?_drew]; assumption, by simp only [World.cell?_drew]; assumption⟩ (fun hHeld => ?_)
 refine tk 0 7 (.pointer (some ⟨bk, 0, none⟩)) rfl (.inl ⟨by rfl, ?_⟩) hHeld ?_
 ·intro W9 hSW; (try dsimp only at hSW); go_simp
 try simp only [Act.put, sA, sB, sC]
 refine tk 1 8 (.pointer (some ⟨bk, 0, none⟩)) rfl (.inl ⟨by rfl, ?_⟩) hHeld ?_
 ·intro W9 hSW; (try dsimp only at hSW); go_simp
 try simp only [Act.put, sA, sB, sC]
 refine tk 2 9 (.pointer (some ⟨bk, 5, none⟩)) rfl (.inl ⟨by rfl, ?_⟩) hHeld ?_
 ·intro W9 hSW; (try dsimp only at hSW); go_simp
 try simp only [Act.put, sA, sB, sC]
 refine tk 3 10 (.pointer ql) rfl (.inl ⟨by rfl, ?_⟩) hHeld ?_
 ·intro W9 hSW; (try dsimp only at hSW); go_simp
 try simp only [Act.put, sA, sB, sC]
 refine tk 6 13 (.pointer (some ⟨bk, 0, none⟩)) rfl (.inl ⟨by rfl, ?_⟩) hHeld ?_
 ·intro W9 hSW; (try dsimp only at hSW); go_simp
 try simp only [Act.put, sA, sB, sC]
 refine tk 7 14 (.pointer (some ⟨bk, 0, none⟩)) rfl (.inl ⟨by rfl, ?_⟩) hHeld ?_
 ·intro W9 hSW; (try dsimp only at hSW); go_simp
 try simp only [Act.put, sA, sB, sC]
 refine tk 8 15 (.pointer (some ⟨bk, 6, none⟩)) rfl (.inl ⟨by rfl, ?_⟩) hHeld ?_
 ·intro W9 hSW; (try dsimp only at hSW); go_simp
 try simp only [Act.put, sA, sB, sC]
 refine tk 9 16 (.pointer qr) rfl (.inl ⟨by rfl, ?_⟩) hHeld ?_
 ·intro W9 hSW; (try dsimp only at hSW); go_simp
 try simp only [Act.put, sA, sB, sC]
 refine ra 4 (some 11) rfl fun K hK => ?_
 go_simp
 go_at_call 80
 refine HL.out.mono ?_
 rintro e w2 ⟨rfl, hb2⟩
 have HB2 := zz (HBD.out.trans (hb2.mono HBD.out.size))
 have d5 := (HW.out w2 HB2.out).2.2.2.1
 have d6 := (HW.out w2 HB2.out).2.2.2.2.1
 have HR2 := zz (HR.out w2 HB2.out)
 clear hb2
 refine hK.out _ _ ⟨d5, d6⟩ (fun hHeld => ?_)
 clear hK K
 refine tk 5 12 (.int .i64 (P1 : Nat)) rfl (.inl ⟨by rfl, ?_⟩) hHeld ?_
 ·intro W9 hSW; (try dsimp only at hSW); go_simp
 try simp only [Act.put, sA, sB, sC]
 refine ra 10 (some 17) rfl fun K hK => ?_
 go_simp
 go_at_call 80
 refine HR2.out.mono ?_
 rintro e w3 ⟨rfl, hb3⟩
 have HB3 := zz (HB2.out.trans (hb3.mono HB2.out.size))
 have f5 := (HW.out w3 HB3.out).2.2.2.1
 have f6 := (HW.out w3 HB3.out).2.2.2.2.1
 clear hb3
 refine hK.out _ _ ⟨f5, f6⟩ (fun hHeld => ?_)
 clear hK K
 refine tk 11 18 (.int .i64 (P2 : Nat)) rfl (.inl ⟨by rfl, ?_⟩) hHeld ?_
 ·intro W9 hSW; (try dsimp only at hSW); go_simp
 try simp only [Act.put, sA, sB, sC]
 refine tk 12 3 (.int .i64 (P2 : Nat)) rfl (.inl ⟨by rfl, ?_⟩) hHeld ?_
 ·intro W9 hSW; (try dsimp only at hSW); go_simp
 try simp only [Act.put, sA, sB, sC]
 refine wpAnyH_done (by kernel_rfl) ?_ _
 have c7 := (HW.out w3 HB3.out).2.2.2.2.2
 clear d5 d6 f5 f6 c5 c6 HP1 HP2 HL HR HR2 hHeld
 go_wp2_with fail
 go_loopw [3, 4] (fun s i wr => ∃ k N : Nat, k <= zs.len /\ i = .int .i64 k /\ s = .int .i64 N /\ N = P2 + kU (zs.toList.take k) /\ Below w.heap.size w wr) (fun _ i _ => zs.len - (intOf i).toNat)
 case atStart => exact ⟨0, P2, Nat.zero_le _, rfl, rfl, rfl, HB3.out⟩
 case round =>
  obtain ⟨k, N, hk, rfl, rfl, hN, hb⟩ := hrel
  have HBL := zz hb
  have HN := zz hN
  have c7 := (HW.out wr hb).2.2.2.2.2
  have hs := HSZ.out
  have hle := uS zs.toList k
  clear hb
  by_cases hlt : k < zs.len
  ·obtain ⟨x, hkx⟩ : ∃ x, zs.toList[k]? = some x := ⟨_, List.getElem?_eq_getElem (by rw [hs.2]; exact hlt)⟩
   obtain ⟨g, v, rfl, hcell, hxin⟩ := (HW.out wr HBL.out).2.2.1.at hkx
   have hki : (k : Int) < (zs.len : Int) := by omega
   have hkii : (0 : Int) <= (k : Int) /\ (k : Int) < (zs.len : Int) := by omega
   have hmem : x ∈ zs.toList := List.mem_of_getElem? hkx
   have htk := DA hkx
   have hle2 := uS zs.toList (k + 1)
   obtain ⟨PX, hPX⟩ : ∃ P, P = aJ x := ⟨_, rfl⟩
   have hlen : zs.len <= 9223372036854775807 := by
    have h9 := (HW.out wr HBL.out).2.2.1.1
    rcases h9 with ⟨_, e⟩ | ⟨_, _, e, e1, e2, _⟩
    ·omega
    ·unfold maxLen at e2; omega
   have hw : IntKind.i64.wrap ((k : Int) + 1) = (k : Int) + 1 := IntWalk.i64_in _ (by omega)
   have hwn : IntKind.i64.wrap ((N : Int) + (PX : Int)) = ((N + PX : Nat) : Int) := by rw [IntWalk.i64_in _ (by omega)]; omega
   have HE : Hid (Calls Tryz.prog 80 #[v] wr fun e w' => e = .returned (.int .i64 (PX : Nat)) /\ Below wr.heap.size wr w') := zz (by rw [hPX]; exact HA.out x hmem B wr v (Nat.le_trans HBB.out HBL.out.size) hxin)
   have HT : Hid (N + PX = P2 + kU (zs.toList.take (k + 1))) := zz (by omega)
   clear hkx hxin hmem htk hle hle2 hs hN hPX hlen
   go_wp2_with fail
   refine HE.out.mono ?_
   rintro e w4 ⟨rfl, hb4⟩
   have HB4 := zz (HBL.out.trans (hb4.mono HBL.out.size))
   clear hb4
   go_wp2_with fail
   exact ⟨⟨k + 1, N + PX, by omega, by go_num, rfl, HT.out, HB4.out⟩, by simp [intOf]; omega⟩
  ·have hki : ¬ (k : Int) < (zs.len : Int) := by omega
   have hkk : k = zs.len := by omega
   have HF : Hid (N = P2 + kU zs.toList) := zz (by rw [hN, hkk, <- hs.2, List.take_length])
   clear hkk hs hle hN
   go_wp2_with fail
   try simp only [Exit.inBlock, Exit.then]
   go_ret
   exact ⟨by rw [HF.out]; rfl, HBL.out⟩
mutual
theorem gC : ∀ x : Ex, aJ x <= 100000000 -> mG x
 | .nil, _ => DB
 | .mk c a n op nm l r zs, h => by
  have h' := h
  rw [aJ] at h'
  exact FJ (gC l (by omega)) (gC r (by omega)) (qH zs (by omega)) h
theorem qH : ∀ xs : Exs, dF xs <= 100000000 -> ∀ x ∈ xs.toList, mG x
 | .nil, _, x, hx => by cases hx
 | .cons y ys, h, x, hx => by
  rw [dF] at h
  rcases List.mem_cons.1 hx with e | e
  ·rw [e]; exact gC y (by omega)
  ·exact qH ys (by omega) x e
end
def kV : List St -> Nat
 | [] => 0
 | x :: xs => bK x + kV xs
theorem lR : ∀ xs : Sts, aW xs = kV xs.toL
 | .nil => rfl
 | .cons x xs => by
  rw [aW, lR xs]; rfl
theorem xK : ∀ (l : List St) (x : St), kV (l ++ [x]) = kV l + bK x
 | [], x => by show bK x + 0 = 0 + bK x; omega
 | y :: ys, x => by
  show bK y + kV (ys ++ [x]) = bK y + kV ys + bK x
  rw [xK ys x]; omega
theorem DC {l : List St} {k : Nat} {x : St} (h : l[k]? = some x) : kV (l.take (k + 1)) = kV (l.take k) + bK x := by
 rw [List.take_add_one, h, Option.toList_some, xK]
theorem uT : ∀ (l : List St) (k : Nat), kV (l.take k) <= kV l
 | [], k => by rw [List.take_nil]; exact Nat.le_refl _
 | x :: xs, 0 => Nat.zero_le _
 | x :: xs, k + 1 => by
  have := uT xs k
  show bK x + kV (xs.take k) <= bK x + kV xs
  omega
def lJ : List Ca -> Nat
 | [] => 0
 | x :: xs => cB x + lJ xs
theorem lS : ∀ xs : Cas, dM xs = lJ xs.toL
 | .nil => rfl
 | .cons x xs => by
  rw [dM, lS xs]; rfl
theorem xL : ∀ (l : List Ca) (x : Ca), lJ (l ++ [x]) = lJ l + cB x
 | [], x => by show cB x + 0 = 0 + cB x; omega
 | y :: ys, x => by
  show cB y + lJ (ys ++ [x]) = cB y + lJ ys + cB x
  rw [xL ys x]; omega
theorem DD {l : List Ca} {k : Nat} {x : Ca} (h : l[k]? = some x) : lJ (l.take (k + 1)) = lJ (l.take k) + cB x := by
 rw [List.take_add_one, h, Option.toList_some, xL]
theorem uU : ∀ (l : List Ca) (k : Nat), lJ (l.take k) <= lJ l
 | [], k => by rw [List.take_nil]; exact Nat.le_refl _
 | x :: xs, 0 => Nat.zero_le _
 | x :: xs, k + 1 => by
  have := uU xs k
  show cB x + lJ (xs.take k) <= cB x + lJ xs
  omega
def iQ (xs : Sts) : Prop := ∀ (B : Nat) (w : World) (v : Value), B <= w.heap.size -> StsF w (fun b => b < B) xs v -> Calls Tryz.prog 34 #[v] w fun e w' => e = .returned (.int .i64 (aW xs : Nat)) /\ Below w.heap.size w w'
def I8 : Ca -> Sts
 | .mk _ _ _ _ _ b => b
def I9 : St -> Prop
 | .mk _ _ _ _ _ thn els cs => iQ thn /\ iQ els /\ ∀ x ∈ cs.toL, iQ (I8 x)
theorem gD {B : Nat} (hb : Below B w w') : Keeps (fun k => B <= k) w w' := Keeps.of_below (S := fun k => B <= k) hb (fun _ _ e => e)
theorem eX {B : Nat} : ∀ b, b < B -> ¬ B <= b := fun _ h1 h2 => by omega
theorem StsF.below {B : Nat} {l : Sts} {v : Value} (h : StsF w (fun b => b < B) l v) (hb : Below B w w') : StsF w' (fun b => b < B) l v := cR h (gD hb) eX
theorem sX {F : Nat -> Prop} {v : Value} {n : Nat} (h : SlAt F v n) : n <= 9223372036854775807 := by
 rcases h with ⟨_, e⟩ | ⟨_, _, e, e1, e2, _⟩
 ·omega
 ·unfold maxLen at e2; omega
theorem jZ {xs : Sts} (hA : ∀ x ∈ xs.toL, I9 x) (hsz : aW xs <= 100000000) : iQ xs := by
 intro B w v hB hx
 obtain ⟨ao, cap, rfl⟩ := bM hx.1
 have hlen := sX hx.1
 have HA := zz hA
 have HBB := zz hB
 have HW : Hid (∀ W, Below w.heap.size w W -> StsF W (fun b => b < B) xs (.slice ao xs.len cap)) := zz fun W hb => hx.below (hb.mono hB)
 rw [lR] at hsz ⊢
 have HSZ : Hid (kV xs.toL <= 100000000 /\ xs.toL.length = xs.len /\ xs.len <= 9223372036854775807) := zz ⟨hsz, qB xs, hlen⟩
 clear hA hB hx hsz hlen
 go_enter Tryz.func34, Tryz.ntmps34
 go_wp2_with fail
 go_loopw [3, 4] (fun s i wr => ∃ k N : Nat, k <= xs.len /\ i = .int .i64 k /\ s = .int .i64 N /\ N = kV (xs.toL.take k) /\ Below w.heap.size w wr) (fun _ i _ => xs.len - (intOf i).toNat)
 case atStart => exact ⟨0, 0, Nat.zero_le _, rfl, rfl, rfl, Below.refl _ _⟩
 case round =>
  obtain ⟨k, N, hk, rfl, rfl, hN, hb⟩ := hrel
  obtain ⟨wo, rfl⟩ : ∃ u : World, u = wr := ⟨_, rfl⟩
  have HBL := zz hb
  have hs := HSZ.out
  have hle := uT xs.toL k
  clear hb
  by_cases hlt : k < xs.len
  ·obtain ⟨x, hkx⟩ : ∃ x, xs.toL[k]? = some x := ⟨_, List.getElem?_eq_getElem (by rw [hs.2.1]; exact hlt)⟩
   have hw0 := HW.out wo HBL.out
   obtain ⟨g, rfl⟩ : ∃ g, ao = some ⟨g, 0, none⟩ := by
    rcases hw0.1 with ⟨_, e0⟩ | ⟨g, cp, e, _⟩
    ·omega
    ·injection e with e1 _ _; exact ⟨g, e1⟩
   have hin := E8 xs 0 (hw0.2 g _ _ rfl) k x hkx
   rw [Nat.zero_add] at hin
   obtain ⟨c, a, nm, dst, val, thn, els, cs, o1, o2, a5, k5, a6, k6, a7, k7, rfl, c0, c1, c2, c3, c4, c5, c6, c7, hv⟩ := qE hin
   have hki : (k : Int) < (xs.len : Int) := by omega
   have hkii : (0 : Int) <= (k : Int) /\ (k : Int) < (xs.len : Int) := by omega
   have hw : IntKind.i64.wrap ((k : Int) + 1) = (k : Int) + 1 := IntWalk.i64_in _ (by omega)
   have hmem := HA.out _ (List.mem_of_getElem? hkx)
   have htk := DC hkx
   have hle2 := uT xs.toL (k + 1)
   obtain ⟨P1, hP1⟩ : ∃ P, P = aJ dst := ⟨_, rfl⟩
   obtain ⟨P2, hP2⟩ : ∃ P, P = aJ val := ⟨_, rfl⟩
   obtain ⟨P3, hP3⟩ : ∃ P, P = aW thn := ⟨_, rfl⟩
   obtain ⟨P4, hP4⟩ : ∃ P, P = aW els := ⟨_, rfl⟩
   rw [bK, lS, <- hP1, <- hP2, <- hP3, <- hP4] at htk
   obtain ⟨Q1, hQ1⟩ : ∃ P, P = 1 + P1 := ⟨_, rfl⟩
   obtain ⟨Q2, hQ2⟩ : ∃ P, P = Q1 + P2 := ⟨_, rfl⟩
   obtain ⟨Q3, hQ3⟩ : ∃ P, P = Q2 + P3 := ⟨_, rfl⟩
   obtain ⟨Q4, hQ4⟩ : ∃ P, P = Q3 + P4 := ⟨_, rfl⟩
   obtain ⟨N2, hN2⟩ : ∃ P, P = N + Q4 := ⟨_, rfl⟩
   have hq1 : IntKind.i64.wrap (1 + (P1 : Int)) = (Q1 : Int) := by rw [IntWalk.i64_in _ (by omega)]; omega
   have hq2 : IntKind.i64.wrap ((Q1 : Int) + (P2 : Int)) = (Q2 : Int) := by rw [IntWalk.i64_in _ (by omega)]; omega
   have hq3 : IntKind.i64.wrap ((Q2 : Int) + (P3 : Int)) = (Q3 : Int) := by rw [IntWalk.i64_in _ (by omega)]; omega
   have hq4 : IntKind.i64.wrap ((Q3 : Int) + (P4 : Int)) = (Q4 : Int) := by rw [IntWalk.i64_in _ (by omega)]; omega
   have hq5 : IntKind.i64.wrap ((N : Int) + (Q4 : Int)) = (N2 : Int) := by rw [IntWalk.i64_in _ (by omega)]; omega
   have HTT : Hid (N2 + lJ cs.toL = kV (xs.toL.take (k + 1)) /\ N2 + lJ cs.toL <= 100000000 /\ cs.toL.length = cs.len /\ cs.len <= 9223372036854775807) := zz ⟨by omega, by omega, qA cs, sX hv.2.2.2.2.2.2.1⟩
   obtain ⟨wq, hwq⟩ : ∃ W, W = wo.alloc (.cells #[.int .i64 (c : Nat), .int .i64 (a : Nat), .string (mkT nm), .pointer o1, .pointer o2, .slice a5 thn.len k5, .slice a6 els.len k6, .slice a7 cs.len k7] 71) := ⟨_, rfl⟩
   have HWQ := zz hwq
   have hbq : Below wo.heap.size wo wq := by rw [hwq]; exact cF wo _ _
   have HBQ := zz (HBL.out.trans (hbq.mono HBL.out.size))
   have HV : Hid (∀ W, Below wq.heap.size wq W -> StV W (fun b => b < B) (.pointer o1) (.pointer o2) (.slice a5 thn.len k5) (.slice a6 els.len k6) (.slice a7 cs.len k7) dst val thn els cs) := zz fun W hb => hv.keeps (gD ((hbq.trans (hb.mono hbq.size)).mono (Nat.le_trans HBB.out HBL.out.size))) eX
   have hz : wo.heap.size < wq.heap.size := by rw [hwq]; simp
   have HS : Hid (∀ W, Below wq.heap.size wq W -> W.cell? ⟨wo.heap.size, 3, none⟩ = some (.pointer o1) /\ W.cell? ⟨wo.heap.size, 4, none⟩ = some (.pointer o2) /\ W.cell? ⟨wo.heap.size, 5, none⟩ = some (.slice a5 thn.len k5) /\ W.cell? ⟨wo.heap.size, 6, none⟩ = some (.slice a6 els.len k6) /\ W.cell? ⟨wo.heap.size, 7, none⟩ = some (.slice a7 cs.len k7)) := zz fun W hb => by
    have h8 := heap_alloc_new wo (.cells #[.int .i64 (c : Nat), .int .i64 (a : Nat), .string (mkT nm), .pointer o1, .pointer o2, .slice a5 thn.len k5, .slice a6 els.len k6, .slice a7 cs.len k7] 71)
    rw [<- hwq] at h8
    refine ⟨?_, ?_, ?_, ?_, ?_⟩
    all_goals
     first
      | (rw [hb.cell (p := ⟨wo.heap.size, 3, none⟩) hz, Lib.cell_of_heap h8]; rfl)
      | (rw [hb.cell (p := ⟨wo.heap.size, 4, none⟩) hz, Lib.cell_of_heap h8]; rfl)
      | (rw [hb.cell (p := ⟨wo.heap.size, 5, none⟩) hz, Lib.cell_of_heap h8]; rfl)
      | (rw [hb.cell (p := ⟨wo.heap.size, 6, none⟩) hz, Lib.cell_of_heap h8]; rfl)
      | (rw [hb.cell (p := ⟨wo.heap.size, 7, none⟩) hz, Lib.cell_of_heap h8]; rfl)
   have HLB : Hid (∀ W, Below wq.heap.size wq W -> B <= W.heap.size) := zz fun W hb => Nat.le_trans (Nat.le_trans HBB.out HBQ.out.size) hb.size
   have HC1 : Hid (∀ W, Below wq.heap.size wq W -> Calls Tryz.prog 80 #[.pointer o1] W fun e w' => e = .returned (.int .i64 (P1 : Nat)) /\ Below W.heap.size W w') := zz fun W hb => by rw [hP1]; exact gC dst (by omega) B W _ (HLB.out W hb) (HV.out W hb).1
   have HC2 : Hid (∀ W, Below wq.heap.size wq W -> Calls Tryz.prog 80 #[.pointer o2] W fun e w' => e = .returned (.int .i64 (P2 : Nat)) /\ Below W.heap.size W w') := zz fun W hb => by rw [hP2]; exact gC val (by omega) B W _ (HLB.out W hb) (HV.out W hb).2.1
   have HC3 : Hid (∀ W, Below wq.heap.size wq W -> Calls Tryz.prog 34 #[.slice a5 thn.len k5] W fun e w' => e = .returned (.int .i64 (P3 : Nat)) /\ Below W.heap.size W w') := zz fun W hb => by rw [hP3]; exact hmem.1 B W _ (HLB.out W hb) ⟨(HV.out W hb).2.2.1, (HV.out W hb).2.2.2.1⟩
   have HC4 : Hid (∀ W, Below wq.heap.size wq W -> Calls Tryz.prog 34 #[.slice a6 els.len k6] W fun e w' => e = .returned (.int .i64 (P4 : Nat)) /\ Below W.heap.size W w') := zz fun W hb => by rw [hP4]; exact hmem.2.1 B W _ (HLB.out W hb) ⟨(HV.out W hb).2.2.2.2.1, (HV.out W hb).2.2.2.2.2.1⟩
   have HCS := zz hmem.2.2
   have HBD : Hid (Below wq.heap.size wq wq.drew) := zz (Below.drew (Below.refl _ wq))
   obtain ⟨s3, s4, s5, s6, s7⟩ := HS.out wq (Below.refl _ _)
   clear hkx hin hw0 hmem htk hle hle2 hs hN hwq hbq hv hz hP1 hP2 hP3 hP4 hQ1 hQ2 hQ3 hQ4 hN2 s7
   go_upto_region 6 with fail
   rw [<- HWQ.out]
   refine wp_region_held_drew (S := (fun W' : World => W'.cell? ⟨wo.heap.size, 3, none⟩ = some (.pointer o1) /\ W'.cell? ⟨wo.heap.size, 4, none⟩ = some (.pointer o2) /\ W'.cell? ⟨wo.heap.size, 5, none⟩ = some (.slice a5 thn.len k5) /\ W'.cell? ⟨wo.heap.size, 6, none⟩ = some (.slice a6 els.len k6))) (by kernel_rfl) ⟨by simp only [World.cell?_drew]; assumption, by simp only [World.cell?_drew]; assumption, by simp only [World.cell?_drew]; assumption, by simp only [World.cell?_drew]; assumption⟩ (fun hHeld => ?_)
   refine tk 0 17 (.int .i64 (N : Nat)) rfl (.inl ⟨by rfl, ?_⟩) hHeld ?_
   ·intro W9 hSW; (try dsimp only at hSW); go_simp
   try simp only [Act.put, sA, sB, sC]
   refine tk 1 18 (.pointer (some ⟨wo.heap.size, 3, none⟩)) rfl (.inl ⟨by rfl, ?_⟩) hHeld ?_
   ·intro W9 hSW; (try dsimp only at hSW); go_simp
   try simp only [Act.put, sA, sB, sC]
   refine tk 2 19 (.pointer o1) rfl (.inl ⟨by rfl, ?_⟩) hHeld ?_
   ·intro W9 hSW; (try dsimp only at hSW); go_simp
   try simp only [Act.put, sA, sB, sC]
   refine tk 5 22 (.pointer (some ⟨wo.heap.size, 4, none⟩)) rfl (.inl ⟨by rfl, ?_⟩) hHeld ?_
   ·intro W9 hSW; (try dsimp only at hSW); go_simp
   try simp only [Act.put, sA, sB, sC]
   refine tk 6 23 (.pointer o2) rfl (.inl ⟨by rfl, ?_⟩) hHeld ?_
   ·intro W9 hSW; (try dsimp only at hSW); go_simp
   try simp only [Act.put, sA, sB, sC]
   refine tk 9 26 (.pointer (some ⟨wo.heap.size, 5, none⟩)) rfl (.inl ⟨by rfl, ?_⟩) hHeld ?_
   ·intro W9 hSW; (try dsimp only at hSW); go_simp
   try simp only [Act.put, sA, sB, sC]
   refine tk 10 27 (.slice a5 thn.len k5) rfl (.inl ⟨by rfl, ?_⟩) hHeld ?_
   ·intro W9 hSW; (try dsimp only at hSW); go_simp
   try simp only [Act.put, sA, sB, sC]
   refine tk 13 30 (.pointer (some ⟨wo.heap.size, 6, none⟩)) rfl (.inl ⟨by rfl, ?_⟩) hHeld ?_
   ·intro W9 hSW; (try dsimp only at hSW); go_simp
   try simp only [Act.put, sA, sB, sC]
   refine tk 14 31 (.slice a6 els.len k6) rfl (.inl ⟨by rfl, ?_⟩) hHeld ?_
   ·intro W9 hSW; (try dsimp only at hSW); go_simp
   try simp only [Act.put, sA, sB, sC]
   refine ra 3 (some 20) rfl fun K hK => ?_
   go_simp
   go_at_call 80
   refine (HC1.out _ HBD.out).mono ?_
   rintro e w2 ⟨rfl, hb2⟩
   have HB2 := zz (HBD.out.trans (hb2.mono HBD.out.size))
   have d2 := HS.out w2 HB2.out
   clear hb2
   refine hK.out _ _ ⟨d2.1, d2.2.1, d2.2.2.1, d2.2.2.2.1⟩ (fun hHeld => ?_)
   clear hK K d2
   refine tk 4 21 (.int .i64 (Q1 : Nat)) rfl (.inl ⟨by rfl, ?_⟩) hHeld ?_
   ·intro W9 hSW; (try dsimp only at hSW); go_simp
   try simp only [Act.put, sA, sB, sC]
   refine ra 7 (some 24) rfl fun K hK => ?_
   go_simp
   go_at_call 80
   refine (HC2.out _ HB2.out).mono ?_
   rintro e w3 ⟨rfl, hb3⟩
   have HB3 := zz (HB2.out.trans (hb3.mono HB2.out.size))
   have d3 := HS.out w3 HB3.out
   clear hb3
   refine hK.out _ _ ⟨d3.1, d3.2.1, d3.2.2.1, d3.2.2.2.1⟩ (fun hHeld => ?_)
   clear hK K d3
   refine tk 8 25 (.int .i64 (Q2 : Nat)) rfl (.inl ⟨by rfl, ?_⟩) hHeld ?_
   ·intro W9 hSW; (try dsimp only at hSW); go_simp
   try simp only [Act.put, sA, sB, sC]
   refine ra 11 (some 28) rfl fun K hK => ?_
   go_simp
   go_at_call 34
   refine (HC3.out _ HB3.out).mono ?_
   rintro e w4 ⟨rfl, hb4⟩
   have HB4 := zz (HB3.out.trans (hb4.mono HB3.out.size))
   have d4 := HS.out w4 HB4.out
   clear hb4
   refine hK.out _ _ ⟨d4.1, d4.2.1, d4.2.2.1, d4.2.2.2.1⟩ (fun hHeld => ?_)
   clear hK K d4
   refine tk 12 29 (.int .i64 (Q3 : Nat)) rfl (.inl ⟨by rfl, ?_⟩) hHeld ?_
   ·intro W9 hSW; (try dsimp only at hSW); go_simp
   try simp only [Act.put, sA, sB, sC]
   refine ra 15 (some 32) rfl fun K hK => ?_
   go_simp
   go_at_call 34
   refine (HC4.out _ HB4.out).mono ?_
   rintro e w5 ⟨rfl, hb5⟩
   have HB5 := zz (HB4.out.trans (hb5.mono HB4.out.size))
   have d5 := HS.out w5 HB5.out
   clear hb5
   refine hK.out _ _ ⟨d5.1, d5.2.1, d5.2.2.1, d5.2.2.2.1⟩ (fun hHeld => ?_)
   clear hK K d5
   refine tk 16 33 (.int .i64 (Q4 : Nat)) rfl (.inl ⟨by rfl, ?_⟩) hHeld ?_
   ·intro W9 hSW; (try dsimp only at hSW); go_simp
   try simp only [Act.put, sA, sB, sC]
   refine tk 17 34 (.int .i64 (N2 : Nat)) rfl (.inl ⟨by rfl, ?_⟩) hHeld ?_
   ·intro W9 hSW; (try dsimp only at hSW); go_simp
   try simp only [Act.put, sA, sB, sC]
   refine tk 18 3 (.int .i64 (N2 : Nat)) rfl (.inl ⟨by rfl, ?_⟩) hHeld ?_
   ·intro W9 hSW; (try dsimp only at hSW); go_simp
   try simp only [Act.put, sA, sB, sC]
   refine wpAnyH_done (by kernel_rfl) ?_ _
   clear hHeld s3 s4 s5 s6 hq1 hq2 hq3 hq4 hq5 c0 c1 c2 c3 c4 c5 c6 c7
   have s7 := (HS.out w5 HB5.out).2.2.2.2
   go_wp2_with fail
   go_loopw [3, 6] (fun s i wr => ∃ j M : Nat, j <= cs.len /\ i = .int .i64 j /\ s = .int .i64 M /\ M = N2 + lJ (cs.toL.take j) /\ Below wq.heap.size wq wr) (fun _ i _ => cs.len - (intOf i).toNat)
   case atStart => exact ⟨0, N2, Nat.zero_le _, rfl, rfl, rfl, HB5.out⟩
   case round =>
    obtain ⟨j, M, hj, rfl, rfl, hM, hb⟩ := hrel
    have HBM := zz hb
    have s7 := (HS.out wr hb).2.2.2.2
    have ht := HTT.out
    have hle := uU cs.toL j
    clear hb
    by_cases hjl : j < cs.len
    ·obtain ⟨x, hjx⟩ : ∃ x, cs.toL[j]? = some x := ⟨_, List.getElem?_eq_getElem (by rw [ht.2.2.1]; exact hjl)⟩
     have hcf : CasF wr (fun b => b < B) cs (.slice a7 cs.len k7) := ⟨(HV.out wr HBM.out).2.2.2.2.2.2.1, (HV.out wr HBM.out).2.2.2.2.2.2.2⟩
     obtain ⟨g2, rfl⟩ : ∃ g, a7 = some ⟨g, 0, none⟩ := by
      rcases hcf.1 with ⟨_, e0⟩ | ⟨g, cp, e, _⟩
      ·omega
      ·injection e with e1 _ _; exact ⟨g, e1⟩
     have hin := E9 cs 0 (hcf.2 g2 _ _ rfl) j x hjx
     have hlt2 : g2 < B := hcf.1.mem rfl
     rw [Nat.zero_add] at hin
     obtain ⟨c', a', nm', dst', val', body, p1, p2, b5, l5, rfl, e0, e1, e2, e3, e4, e5, h1, h2, h3, h4⟩ := qF hin
     have hji : (j : Int) < (cs.len : Int) := by omega
     have hjii : (0 : Int) <= (j : Int) /\ (j : Int) < (cs.len : Int) := by omega
     have hwj : IntKind.i64.wrap ((j : Int) + 1) = (j : Int) + 1 := IntWalk.i64_in _ (by omega)
     have hmem := HCS.out _ (List.mem_of_getElem? hjx)
     have htk := DD hjx
     have hle2 := uU cs.toL (j + 1)
     obtain ⟨U1, hU1⟩ : ∃ P, P = aJ dst' := ⟨_, rfl⟩
     obtain ⟨U2, hU2⟩ : ∃ P, P = aJ val' := ⟨_, rfl⟩
     obtain ⟨U3, hU3⟩ : ∃ P, P = aW body := ⟨_, rfl⟩
     rw [cB, <- hU1, <- hU2, <- hU3] at htk
     obtain ⟨T1, hT1⟩ : ∃ P, P = 1 + U1 := ⟨_, rfl⟩
     obtain ⟨T2, hT2⟩ : ∃ P, P = T1 + U2 := ⟨_, rfl⟩
     obtain ⟨T3, hT3⟩ : ∃ P, P = T2 + U3 := ⟨_, rfl⟩
     obtain ⟨M2, hM2⟩ : ∃ P, P = M + T3 := ⟨_, rfl⟩
     have ht1 : IntKind.i64.wrap (1 + (U1 : Int)) = (T1 : Int) := by rw [IntWalk.i64_in _ (by omega)]; omega
     have ht2 : IntKind.i64.wrap ((T1 : Int) + (U2 : Int)) = (T2 : Int) := by rw [IntWalk.i64_in _ (by omega)]; omega
     have ht3 : IntKind.i64.wrap ((T2 : Int) + (U3 : Int)) = (T3 : Int) := by rw [IntWalk.i64_in _ (by omega)]; omega
     have ht4 : IntKind.i64.wrap ((M : Int) + (T3 : Int)) = (M2 : Int) := by rw [IntWalk.i64_in _ (by omega)]; omega
     have HMM : Hid (M2 = N2 + lJ (cs.toL.take (j + 1))) := zz (by omega)
     have hB' := HLB.out wr HBM.out
     have HBE : Hid (Below wr.heap.size wr wr.drew) := zz (Below.drew (Below.refl _ wr))
     have HT : Hid (∀ W, Below wr.heap.size wr W -> W.cell? ⟨wo.heap.size, 7, none⟩ = some (.slice (some ⟨g2, 0, none⟩) cs.len k7) /\ W.cell? ⟨g2, j * 6 + 3, none⟩ = some (.pointer p1) /\ W.cell? ⟨g2, j * 6 + 4, none⟩ = some (.pointer p2) /\ W.cell? ⟨g2, j * 6 + 5, none⟩ = some (.slice b5 body.len l5)) := zz fun W hb => by
      have hk := gD (hb.mono hB')
      exact ⟨(HS.out W (HBM.out.trans (hb.mono HBM.out.size))).2.2.2.2, hk.cell_of e3 (eX _ hlt2), hk.cell_of e4 (eX _ hlt2), hk.cell_of e5 (eX _ hlt2)⟩
     have HD1 : Hid (∀ W, Below wr.heap.size wr W -> Calls Tryz.prog 80 #[.pointer p1] W fun e w' => e = .returned (.int .i64 (U1 : Nat)) /\ Below W.heap.size W w') := zz fun W hb => by rw [hU1]; exact gC dst' (by omega) B W _ (Nat.le_trans hB' hb.size) (h1.below (hb.mono hB'))
     have HD2 : Hid (∀ W, Below wr.heap.size wr W -> Calls Tryz.prog 80 #[.pointer p2] W fun e w' => e = .returned (.int .i64 (U2 : Nat)) /\ Below W.heap.size W w') := zz fun W hb => by rw [hU2]; exact gC val' (by omega) B W _ (Nat.le_trans hB' hb.size) (h2.below (hb.mono hB'))
     have HD3 : Hid (∀ W, Below wr.heap.size wr W -> Calls Tryz.prog 34 #[.slice b5 body.len l5] W fun e w' => e = .returned (.int .i64 (U3 : Nat)) /\ Below W.heap.size W w') := zz fun W hb => by rw [hU3]; exact hmem B W _ (Nat.le_trans hB' hb.size) (StsF.below ⟨h3, h4⟩ (hb.mono hB'))
     obtain ⟨s7, f3, f4, f5⟩ := HT.out wr (Below.refl _ _)
     clear hjx hin hcf hmem htk hle hle2 ht hM h1 h2 h3 h4 hU1 hU2 hU3 hT1 hT2 hT3 hM2 hB' hlt2 e0 e1 e2 e3 e4 e5
     go_upto_region 10 with fail
     refine wp_region_held_drew (S := (fun W' : World => W'.cell? ⟨wo.heap.size, 7, none⟩ = some (.slice (some ⟨g2, 0, none⟩) cs.len k7) /\ W'.cell? ⟨g2, j * 6 + 3, none⟩ = some (.pointer p1) /\ W'.cell? ⟨g2, j * 6 + 4, none⟩ = some (.pointer p2) /\ W'.cell? ⟨g2, j * 6 + 5, none⟩ = some (.slice b5 body.len l5))) (by kernel_rfl) ⟨by simp only [World.cell?_drew]; assumption, by simp only [World.cell?_drew]; assumption, by simp only [World.cell?_drew]; assumption, by simp only [World.cell?_drew]; assumption⟩ (fun hHeld => ?_)
     refine tk 0 42 (.int .i64 (M : Nat)) rfl (.inl ⟨by rfl, ?_⟩) hHeld ?_
     ·intro W9 hSW; (try dsimp only at hSW); go_simp
     try simp only [Act.put, sA, sB, sC]
     refine tk 1 43 (.pointer (some ⟨wo.heap.size, 7, none⟩)) rfl (.inl ⟨by rfl, ?_⟩) hHeld ?_
     ·intro W9 hSW; (try dsimp only at hSW); go_simp
     try simp only [Act.put, sA, sB, sC]
     refine tk 2 44 (.slice (some ⟨g2, 0, none⟩) cs.len k7) rfl (.inl ⟨by rfl, ?_⟩) hHeld ?_
     ·intro W9 hSW; (try dsimp only at hSW); go_simp
     try simp only [Act.put, sA, sB, sC]
     refine tk 3 45 (.int .i64 (j : Nat)) rfl (.inl ⟨by rfl, ?_⟩) hHeld ?_
     ·intro W9 hSW; (try dsimp only at hSW); go_simp
     try simp only [Act.put, sA, sB, sC]
     refine tk 4 46 (.pointer (some ⟨g2, j * 6, none⟩)) rfl (.inl ⟨by rfl, ?_⟩) hHeld ?_
     ·intro W9 hSW; (try dsimp only at hSW); go_simp
     try simp only [Act.put, sA, sB, sC]
     refine tk 5 47 (.pointer (some ⟨g2, j * 6 + 3, none⟩)) rfl (.inl ⟨by rfl, ?_⟩) hHeld ?_
     ·intro W9 hSW; (try dsimp only at hSW); go_simp
     try simp only [Act.put, sA, sB, sC]
     refine tk 6 48 (.pointer p1) rfl (.inl ⟨by rfl, ?_⟩) hHeld ?_
     ·intro W9 hSW; (try dsimp only at hSW); go_simp
     try simp only [Act.put, sA, sB, sC]
     refine tk 9 51 (.pointer (some ⟨wo.heap.size, 7, none⟩)) rfl (.inl ⟨by rfl, ?_⟩) hHeld ?_
     ·intro W9 hSW; (try dsimp only at hSW); go_simp
     try simp only [Act.put, sA, sB, sC]
     refine tk 10 52 (.slice (some ⟨g2, 0, none⟩) cs.len k7) rfl (.inl ⟨by rfl, ?_⟩) hHeld ?_
     ·intro W9 hSW; (try dsimp only at hSW); go_simp
     try simp only [Act.put, sA, sB, sC]
     refine tk 11 53 (.int .i64 (j : Nat)) rfl (.inl ⟨by rfl, ?_⟩) hHeld ?_
     ·intro W9 hSW; (try dsimp only at hSW); go_simp
     try simp only [Act.put, sA, sB, sC]
     refine tk 12 54 (.pointer (some ⟨g2, j * 6, none⟩)) rfl (.inl ⟨by rfl, ?_⟩) hHeld ?_
     ·intro W9 hSW; (try dsimp only at hSW); go_simp
     try simp only [Act.put, sA, sB, sC]
     refine tk 13 55 (.pointer (some ⟨g2, j * 6 + 4, none⟩)) rfl (.inl ⟨by rfl, ?_⟩) hHeld ?_
     ·intro W9 hSW; (try dsimp only at hSW); go_simp
     try simp only [Act.put, sA, sB, sC]
     refine tk 14 56 (.pointer p2) rfl (.inl ⟨by rfl, ?_⟩) hHeld ?_
     ·intro W9 hSW; (try dsimp only at hSW); go_simp
     try simp only [Act.put, sA, sB, sC]
     refine tk 17 59 (.pointer (some ⟨wo.heap.size, 7, none⟩)) rfl (.inl ⟨by rfl, ?_⟩) hHeld ?_
     ·intro W9 hSW; (try dsimp only at hSW); go_simp
     try simp only [Act.put, sA, sB, sC]
     refine tk 18 60 (.slice (some ⟨g2, 0, none⟩) cs.len k7) rfl (.inl ⟨by rfl, ?_⟩) hHeld ?_
     ·intro W9 hSW; (try dsimp only at hSW); go_simp
     try simp only [Act.put, sA, sB, sC]
     refine tk 19 61 (.int .i64 (j : Nat)) rfl (.inl ⟨by rfl, ?_⟩) hHeld ?_
     ·intro W9 hSW; (try dsimp only at hSW); go_simp
     try simp only [Act.put, sA, sB, sC]
     refine tk 20 62 (.pointer (some ⟨g2, j * 6, none⟩)) rfl (.inl ⟨by rfl, ?_⟩) hHeld ?_
     ·intro W9 hSW; (try dsimp only at hSW); go_simp
     try simp only [Act.put, sA, sB, sC]
     refine tk 21 63 (.pointer (some ⟨g2, j * 6 + 5, none⟩)) rfl (.inl ⟨by rfl, ?_⟩) hHeld ?_
     ·intro W9 hSW; (try dsimp only at hSW); go_simp
     try simp only [Act.put, sA, sB, sC]
     refine tk 22 64 (.slice b5 body.len l5) rfl (.inl ⟨by rfl, ?_⟩) hHeld ?_
     ·intro W9 hSW; (try dsimp only at hSW); go_simp
     try simp only [Act.put, sA, sB, sC]
     refine ra 7 (some 49) rfl fun K hK => ?_
     go_simp
     go_at_call 80
     refine (HD1.out _ HBE.out).mono ?_
     rintro e w6 ⟨rfl, hb6⟩
     have HB6 := zz (HBE.out.trans (hb6.mono HBE.out.size))
     have d6 := HT.out w6 HB6.out
     clear hb6
     refine hK.out _ _ ⟨d6.1, d6.2.1, d6.2.2.1, d6.2.2.2⟩ (fun hHeld => ?_)
     clear hK K d6
     refine tk 8 50 (.int .i64 (T1 : Nat)) rfl (.inl ⟨by rfl, ?_⟩) hHeld ?_
     ·intro W9 hSW; (try dsimp only at hSW); go_simp
     try simp only [Act.put, sA, sB, sC]
     refine ra 15 (some 57) rfl fun K hK => ?_
     go_simp
     go_at_call 80
     refine (HD2.out _ HB6.out).mono ?_
     rintro e w7 ⟨rfl, hb7⟩
     have HB7 := zz (HB6.out.trans (hb7.mono HB6.out.size))
     have d7 := HT.out w7 HB7.out
     clear hb7
     refine hK.out _ _ ⟨d7.1, d7.2.1, d7.2.2.1, d7.2.2.2⟩ (fun hHeld => ?_)
     clear hK K d7
     refine tk 16 58 (.int .i64 (T2 : Nat)) rfl (.inl ⟨by rfl, ?_⟩) hHeld ?_
     ·intro W9 hSW; (try dsimp only at hSW); go_simp
     try simp only [Act.put, sA, sB, sC]
     refine ra 23 (some 65) rfl fun K hK => ?_
     go_simp
     go_at_call 34
     refine (HD3.out _ HB7.out).mono ?_
     rintro e w8 ⟨rfl, hb8⟩
     have HB8 := zz (HB7.out.trans (hb8.mono HB7.out.size))
     have d8 := HT.out w8 HB8.out
     clear hb8
     refine hK.out _ _ ⟨d8.1, d8.2.1, d8.2.2.1, d8.2.2.2⟩ (fun hHeld => ?_)
     clear hK K d8
     refine tk 24 66 (.int .i64 (T3 : Nat)) rfl (.inl ⟨by rfl, ?_⟩) hHeld ?_
     ·intro W9 hSW; (try dsimp only at hSW); go_simp
     try simp only [Act.put, sA, sB, sC]
     refine tk 25 67 (.int .i64 (M2 : Nat)) rfl (.inl ⟨by rfl, ?_⟩) hHeld ?_
     ·intro W9 hSW; (try dsimp only at hSW); go_simp
     try simp only [Act.put, sA, sB, sC]
     refine tk 26 3 (.int .i64 (M2 : Nat)) rfl (.inl ⟨by rfl, ?_⟩) hHeld ?_
     ·intro W9 hSW; (try dsimp only at hSW); go_simp
     try simp only [Act.put, sA, sB, sC]
     refine wpAnyH_done (by kernel_rfl) ?_ _
     clear hHeld f3 f4 f5 s7 ht1 ht2 ht3 ht4
     go_wp2_with fail
     go_roundw
     case rel => exact ⟨j + 1, M2, by omega, by go_num, rfl, HMM.out, HBM.out.trans (HB8.out.mono HBM.out.size)⟩
     case measure => simp [intOf]; omega
    ·have hji : ¬ (j : Int) < (cs.len : Int) := by omega
     have hjj : j = cs.len := by omega
     have HF : Hid (M = kV (xs.toL.take (k + 1))) := zz (by rw [hM, hjj, <- ht.2.2.1, List.take_length]; exact ht.1)
     clear hjj ht hle hM
     go_wp2_with fail
     go_roundw
     case rel => exact ⟨k + 1, M, by omega, by go_num, rfl, HF.out, HBQ.out.trans (HBM.out.mono HBQ.out.size)⟩
     case measure => simp [intOf]; omega
  ·have hki : ¬ (k : Int) < (xs.len : Int) := by omega
   have hkk : k = xs.len := by omega
   have HF : Hid (N = kV xs.toL) := zz (by rw [hN, hkk, <- hs.2.1, List.take_length])
   clear hkk hs hle hN
   go_wp2_with fail
   try simp only [Exit.inBlock, Exit.then]
   go_ret
   exact ⟨by rw [HF.out]; rfl, HBL.out⟩
mutual
theorem nC : ∀ xs : Sts, aW xs <= 100000000 -> ∀ x ∈ xs.toL, I9 x
 | .nil, _, x, hx => by cases hx
 | .cons (.mk c a nm dst val thn els cs) ss, h, x, hx => by
  rw [aW, bK] at h
  rcases List.mem_cons.1 hx with e | e
  ·rw [e]; exact ⟨jZ (nC thn (by omega)) (by omega), jZ (nC els (by omega)) (by omega), A4 cs (by omega)⟩
  ·exact nC ss (by omega) x e
theorem A4 : ∀ cs : Cas, dM cs <= 100000000 -> ∀ x ∈ cs.toL, iQ (I8 x)
 | .nil, _, x, hx => by cases hx
 | .cons (.mk c a nm dst val body) ss, h, x, hx => by
  rw [dM, cB] at h
  rcases List.mem_cons.1 hx with e | e
  ·rw [e]; show iQ body; exact jZ (nC body (by omega)) (by omega)
  ·exact A4 ss (by omega) x e
end
theorem qI (xs : Sts) (h : aW xs <= 100000000) : iQ xs := jZ (nC xs h) h
def dV : Bool -> List Ex -> B
 | _, [] => []
 | f, x :: xs => (if f then [] else [44, 32]) ++ (exV 1 x ++ dV false xs)
theorem sY : ∀ (l : List Ex) (f : Bool) (x : Ex), dV f (l ++ [x]) = dV f l ++ ((if f = true /\ l = [] then [] else [44, 32]) ++ exV 1 x)
 | [], f, x => by
  show (if f then [] else [44, 32]) ++ (exV 1 x ++ []) = [] ++ _
  cases f <;> simp
 | y :: l, f, x => by
  show (if f then [] else [44, 32]) ++ (exV 1 y ++ dV false (l ++ [x])) = ((if f then [] else [44, 32]) ++ (exV 1 y ++ dV false l)) ++ _
  rw [sY l false x, if_neg (show ¬ (false = true /\ l = []) from fun e => by cases e.1), if_neg (show ¬ (f = true /\ y :: l = []) from fun e => by cases e.2)]
  simp only [List.append_assoc]
theorem sZ : ∀ (xs : Exs) (f : Bool), fH f xs = dV f xs.toList
 | .nil, _ => rfl
 | .cons x xs, f => by
  show (if f then [] else [44, 32]) ++ (exW 1 x (aF x) ++ fH false xs) = _
  rw [sZ xs false]; rfl
theorem Exs.len_list : ∀ (xs : Exs), xs.toList.length = xs.len
 | .nil => rfl
 | .cons _ xs => congrArg (· + 1) (Exs.len_list xs)
theorem A5 : ∀ (l : List Ex) (k : Nat) (f : Bool), (dV f (l.take k)).length <= (dV f l).length
 | [], k, f => by simp [dV]
 | x :: xs, 0, f => Nat.zero_le _
 | x :: xs, k + 1, f => by
  show ((if f then [] else [44, 32]) ++ (exV 1 x ++ dV false (xs.take k))).length <= ((if f then [] else [44, 32]) ++ (exV 1 x ++ dV false xs)).length
  have := A5 xs k false
  simp only [List.length_append]
  omega
theorem s8 : ∀ ys : List Ex, 2 * ys.length <= (dV false ys).length
 | [] => by simp
 | y :: ys => by
  have := s8 ys
  show 2 * (ys.length + 1) <= ([44, 32] ++ (exV 1 y ++ dV false ys)).length
  simp only [List.length_append, List.length_cons, List.length_nil]
  omega
theorem FK (l : List Ex) (f : Bool) : 2 * l.length <= (dV f l).length + 2 := by
 cases l with
 | nil => simp
 | cons x xs =>
  have := s8 xs
  show 2 * (xs.length + 1) <= ((if f then [] else [44, 32]) ++ (exV 1 x ++ dV false xs)).length + 2
  simp only [List.length_append]
  omega
def ArgsAt (B b : Nat) (w : World) (av : Value) (l : List Ex) : Prop :=
 (av = .slice none 0 0 /\ l = []) \/ ∃ g cap, av = .slice (some ⟨g, 0, none⟩) l.length cap /\ (∀ w', Below B w w' -> Others b w w' -> ∀ i : Nat, w'.cell? ⟨g, i, none⟩ = w.cell? ⟨g, i, none⟩) ∧
  ∀ i x, l[i]? = some x -> ∃ v, w.cell? ⟨g, i, none⟩ = some v /\ ExIn w (fun k => k < B) v x
theorem oB {B b : Nat} (name : Lx.B) (args : List Ex) (hA : ∀ x ∈ args, fS B b x) (l : List UInt8) (w : World) (av : Value) (h : PC B b l w) (hB : B <= w.heap.size) (hP : PEnv B w) (hx : ArgsAt B b w av args) (hlen : l.length + (name ++ ([40] ++ (dV true args ++ [41]))).length <= 100000000) :
  bT B b l (name ++ ([40] ++ (dV true args ++ [41]))) w 236 #[.pointer (some ⟨b, 0, none⟩), .string (mkT name), av] := by
 unfold bT
 obtain ⟨ao, cap, hav⟩ : ∃ ao cap, av = .slice ao args.length cap := by
  rcases hx with ⟨e1, e2⟩ | ⟨g, cap, e1, _⟩
  ·exact ⟨none, 0, by rw [e1, e2]; rfl⟩
  ·exact ⟨_, _, e1⟩
 subst hav
 have hl2 : (mkT name).data.toList = name := rfl
 have hn : args.length <= 100000000 := by
  have := FK args true
  simp only [List.length_append, List.length_singleton] at hlen
  omega
 simp only [List.length_append, List.length_singleton] at hlen
 have HPUT := zz (eW B b l [mkT name, ⟨#[40]⟩] w h hB (by show l.length + (name ++ ([40] ++ [])).length <= _; simp only [List.length_append, List.length_singleton, List.length_nil]; omega) (by simp))
 have HA := zz hA
 have HB := zz hB
 have HP := zz hP
 have HX := zz hx
 have HLN : Hid (l.length + (name.length + (1 + ((dV true args).length + 1))) <= 100000000) := zz hlen
 clear hA h hB hP hx hlen hl2
 go_enter Tryz.func236, Tryz.ntmps236
 go_wp2_with fail
 refine HPUT.out.mono ?_
 rintro e w1 ⟨rfl, h1, hb1, ho1⟩
 have HI0 : Hid (PC B b (l ++ (name ++ ([40] ++ dV true (args.take 0)))) w1) := zz h1
 have HB1 := zz hb1
 have HO1 := zz ho1
 clear h1 hb1 ho1
 go_wp2_with fail
 go_loopw [14, 6, 7] (fun i _ _ wr => ∃ k : Nat, k <= args.length /\ i = .int .i64 k /\ PC B b (l ++ (name ++ ([40] ++ dV true (args.take k)))) wr /\ Below B w wr /\ Others b w wr) (fun i _ _ _ => args.length - (intOf i).toNat)
 case atStart => exact ⟨0, Nat.zero_le _, rfl, HI0.out, HB1.out, HO1.out⟩
 case round =>
  obtain ⟨k, hk, rfl, hp, hb, ho⟩ := hrel
  have HPP := zz hp
  have HBL := zz hb
  have HO := zz ho
  clear hp hb ho
  by_cases hlt : k < args.length
  ·obtain ⟨x, hkx⟩ : ∃ x, args[k]? = some x := ⟨_, List.getElem?_eq_getElem hlt⟩
   obtain ⟨g, v, rfl, hcell, hxin⟩ : ∃ g v, ao = some ⟨g, 0, none⟩ /\ wr.cell? ⟨g, k, none⟩ = some v /\ ExIn w (fun k => k < B) v x := by
    rcases HX.out with ⟨_, e2⟩ | ⟨g, cap', e1, hst, hel⟩
    ·rw [e2] at hlt; exact absurd hlt (Nat.not_lt_zero _)
    ·injection e1 with e3 _ _
     obtain ⟨v, h1, h2⟩ := hel k x hkx
     exact ⟨g, v, e3, by rw [hst wr HBL.out HO.out k]; exact h1, h2⟩
   have hki : (k : Int) < (args.length : Int) := by omega
   have hkii : (0 : Int) <= (k : Int) /\ (k : Int) < (args.length : Int) := by omega
   have hw : IntKind.i64.wrap ((k : Int) + 1) = (k : Int) + 1 := IntWalk.i64_in _ (by omega)
   have htk : args.take (k + 1) = args.take k ++ [x] := by rw [List.take_add_one, hkx]; rfl
   have hAT : dV true (args.take (k + 1)) = dV true (args.take k) ++ ((if k = 0 then [] else [44, 32]) ++ exV 1 x) := by
    rw [htk, sY]
    by_cases hk0 : k = 0
    ·rw [if_pos hk0, if_pos ⟨rfl, by rw [hk0, List.take_zero]⟩]
    ·rw [if_neg hk0, if_neg (fun e => hk0 (by have h7 := congrArg List.length e.2; rw [List.length_take] at h7; have h8 : min k args.length = 0 := h7; omega))]
   have hle := A5 args (k + 1) true
   rw [hAT, List.length_append, List.length_append] at hle
   have hmem : x ∈ args := List.mem_of_getElem? hkx
   have HXW := zz (hxin.below HBL.out)
   have HEX := zz (HA.out x hmem)
   have HAT := zz hAT
   have HLE := zz hle
   clear hkx hxin htk hAT hle hmem
   by_cases hk0 : k = 0
   ·subst hk0
    have HE := zz (HEX.out 1 _ wr v HPP.out (Nat.le_trans HB.out HBL.out.size) (HP.out.below HBL.out) HXW.out (by have := HLN.out; have h9 := HLE.out; rw [if_pos rfl] at h9; simp only [List.length_append, List.length_singleton, List.length_nil] at h9 ⊢; omega))
    go_wp2_with fail
    refine HE.out.mono ?_
    rintro e w3 ⟨rfl, h3, hb3, ho3⟩
    have h3' : PC B b (l ++ (name ++ ([40] ++ dV true (args.take (0 + 1))))) w3 := by
     have e : l ++ (name ++ ([40] ++ dV true (args.take (0 + 1)))) = l ++ (name ++ ([40] ++ dV true (args.take 0))) ++ exV 1 x := by
      rw [HAT.out]; simp only [List.append_assoc]; rfl
     rw [e]; exact h3
    have H3 := zz h3'
    have HB3 := zz (HBL.out.trans hb3)
    have HO3 := zz (HO.out.trans ho3)
    clear h3 h3' hb3 ho3
    go_wp2_with fail
    exact ⟨⟨0 + 1, by omega, by simp, H3.out, HB3.out, HO3.out⟩, by simp [intOf]; omega⟩
   ·have hgt : (0 : Int) < (k : Int) := by omega
    have HK0 := zz hk0
    have HPUT2 := zz (eW B b _ [⟨#[44, 32]⟩] wr HPP.out (Nat.le_trans HB.out HBL.out.size) (by have := HLN.out; have h9 := HLE.out; rw [if_neg HK0.out] at h9; simp only [List.length_append, List.length_nil, List.length_cons] at h9 ⊢; show _ + 2 <= _; omega) (by simp))
    clear hk0
    go_wp2_with fail
    refine HPUT2.out.mono ?_
    rintro e w2 ⟨rfl, h2, hb2, ho2⟩
    have HB2 := zz (HBL.out.trans hb2)
    have HO2 := zz (HO.out.trans ho2)
    have HE := zz (HEX.out 1 _ w2 v h2 (Nat.le_trans HB.out HB2.out.size) (HP.out.below HB2.out) (HXW.out.below hb2) (by have := HLN.out; have h9 := HLE.out; rw [if_neg HK0.out] at h9; simp only [List.length_append, List.length_nil, List.length_cons] at h9 ⊢; show _ + 2 + _ <= _; omega))
    clear h2 hb2 ho2
    go_wp2_with fail
    refine HE.out.mono ?_
    rintro e w3 ⟨rfl, h3, hb3, ho3⟩
    have h3' : PC B b (l ++ (name ++ ([40] ++ dV true (args.take (k + 1))))) w3 := by
     have e : l ++ (name ++ ([40] ++ dV true (args.take (k + 1)))) = l ++ (name ++ ([40] ++ dV true (args.take k))) ++ fC [⟨#[44, 32]⟩] ++ exV 1 x := by
      rw [HAT.out, if_neg HK0.out]; simp only [List.append_assoc]; rfl
     rw [e]; exact h3
    have H3 := zz h3'
    have HB3 := zz (HB2.out.trans hb3)
    have HO3 := zz (HO2.out.trans ho3)
    clear h3 h3' hb3 ho3
    go_wp2_with fail
    exact ⟨⟨k + 1, by omega, by simp, H3.out, HB3.out, HO3.out⟩, by simp [intOf]; omega⟩
  ·have hki : ¬ (k : Int) < (args.length : Int) := by omega
   have hkk : k = args.length := by omega
   have HKK := zz hkk
   have h2 := HPP.out
   rw [hkk, List.take_length] at h2
   have HPUT2 := zz (eW B b _ [⟨#[41]⟩] wr h2 (Nat.le_trans HB.out HBL.out.size) (by have := HLN.out; simp only [List.length_append, List.length_singleton]; show _ + 1 <= _; omega) (by decide))
   clear hkk h2
   go_wp2_with fail
   refine HPUT2.out.mono ?_
   rintro e w3 ⟨rfl, h3, hb3, ho3⟩
   have h3' : PC B b (l ++ (name ++ ([40] ++ (dV true args ++ [41])))) w3 := by
    have e : l ++ (name ++ ([40] ++ (dV true args ++ [41]))) = l ++ (name ++ ([40] ++ dV true args)) ++ fC [⟨#[41]⟩] := by
     simp only [List.append_assoc]; rfl
    rw [e]; exact h3
   have H3 := zz h3'
   have HB3 := zz (HBL.out.trans hb3)
   have HO3 := zz (HO.out.trans ho3)
   clear h3 h3' hb3 ho3
   go_wp2_with fail
   go_end0
   exact ⟨rfl, H3.out, HB3.out, HO3.out⟩
theorem s9 (n : Nat) : oE (n : Int) = cL n := by
 unfold oE
 by_cases h : 1 <= (n : Int) /\ (n : Int) <= 19
 ·rw [if_pos h]; rfl
 ·rw [if_neg h]
  by_cases h0 : n = 0
  ·subst h0; rfl
  ·unfold cL
   rw [List.getD_eq_getElem?_getD, List.getElem?_eq_none]
   ·rfl
   ·have : nN.length = 20 := rfl
    omega
theorem DE (op : Nat) (w : World) (hS : kE w) : Calls Tryz.prog 234 #[.int .i64 op] w fun e w' => e = .returned (.string (mkT (sgV op))) /\ w = w' := by
 by_cases h1 : op = 30
 ·subst h1
  go_enter Tryz.func234, Tryz.ntmps234
  go_wp2_with fail
  try simp only [Exit.inBlock, Exit.then]
  go_ret
  exact ⟨rfl, rfl⟩
 ·by_cases h2 : op = 31
  ·subst h2
   go_enter Tryz.func234, Tryz.ntmps234
   go_wp2_with fail
   try simp only [Exit.inBlock, Exit.then]
   go_ret
   exact ⟨rfl, rfl⟩
  ·have e1 : ((op : Int) == 30) = false := beq_eq_false_iff_ne.2 (by omega)
   have e2 : ((op : Int) == 31) = false := beq_eq_false_iff_ne.2 (by omega)
   have HC := zz (vF (op : Int) w hS)
   have HE : Hid (mkT (sgV op) = ⟨(oE (op : Int)).toArray⟩) := zz (by rw [s9]; unfold sgV; rw [if_neg h1, if_neg h2]; rfl)
   clear hS h1 h2
   rw [HE.out]
   go_enter Tryz.func234, Tryz.ntmps234
   go_wp2_with fail
   refine HC.out.mono ?_
   rintro e w2 ⟨rfl, rfl⟩
   go_wp2_with fail
   try simp only [Exit.inBlock, Exit.then]
   go_ret
   exact ⟨rfl, rfl⟩
theorem DF (c : Bool) (w : World) : Calls Tryz.prog 233 #[.bool c] w fun e w' => e = .returned (.string (mkT (if c then eK else cP))) /\ w = w' := by
 refine (Tryz.strconv_FormatBool c w).mono ?_
 rintro e w' ⟨rfl, rfl⟩
 cases c <;> exact ⟨rfl, rfl⟩
theorem DG (n : Nat) (h1 : n <= 9223372036854775807) (w : World) (h : PowT w) : Calls Tryz.prog 39 #[.int .i64 (n : Nat)] w fun e w' => e = .returned (.string (mkT (jX n))) /\ Below w.heap.size w w' := by
 refine (Tryz.strconv_Itoa (n : Int) (by omega) (by omega) w h).mono ?_
 rintro e w' ⟨rfl, k, os, rfl⟩
 refine ⟨rfl, ⟨rfl, rfl, rfl, by simp [Sort.grow, World.drewN], fun k hk => by simp [Sort.grow, World.drewN, Array.getElem?_append, hk]⟩⟩
theorem FL {B b bk : Nat} {n : Nat} (l : List UInt8) (w : World) (h : PC B b l w) (hB : B <= w.heap.size) (hP : PEnv B w) (c0 : w.cell? ⟨bk, 0, none⟩ = some (.int .i64 1)) (c2 : w.cell? ⟨bk, 2, none⟩ = some (.int .i64 (n : Nat))) (hn : n <= 9223372036854775807) (hlen : l.length + (jX n).length <= 100000000) :
  bT B b l (jX n) w 187 #[.pointer (some ⟨b, 0, none⟩), .pointer (some ⟨bk, 0, none⟩)] := by
 unfold bT
 have HC := zz (DG n hn w hP.pow)
 have H := zz h
 have HB := zz hB
 have HL := zz hlen
 clear h hB hP hn hlen
 go_enter Tryz.func187, Tryz.ntmps187
 go_wp2_with fail
 refine HC.out.mono ?_
 rintro e w1 ⟨rfl, hb1⟩
 have HPUT := zz (eW B b l [mkT (jX n)] w1 (H.out.fresh hb1) (Nat.le_trans HB.out hb1.size) (by have := HL.out; show l.length + (jX n ++ []).length <= _; rw [List.append_nil]; exact this) (by simp))
 have HB1 := zz (hb1.mono HB.out)
 have HO1 : Hid (Others b w w1) := zz (Others.of_new hb1)
 clear hb1
 go_wp2_with fail
 refine HPUT.out.mono ?_
 rintro e w2 ⟨rfl, h2, hb2, ho2⟩
 have h2' : PC B b (l ++ jX n) w2 := by
  have e : l ++ jX n = l ++ fC [mkT (jX n)] := by show _ = l ++ (jX n ++ []); rw [List.append_nil]
  rw [e]; exact h2
 have H2 := zz h2'
 have HB2 := zz (HB1.out.trans hb2)
 have HO2 := zz (HO1.out.trans ho2)
 clear h2 h2' hb2 ho2
 go_wp2_with fail
 try simp only [Exit.inBlock, Exit.then]
 go_end0
 exact ⟨rfl, H2.out, HB2.out, HO2.out⟩
theorem DH {B b bk : Nat} {n : Nat} (l : List UInt8) (w : World) (h : PC B b l w) (hB : B <= w.heap.size) (c0 : w.cell? ⟨bk, 0, none⟩ = some (.int .i64 2)) (c2 : w.cell? ⟨bk, 2, none⟩ = some (.int .i64 (n : Nat))) (hlen : l.length + (if n = 0 then cP else eK).length <= 100000000) :
  bT B b l (if n = 0 then cP else eK) w 187 #[.pointer (some ⟨b, 0, none⟩), .pointer (some ⟨bk, 0, none⟩)] := by
 unfold bT
 obtain ⟨t, ht⟩ : ∃ t, t = (if n = 0 then cP else eK) := ⟨_, rfl⟩
 rw [<- ht] at hlen ⊢
 have HC : Hid (∀ W, Calls Tryz.prog 233 #[.bool !((n : Int) == 0)] W fun e w' => e = .returned (.string (mkT t)) /\ W = w') := zz fun W => by
  have := DF (!((n : Int) == 0)) W
  have e : (if (!((n : Int) == 0)) then eK else cP) = t := by
   rw [ht]
   by_cases h0 : n = 0
   ·subst h0; rfl
   ·rw [if_neg h0, if_pos]
    simp; omega
  rw [e] at this
  exact this
 have H := zz (eW B b l [mkT t] w h hB (by show l.length + (t ++ []).length <= _; rw [List.append_nil]; exact hlen) (by simp))
 clear h hB hlen ht
 go_enter Tryz.func187, Tryz.ntmps187
 go_wp2_with fail
 refine (HC.out _).mono ?_
 rintro e w1 ⟨rfl, rfl⟩
 go_wp2_with fail
 refine H.out.mono ?_
 rintro e w2 ⟨rfl, h2, hb2, ho2⟩
 have h2' : PC B b (l ++ t) w2 := by
  have e : l ++ t = l ++ fC [mkT t] := by show _ = l ++ (t ++ []); rw [List.append_nil]
  rw [e]; exact h2
 have H2 := zz h2'
 have HB2 := zz hb2
 have HO2 := zz ho2
 clear h2 h2' hb2 ho2
 go_wp2_with fail
 try simp only [Exit.inBlock, Exit.then]
 go_end0
 exact ⟨rfl, H2.out, HB2.out, HO2.out⟩
theorem FM {B b bk : Nat}  (l : List UInt8) (w : World) (h : PC B b l w) (hB : B <= w.heap.size) (c0 : w.cell? ⟨bk, 0, none⟩ = some (.int .i64 3)) (hlen : l.length + (hZ).length <= 100000000) :
  bT B b l (hZ) w 187 #[.pointer (some ⟨b, 0, none⟩), .pointer (some ⟨bk, 0, none⟩)] := by
 unfold bT
 have H := zz (eW B b l [mkT hZ] w h hB (by show l.length + (hZ ++ []).length <= _; rw [List.append_nil]; exact hlen) (by simp))
 clear h hB hlen
 go_enter Tryz.func187, Tryz.ntmps187
 go_wp2_with fail
 refine H.out.mono ?_
 rintro e w2 ⟨rfl, h2, hb2, ho2⟩
 have h2' : PC B b (l ++ hZ) w2 := by
  have e : l ++ hZ = l ++ fC [mkT hZ] := by show _ = l ++ (hZ ++ []); rw [List.append_nil]
  rw [e]; exact h2
 have H2 := zz h2'
 have HB2 := zz hb2
 have HO2 := zz ho2
 clear h2 h2' hb2 ho2
 go_wp2_with fail
 try simp only [Exit.inBlock, Exit.then]
 go_end0
 exact ⟨rfl, H2.out, HB2.out, HO2.out⟩
theorem DI {B b bk : Nat} {name : Lx.B} (l : List UInt8) (w : World) (h : PC B b l w) (hB : B <= w.heap.size) (c0 : w.cell? ⟨bk, 0, none⟩ = some (.int .i64 4)) (c3 : w.cell? ⟨bk, 3, none⟩ = some (.string (mkT name))) (hlen : l.length + (name).length <= 100000000) :
  bT B b l (name) w 187 #[.pointer (some ⟨b, 0, none⟩), .pointer (some ⟨bk, 0, none⟩)] := by
 unfold bT
 have H := zz (eW B b l [mkT name] w h hB (by show l.length + (name ++ []).length <= _; rw [List.append_nil]; exact hlen) (by simp))
 clear h hB hlen
 go_enter Tryz.func187, Tryz.ntmps187
 go_wp2_with fail
 refine H.out.mono ?_
 rintro e w2 ⟨rfl, h2, hb2, ho2⟩
 have h2' : PC B b (l ++ name) w2 := by
  have e : l ++ name = l ++ fC [mkT name] := by show _ = l ++ (name ++ []); rw [List.append_nil]
  rw [e]; exact h2
 have H2 := zz h2'
 have HB2 := zz hb2
 have HO2 := zz ho2
 clear h2 h2' hb2 ho2
 go_wp2_with fail
 try simp only [Exit.inBlock, Exit.then]
 go_end0
 exact ⟨rfl, H2.out, HB2.out, HO2.out⟩
theorem IH {B b bk : Nat} {op : Nat} {x : Ex} {lv : Value} (l : List UInt8) (w : World) (h : PC B b l w) (hB : B <= w.heap.size) (hP : PEnv B w) (c0 : w.cell? ⟨bk, 0, none⟩ = some (.int .i64 6)) (c4 : w.cell? ⟨bk, 4, none⟩ = some (.int .i64 (op : Nat))) (c5 : w.cell? ⟨bk, 5, none⟩ = some lv) (hx : ExIn w (fun k => k < B) lv x) (hE : fS B b x) (hbk : bk < B) (hlen : l.length + (cL op ++ exV 6 x).length <= 100000000) :
  bT B b l (cL op ++ exV 6 x) w 187 #[.pointer (some ⟨b, 0, none⟩), .pointer (some ⟨bk, 0, none⟩)] := by
 unfold bT
 rw [List.length_append] at hlen
 have HL : Hid (l.length + (List.length (cL op) + (exV 6 x).length) <= 100000000) := zz hlen
 have HPUT := zz (eW B b l [mkT (cL op)] w h hB (by have := HL.out; show l.length + (cL op ++ []).length <= _; rw [List.append_nil]; omega) (by simp))
 have HB := zz hB
 have HP := zz hP
 have HX := zz hx
 have HE := zz hE
 have HC5 : Hid (∀ W', Below B w W' -> W'.cell? ⟨bk, 5, none⟩ = some lv) := zz fun W' hb => by rw [hb.cell (p := ⟨bk, 5, none⟩) hbk]; exact c5
 have HC0 : Hid (∀ W', Below B w W' -> W'.cell? ⟨bk, 0, none⟩ = some (.int .i64 6)) := zz fun W' hb => by rw [hb.cell (p := ⟨bk, 0, none⟩) hbk]; exact c0
 have HS : Hid (Calls Tryz.prog 235 #[.int .i64 (op : Nat)] w fun e w' => e = .returned (.string (mkT (cL op))) /\ w = w') := zz (by have := vF (op : Int) w hP.signs; rw [s9] at this; exact this)
 clear h hB hP hx hE hlen hbk
 go_enter Tryz.func187, Tryz.ntmps187
 go_wp2_with fail
 refine HS.out.mono ?_
 rintro e w1 ⟨rfl, rfl⟩
 go_wp2_with fail
 refine HPUT.out.mono ?_
 rintro e w2 ⟨rfl, h2, hb2, ho2⟩
 have h2' : PC B b (l ++ cL op) w2 := by
  have e : l ++ cL op = l ++ fC [mkT (cL op)] := by show _ = l ++ (cL op ++ []); rw [List.append_nil]
  rw [e]; exact h2
 have d5 := HC5.out w2 hb2
 have HEX := zz (HE.out 6 _ w2 lv h2' (Nat.le_trans HB.out hb2.size) (HP.out.below hb2) (HX.out.below hb2) (by have := HL.out; rw [List.length_append]; omega))
 have HB2 := zz hb2
 have HO2 := zz ho2
 clear h2 h2' hb2 ho2 c5
 go_wp2_with fail
 refine HEX.out.mono ?_
 rintro e w3 ⟨rfl, h3, hb3, ho3⟩
 have H3 : Hid (PC B b (l ++ (cL op ++ exV 6 x)) w3) := zz (by rw [<- List.append_assoc]; exact h3)
 have HB3 := zz (HB2.out.trans hb3)
 have HO3 := zz (HO2.out.trans ho3)
 clear h3 hb3 ho3
 go_wp2_with fail
 try simp only [Exit.inBlock, Exit.then]
 go_end0
 exact ⟨rfl, H3.out, HB3.out, HO3.out⟩
theorem DJ {B b bk : Nat} {x : Ex} {lv : Value} (l : List UInt8) (w : World) (h : PC B b l w) (hB : B <= w.heap.size) (hP : PEnv B w) (c0 : w.cell? ⟨bk, 0, none⟩ = some (.int .i64 10)) (c5 : w.cell? ⟨bk, 5, none⟩ = some lv) (hx : ExIn w (fun k => k < B) lv x) (hE : fS B b x) (hbk : bk < B) (hlen : l.length + (aK ++ exV 6 x).length <= 100000000) :
  bT B b l (aK ++ exV 6 x) w 187 #[.pointer (some ⟨b, 0, none⟩), .pointer (some ⟨bk, 0, none⟩)] := by
 unfold bT
 rw [List.length_append] at hlen
 have HL : Hid (l.length + (List.length (aK) + (exV 6 x).length) <= 100000000) := zz hlen
 have HPUT := zz (eW B b l [mkT aK] w h hB (by have := HL.out; show l.length + (aK ++ []).length <= _; rw [List.append_nil]; omega) (by simp))
 have HB := zz hB
 have HP := zz hP
 have HX := zz hx
 have HE := zz hE
 have HC5 : Hid (∀ W', Below B w W' -> W'.cell? ⟨bk, 5, none⟩ = some lv) := zz fun W' hb => by rw [hb.cell (p := ⟨bk, 5, none⟩) hbk]; exact c5
 have HC0 : Hid (∀ W', Below B w W' -> W'.cell? ⟨bk, 0, none⟩ = some (.int .i64 10)) := zz fun W' hb => by rw [hb.cell (p := ⟨bk, 0, none⟩) hbk]; exact c0
 clear h hB hP hx hE hlen hbk
 go_enter Tryz.func187, Tryz.ntmps187
 go_wp2_with fail
 refine HPUT.out.mono ?_
 rintro e w2 ⟨rfl, h2, hb2, ho2⟩
 have h2' : PC B b (l ++ aK) w2 := by
  have e : l ++ aK = l ++ fC [mkT aK] := by show _ = l ++ (aK ++ []); rw [List.append_nil]
  rw [e]; exact h2
 have d5 := HC5.out w2 hb2
 have HEX := zz (HE.out 6 _ w2 lv h2' (Nat.le_trans HB.out hb2.size) (HP.out.below hb2) (HX.out.below hb2) (by have := HL.out; rw [List.length_append]; omega))
 have HB2 := zz hb2
 have HO2 := zz ho2
 clear h2 h2' hb2 ho2 c5
 go_wp2_with fail
 refine HEX.out.mono ?_
 rintro e w3 ⟨rfl, h3, hb3, ho3⟩
 have H3 : Hid (PC B b (l ++ (aK ++ exV 6 x)) w3) := zz (by rw [<- List.append_assoc]; exact h3)
 have HB3 := zz (HB2.out.trans hb3)
 have HO3 := zz (HO2.out.trans ho3)
 clear h3 hb3 ho3
 go_wp2_with fail
 try simp only [Exit.inBlock, Exit.then]
 go_end0
 exact ⟨rfl, H3.out, HB3.out, HO3.out⟩
theorem DK {B b bk : Nat} {x : Ex} {q : Option Addr} (l : List UInt8) (w : World) (h : PC B b l w) (hB : B <= w.heap.size) (hP : PEnv B w) (c0 : w.cell? ⟨bk, 0, none⟩ = some (.int .i64 8)) (c5 : w.cell? ⟨bk, 5, none⟩ = some (.pointer q)) (hx : ExIn w (fun k => k < B) (.pointer q) x) (hE : fS B b x) (hlen : l.length + (dQ ++ ([40] ++ (exV 1 x ++ [41]))).length <= 100000000) :
    bT B b l (dQ ++ ([40] ++ (exV 1 x ++ [41]))) w 187 #[.pointer (some ⟨b, 0, none⟩), .pointer (some ⟨bk, 0, none⟩)] := by
  unfold bT
  have hb : Below w.heap.size w (w.alloc (.cells #[.pointer q] 60)) := ((Keeps.refl (fun _ => False) w).alloc _).below (Nat.le_refl _) (fun _ _ e => e.elim)
  have hcw : (w.alloc (.cells #[.pointer q] 60)).heap[w.heap.size]? = some (.cells #[.pointer q] 60 (0, 0)) := heap_alloc_new w _
  have hblt := h.1.lt
  have H := zz (oB (B := B) (b := b) dQ [x] (fun y hy => by cases hy with | head => exact hE | tail _ h => cases h) l (w.alloc (.cells #[.pointer q] 60)) (.slice (some ⟨w.heap.size, 0, none⟩) 1 1) (h.fresh hb) (Nat.le_trans hB hb.size) (hP.below (hb.mono hB))
    (Or.inr ⟨w.heap.size, 1, rfl, fun W' _ ho i => by
        rw [Lib.cell_of_heap (ho w.heap.size _ _ _ (by omega) (by decide) hcw), Lib.cell_of_heap hcw], fun i y hy => by
        cases i with
        | zero => exact ⟨.pointer q, by rw [Lib.cell_of_heap hcw]; rfl, by cases hy; exact hx.below (hb.mono hB)⟩
        | succ i => simp at hy⟩)
    (by show l.length + (dQ ++ ([40] ++ ((exV 1 x ++ []) ++ [41]))).length <= _; rw [List.append_nil]; exact hlen))
  have HBW := zz (hb.mono hB)
  have HOW : Hid (Others b w (w.alloc (.cells #[.pointer q] 60))) := zz (Others.of_new hb)
  clear h hB hP hx hE hlen hb hcw hblt
  go_enter Tryz.func187, Tryz.ntmps187
  go_wp2_with fail
  refine H.out.mono ?_
  rintro e w2 ⟨rfl, h2, hb2, ho2⟩
  have H2 : Hid (PC B b (l ++ (dQ ++ ([40] ++ (exV 1 x ++ [41])))) w2) := zz (by
    have e : dQ ++ ([40] ++ (exV 1 x ++ [41])) = dQ ++ ([40] ++ (dV true [x] ++ [41])) := by show _ = dQ ++ ([40] ++ ((exV 1 x ++ []) ++ [41])); rw [List.append_nil]
    rw [e]; exact h2)
  have HB2 := zz (HBW.out.trans hb2)
  have HO2 := zz (HOW.out.trans ho2)
  clear h2 hb2 ho2
  go_wp2_with fail
  try simp only [Exit.inBlock, Exit.then]
  go_end0
  exact ⟨rfl, H2.out, HB2.out, HO2.out⟩
theorem FN {B b bk : Nat} {x : Ex} {q : Option Addr} (l : List UInt8) (w : World) (h : PC B b l w) (hB : B <= w.heap.size) (hP : PEnv B w) (c0 : w.cell? ⟨bk, 0, none⟩ = some (.int .i64 9)) (c5 : w.cell? ⟨bk, 5, none⟩ = some (.pointer q)) (hx : ExIn w (fun k => k < B) (.pointer q) x) (hE : fS B b x) (hlen : l.length + (hY ++ ([40] ++ (exV 1 x ++ [41]))).length <= 100000000) :
    bT B b l (hY ++ ([40] ++ (exV 1 x ++ [41]))) w 187 #[.pointer (some ⟨b, 0, none⟩), .pointer (some ⟨bk, 0, none⟩)] := by
  unfold bT
  have hb : Below w.heap.size w (w.alloc (.cells #[.pointer q] 60)) := ((Keeps.refl (fun _ => False) w).alloc _).below (Nat.le_refl _) (fun _ _ e => e.elim)
  have hcw : (w.alloc (.cells #[.pointer q] 60)).heap[w.heap.size]? = some (.cells #[.pointer q] 60 (0, 0)) := heap_alloc_new w _
  have hblt := h.1.lt
  have H := zz (oB (B := B) (b := b) hY [x] (fun y hy => by cases hy with | head => exact hE | tail _ h => cases h) l (w.alloc (.cells #[.pointer q] 60)) (.slice (some ⟨w.heap.size, 0, none⟩) 1 1) (h.fresh hb) (Nat.le_trans hB hb.size) (hP.below (hb.mono hB))
    (Or.inr ⟨w.heap.size, 1, rfl, fun W' _ ho i => by
        rw [Lib.cell_of_heap (ho w.heap.size _ _ _ (by omega) (by decide) hcw), Lib.cell_of_heap hcw], fun i y hy => by
        cases i with
        | zero => exact ⟨.pointer q, by rw [Lib.cell_of_heap hcw]; rfl, by cases hy; exact hx.below (hb.mono hB)⟩
        | succ i => simp at hy⟩)
    (by show l.length + (hY ++ ([40] ++ ((exV 1 x ++ []) ++ [41]))).length <= _; rw [List.append_nil]; exact hlen))
  have HBW := zz (hb.mono hB)
  have HOW : Hid (Others b w (w.alloc (.cells #[.pointer q] 60))) := zz (Others.of_new hb)
  clear h hB hP hx hE hlen hb hcw hblt
  go_enter Tryz.func187, Tryz.ntmps187
  go_wp2_with fail
  refine H.out.mono ?_
  rintro e w2 ⟨rfl, h2, hb2, ho2⟩
  have H2 : Hid (PC B b (l ++ (hY ++ ([40] ++ (exV 1 x ++ [41])))) w2) := zz (by
    have e : hY ++ ([40] ++ (exV 1 x ++ [41])) = hY ++ ([40] ++ (dV true [x] ++ [41])) := by show _ = hY ++ ([40] ++ ((exV 1 x ++ []) ++ [41])); rw [List.append_nil]
    rw [e]; exact h2)
  have HB2 := zz (HBW.out.trans hb2)
  have HO2 := zz (HOW.out.trans ho2)
  clear h2 hb2 ho2
  go_wp2_with fail
  try simp only [Exit.inBlock, Exit.then]
  go_end0
  exact ⟨rfl, H2.out, HB2.out, HO2.out⟩
theorem ArgsAt.drew {B b : Nat} {av : Value} {l : List Ex} (h : ArgsAt B b w av l) : ArgsAt B b w.drew av l := by
 rcases h with h | ⟨g, cap, e, h1, h2⟩
 ·exact Or.inl h
 ·exact Or.inr ⟨g, cap, e, fun W' hb ho i => h1 W' (Below.trans (Below.drew (Below.refl B w)) hb) (Others.trans (Others.of_new (Below.drew (Below.refl _ _))) ho) i, fun i x hi => by
   obtain ⟨v, a1, a2⟩ := h2 i x hi
   exact ⟨v, a1, a2.below (Below.drew (Below.refl B w))⟩⟩
theorem FO {B b bk op : Nat} {x y : Ex} {q p : Option Addr} (l : List UInt8) (w : World) (h : PC B b l w) (hB : B <= w.heap.size) (hP : PEnv B w) (c0 : w.cell? ⟨bk, 0, none⟩ = some (.int .i64 5)) (c4 : w.cell? ⟨bk, 4, none⟩ = some (.int .i64 (op : Nat))) (c5 : w.cell? ⟨bk, 5, none⟩ = some (.pointer q)) (c6 : w.cell? ⟨bk, 6, none⟩ = some (.pointer p)) (hbk : bk < B)
  (hx : ExIn w (fun k => k < B) (.pointer q) x) (hy : ExIn w (fun k => k < B) (.pointer p) y) (hE : fS B b x) (hF : fS B b y) (hlen : l.length + (exV (bL op) x ++ ([32] ++ (sgV op ++ ([32] ++ exV (bL op + 1) y)))).length <= 100000000) :
  bT B b l (exV (bL op) x ++ ([32] ++ (sgV op ++ ([32] ++ exV (bL op + 1) y)))) w 187 #[.pointer (some ⟨b, 0, none⟩), .pointer (some ⟨bk, 0, none⟩)] := by
 unfold bT
 simp only [List.length_append] at hlen
 have HL : Hid (l.length + ((exV (bL op) x).length + (1 + (List.length (sgV op) + (1 + (exV (bL op + 1) y).length)))) <= 100000000) := zz hlen
 have HC : Hid (∀ W', Below B w W' -> W'.cell? ⟨bk, 4, none⟩ = some (.int .i64 (op : Nat)) /\ W'.cell? ⟨bk, 6, none⟩ = some (.pointer p)) := zz fun W' hb => ⟨by rw [hb.cell (p := ⟨bk, 4, none⟩) hbk]; exact c4, by rw [hb.cell (p := ⟨bk, 6, none⟩) hbk]; exact c6⟩
 have hbd : Below B w w.drew := Below.drew (Below.refl B w)
 have HC5 : Hid (∀ W', Below B w W' -> W'.cell? ⟨bk, 5, none⟩ = some (.pointer q)) := zz fun W' hb => by rw [hb.cell (p := ⟨bk, 5, none⟩) hbk]; exact c5
 have HLV : Hid (∀ W, Calls Tryz.prog 186 #[.int .i64 (op : Nat)] W fun e w' => e = .returned (.int .i64 (bL op : Nat)) /\ W = w') := zz fun W => nU op W
 have HEX := zz (hE (bL op) l w.drew _ (h.fresh (Below.drew (Below.refl _ _))) hB (hP.below hbd) (hx.below hbd) (by have := HL.out; omega))
 have HB := zz hB
 have HP := zz hP
 have HY := zz hy
 have HF := zz hF
 have HBD := zz hbd
 clear h hB hP hx hy hE hF hlen hbk hbd
 go_enter Tryz.func187, Tryz.ntmps187
 go_wp2_with fail
 refine wp_region_held_drew (S := (fun W' : World => W'.cell? ⟨bk, 4, none⟩ = some (.int .i64 (op : Nat)) /\ W'.cell? ⟨bk, 5, none⟩ = some (.pointer q))) (by kernel_rfl) ⟨by simp only [World.cell?_drew]; assumption, by simp only [World.cell?_drew]; assumption⟩ (fun hHeld => ?_)
 refine tk 0 45 (.pointer (some ⟨b, 0, none⟩)) rfl (.inl ⟨by rfl, ?_⟩) hHeld ?_
 ·intro W9 hSW; (try dsimp only at hSW); go_simp
 try simp only [Act.put, sA, sB, sC]
 refine tk 1 46 (.pointer (some ⟨bk, 0, none⟩)) rfl (.inl ⟨by rfl, ?_⟩) hHeld ?_
 ·intro W9 hSW; (try dsimp only at hSW); go_simp
 try simp only [Act.put, sA, sB, sC]
 refine tk 2 47 (.pointer (some ⟨bk, 0, none⟩)) rfl (.inl ⟨by rfl, ?_⟩) hHeld ?_
 ·intro W9 hSW; (try dsimp only at hSW); go_simp
 try simp only [Act.put, sA, sB, sC]
 refine tk 3 48 (.pointer (some ⟨bk, 5, none⟩)) rfl (.inl ⟨by rfl, ?_⟩) hHeld ?_
 ·intro W9 hSW; (try dsimp only at hSW); go_simp
 try simp only [Act.put, sA, sB, sC]
 refine tk 4 49 (.pointer q) rfl (.inl ⟨by rfl, ?_⟩) hHeld ?_
 ·intro W9 hSW; (try dsimp only at hSW); go_simp
 try simp only [Act.put, sA, sB, sC]
 refine tk 5 50 (.pointer (some ⟨bk, 0, none⟩)) rfl (.inl ⟨by rfl, ?_⟩) hHeld ?_
 ·intro W9 hSW; (try dsimp only at hSW); go_simp
 try simp only [Act.put, sA, sB, sC]
 refine tk 6 51 (.pointer (some ⟨bk, 0, none⟩)) rfl (.inl ⟨by rfl, ?_⟩) hHeld ?_
 ·intro W9 hSW; (try dsimp only at hSW); go_simp
 try simp only [Act.put, sA, sB, sC]
 refine tk 7 52 (.pointer (some ⟨bk, 4, none⟩)) rfl (.inl ⟨by rfl, ?_⟩) hHeld ?_
 ·intro W9 hSW; (try dsimp only at hSW); go_simp
 try simp only [Act.put, sA, sB, sC]
 refine tk 8 53 (.int .i64 (op : Nat)) rfl (.inl ⟨by rfl, ?_⟩) hHeld ?_
 ·intro W9 hSW; (try dsimp only at hSW); go_simp
 try simp only [Act.put, sA, sB, sC]
 refine ra 9 (some 54) rfl fun K hK => ?_
 go_simp
 go_at_call 186
 refine (HLV.out _).mono ?_
 rintro e w1 ⟨rfl, rfl⟩
 refine hK.out _ _ hHeld (fun hHeld => ?_)
 clear hK K
 refine ra 10 (some 55) rfl fun K hK => ?_
 go_simp
 go_at_call 132
 refine HEX.out.mono ?_
 rintro e w2 ⟨rfl, h2, hb2, ho2⟩
 have HB2 := zz (HBD.out.trans hb2)
 have HO2 : Hid (Others b w w2) := zz ((Others.of_new (Below.drew (Below.refl _ _))).trans ho2)
 have H2 := zz h2
 have d4 := (HC.out w2 HB2.out).1
 have d6 := (HC.out w2 HB2.out).2
 have d5 : w2.cell? ⟨bk, 5, none⟩ = some (.pointer q) := HC5.out w2 HB2.out
 clear h2 hb2 ho2
 refine hK.out _ _ ⟨d4, d5⟩ (fun hHeld => ?_)
 clear hK K
 refine wpAnyH_done (by kernel_rfl) ?_ _
 have HSG := zz (DE op w2 (HP.out.below HB2.out).signs)
 have HPUT := zz (eW B b _ [⟨#[32]⟩, mkT (sgV op), ⟨#[32]⟩] w2 H2.out (Nat.le_trans HB.out HB2.out.size) (by have := HL.out; rw [List.length_append]; show l.length + _ + ([32] ++ (sgV op ++ ([32] ++ []))).length <= _; simp only [List.length_append, List.length_singleton, List.length_nil]; omega) (by simp))
 clear c4 c5 c6
 go_wp2_with fail
 refine HSG.out.mono ?_
 rintro e w3 ⟨rfl, rfl⟩
 go_wp2_with fail
 refine HPUT.out.mono ?_
 rintro e w4 ⟨rfl, h4, hb4, ho4⟩
 have HB4 := zz (HB2.out.trans hb4)
 have HO4 := zz (HO2.out.trans ho4)
 have hbd : Below B w w4.drew := HB4.out.trans (Below.drew (Below.refl B w4))
 have hcat : fC [⟨#[32]⟩, mkT (sgV op), ⟨#[32]⟩] = [32] ++ (sgV op ++ ([32] ++ [])) := rfl
 have HEY := zz (HF.out (bL op + 1) _ w4.drew _ (h4.fresh (Below.drew (Below.refl _ _))) (Nat.le_trans HB.out HB4.out.size) (HP.out.below hbd) (HY.out.below hbd) (by have := HL.out; rw [hcat]; simp only [List.length_append, List.length_singleton, List.length_nil]; omega))
 have d6 := (HC.out w4 HB4.out).2
 have d4 := (HC.out w4 HB4.out).1
 have HBD2 := zz hbd
 have hw : IntKind.i64.wrap ((bL op : Nat) + 1 : Int) = ((bL op + 1 : Nat) : Int) := by
  rw [IntWalk.i64_in _ (by have : bL op <= 5 := (by unfold bL; (repeat' split) <;> omega); omega)]; omega
 clear h4 hb4 ho4 hbd hcat
 go_wp2_with fail
 refine wp_region_held_drew (S := (fun W' : World => W'.cell? ⟨bk, 4, none⟩ = some (.int .i64 (op : Nat)) /\ W'.cell? ⟨bk, 6, none⟩ = some (.pointer p))) (by kernel_rfl) ⟨by simp only [World.cell?_drew]; assumption, by simp only [World.cell?_drew]; assumption⟩ (fun hHeld => ?_)
 refine tk 0 64 (.pointer (some ⟨b, 0, none⟩)) rfl (.inl ⟨by rfl, ?_⟩) hHeld ?_
 ·intro W9 hSW; (try dsimp only at hSW); go_simp
 try simp only [Act.put, sA, sB, sC]
 refine tk 1 65 (.pointer (some ⟨bk, 0, none⟩)) rfl (.inl ⟨by rfl, ?_⟩) hHeld ?_
 ·intro W9 hSW; (try dsimp only at hSW); go_simp
 try simp only [Act.put, sA, sB, sC]
 refine tk 2 66 (.pointer (some ⟨bk, 0, none⟩)) rfl (.inl ⟨by rfl, ?_⟩) hHeld ?_
 ·intro W9 hSW; (try dsimp only at hSW); go_simp
 try simp only [Act.put, sA, sB, sC]
 refine tk 3 67 (.pointer (some ⟨bk, 6, none⟩)) rfl (.inl ⟨by rfl, ?_⟩) hHeld ?_
 ·intro W9 hSW; (try dsimp only at hSW); go_simp
 try simp only [Act.put, sA, sB, sC]
 refine tk 4 68 (.pointer p) rfl (.inl ⟨by rfl, ?_⟩) hHeld ?_
 ·intro W9 hSW; (try dsimp only at hSW); go_simp
 try simp only [Act.put, sA, sB, sC]
 refine tk 5 69 (.pointer (some ⟨bk, 0, none⟩)) rfl (.inl ⟨by rfl, ?_⟩) hHeld ?_
 ·intro W9 hSW; (try dsimp only at hSW); go_simp
 try simp only [Act.put, sA, sB, sC]
 refine tk 6 70 (.pointer (some ⟨bk, 0, none⟩)) rfl (.inl ⟨by rfl, ?_⟩) hHeld ?_
 ·intro W9 hSW; (try dsimp only at hSW); go_simp
 try simp only [Act.put, sA, sB, sC]
 refine tk 7 71 (.pointer (some ⟨bk, 4, none⟩)) rfl (.inl ⟨by rfl, ?_⟩) hHeld ?_
 ·intro W9 hSW; (try dsimp only at hSW); go_simp
 try simp only [Act.put, sA, sB, sC]
 refine tk 8 72 (.int .i64 (op : Nat)) rfl (.inl ⟨by rfl, ?_⟩) hHeld ?_
 ·intro W9 hSW; (try dsimp only at hSW); go_simp
 try simp only [Act.put, sA, sB, sC]
 refine ra 9 (some 73) rfl fun K hK => ?_
 go_simp
 go_at_call 186
 refine (HLV.out _).mono ?_
 rintro e w5 ⟨rfl, rfl⟩
 refine hK.out _ _ hHeld (fun hHeld => ?_)
 clear hK K
 refine tk 10 74 (.int .i64 ((bL op + 1 : Nat) : Int)) rfl (.inl ⟨by rfl, ?_⟩) hHeld ?_
 ·intro W9 hSW; (try dsimp only at hSW); go_simp
 try simp only [Act.put, sA, sB, sC]
 refine ra 11 (some 75) rfl fun K hK => ?_
 go_simp
 go_at_call 132
 refine HEY.out.mono ?_
 rintro e w6 ⟨rfl, h6, hb6, ho6⟩
 have HB6 := zz (HBD2.out.trans hb6)
 have HO6 : Hid (Others b w w6) := zz ((HO4.out.trans (Others.of_new (Below.drew (Below.refl _ _)))).trans ho6)
 have h6' : PC B b (l ++ (exV (bL op) x ++ ([32] ++ (sgV op ++ ([32] ++ exV (bL op + 1) y))))) w6 := by
  have e : l ++ (exV (bL op) x ++ ([32] ++ (sgV op ++ ([32] ++ exV (bL op + 1) y)))) = l ++ exV (bL op) x ++ fC [⟨#[32]⟩, mkT (sgV op), ⟨#[32]⟩] ++ exV (bL op + 1) y := by
   show _ = l ++ exV (bL op) x ++ ([32] ++ (sgV op ++ ([32] ++ []))) ++ exV (bL op + 1) y
   simp only [List.append_assoc, List.append_nil]
  rw [e]; exact h6
 have H6 := zz h6'
 have e4 := (HC.out w6 HB6.out).1
 have e6 := (HC.out w6 HB6.out).2
 clear h6 h6' hb6 ho6
 refine hK.out _ _ ⟨e4, e6⟩ (fun hHeld => ?_)
 clear hK K
 refine wpAnyH_done (by kernel_rfl) ?_ _
 go_wp2_with fail
 try simp only [Exit.inBlock, Exit.then]
 go_end0
 exact ⟨rfl, H6.out, HB6.out, HO6.out⟩
theorem DL {B b bk : Nat} {name : Lx.B} {ar : List Ex} {av : Value} (l : List UInt8) (w : World) (h : PC B b l w) (hB : B <= w.heap.size) (hP : PEnv B w) (c0 : w.cell? ⟨bk, 0, none⟩ = some (.int .i64 7)) (c3 : w.cell? ⟨bk, 3, none⟩ = some (.string (mkT name))) (c7 : w.cell? ⟨bk, 7, none⟩ = some av) (hbk : bk < B)
  (hx : ArgsAt B b w av ar) (hA : ∀ x ∈ ar, fS B b x) (hlen : l.length + (name ++ ([40] ++ (dV true ar ++ [41]))).length <= 100000000) :
  bT B b l (name ++ ([40] ++ (dV true ar ++ [41]))) w 187 #[.pointer (some ⟨b, 0, none⟩), .pointer (some ⟨bk, 0, none⟩)] := by
 unfold bT
 have hbd : Below B w w.drew := Below.drew (Below.refl B w)
 have hxd : ArgsAt B b w.drew av ar := hx.drew
 obtain ⟨ao, n, cap, rfl⟩ : ∃ ao n cap, av = .slice ao n cap := by
  rcases hx with ⟨e1, e2⟩ | ⟨g, cap, e1, _⟩
  ·exact ⟨_, _, _, e1⟩
  ·exact ⟨_, _, _, e1⟩
 have H := zz (oB name ar hA l w.drew _ (h.fresh (Below.drew (Below.refl _ _))) hB (hP.below hbd) hxd hlen)
 have HC : Hid (∀ W', Below B w W' -> W'.cell? ⟨bk, 3, none⟩ = some (.string (mkT name)) /\ W'.cell? ⟨bk, 7, none⟩ = some (.slice ao n cap)) := zz fun W' hb => ⟨by rw [hb.cell (p := ⟨bk, 3, none⟩) hbk]; exact c3, by rw [hb.cell (p := ⟨bk, 7, none⟩) hbk]; exact c7⟩
 have HBD := zz hbd
 clear h hB hP hx hA hlen hbk hbd hxd
 go_enter Tryz.func187, Tryz.ntmps187
 go_wp2_with fail
 refine wp_region_held_drew (S := (fun W' : World => W'.cell? ⟨bk, 3, none⟩ = some (.string (mkT name)) /\ W'.cell? ⟨bk, 7, none⟩ = some (.slice ao n cap))) (by kernel_rfl) ⟨by simp only [World.cell?_drew]; assumption, by simp only [World.cell?_drew]; assumption⟩ (fun hHeld => ?_)
 refine tk 0 123 (.pointer (some ⟨b, 0, none⟩)) rfl (.inl ⟨by rfl, ?_⟩) hHeld ?_
 ·intro W9 hSW; (try dsimp only at hSW); go_simp
 try simp only [Act.put, sA, sB, sC]
 refine tk 1 124 (.pointer (some ⟨bk, 0, none⟩)) rfl (.inl ⟨by rfl, ?_⟩) hHeld ?_
 ·intro W9 hSW; (try dsimp only at hSW); go_simp
 try simp only [Act.put, sA, sB, sC]
 refine tk 2 125 (.pointer (some ⟨bk, 0, none⟩)) rfl (.inl ⟨by rfl, ?_⟩) hHeld ?_
 ·intro W9 hSW; (try dsimp only at hSW); go_simp
 try simp only [Act.put, sA, sB, sC]
 refine tk 3 126 (.pointer (some ⟨bk, 3, none⟩)) rfl (.inl ⟨by rfl, ?_⟩) hHeld ?_
 ·intro W9 hSW; (try dsimp only at hSW); go_simp
 try simp only [Act.put, sA, sB, sC]
 refine tk 4 127 (.string (mkT name)) rfl (.inl ⟨by rfl, ?_⟩) hHeld ?_
 ·intro W9 hSW; (try dsimp only at hSW); go_simp
 try simp only [Act.put, sA, sB, sC]
 refine tk 5 128 (.pointer (some ⟨bk, 0, none⟩)) rfl (.inl ⟨by rfl, ?_⟩) hHeld ?_
 ·intro W9 hSW; (try dsimp only at hSW); go_simp
 try simp only [Act.put, sA, sB, sC]
 refine tk 6 129 (.pointer (some ⟨bk, 0, none⟩)) rfl (.inl ⟨by rfl, ?_⟩) hHeld ?_
 ·intro W9 hSW; (try dsimp only at hSW); go_simp
 try simp only [Act.put, sA, sB, sC]
 refine tk 7 130 (.pointer (some ⟨bk, 7, none⟩)) rfl (.inl ⟨by rfl, ?_⟩) hHeld ?_
 ·intro W9 hSW; (try dsimp only at hSW); go_simp
 try simp only [Act.put, sA, sB, sC]
 refine tk 8 131 (.slice ao n cap) rfl (.inl ⟨by rfl, ?_⟩) hHeld ?_
 ·intro W9 hSW; (try dsimp only at hSW); go_simp
 try simp only [Act.put, sA, sB, sC]
 refine ra 9 (some 132) rfl fun K hK => ?_
 go_simp
 go_at_call 236
 refine H.out.mono ?_
 rintro e w2 ⟨rfl, h2, hb2, ho2⟩
 have HB2 := zz (HBD.out.trans hb2)
 have HO2 : Hid (Others b w w2) := zz ((Others.of_new (Below.drew (Below.refl _ _))).trans ho2)
 have H2 := zz h2
 clear h2 hb2 ho2
 refine hK.out _ _ (HC.out w2 HB2.out) (fun hHeld => ?_)
 clear hK K
 refine wpAnyH_done (by kernel_rfl) ?_ _
 go_wp2_with fail
 try simp only [Exit.inBlock, Exit.then]
 go_end0
 exact ⟨rfl, H2.out, HB2.out, HO2.out⟩
theorem zJ {B b bk code : Nat} (hc : code = 0 \/ 10 < code) (l : List UInt8) (w : World) (h : PC B b l w) (c0 : w.cell? ⟨bk, 0, none⟩ = some (.int .i64 (code : Nat))) :
  bT B b l [] w 187 #[.pointer (some ⟨b, 0, none⟩), .pointer (some ⟨bk, 0, none⟩)] := by
 unfold bT
 rw [List.append_nil]
 have H := zz h
 have e1 : ((code : Int) == 1) = false := beq_eq_false_iff_ne.2 (by omega)
 have e2 : ((code : Int) == 2) = false := beq_eq_false_iff_ne.2 (by omega)
 have e3 : ((code : Int) == 3) = false := beq_eq_false_iff_ne.2 (by omega)
 have e4 : ((code : Int) == 4) = false := beq_eq_false_iff_ne.2 (by omega)
 have e5 : ((code : Int) == 5) = false := beq_eq_false_iff_ne.2 (by omega)
 have e6 : ((code : Int) == 6) = false := beq_eq_false_iff_ne.2 (by omega)
 have e7 : ((code : Int) == 7) = false := beq_eq_false_iff_ne.2 (by omega)
 have e8 : ((code : Int) == 8) = false := beq_eq_false_iff_ne.2 (by omega)
 have e9 : ((code : Int) == 9) = false := beq_eq_false_iff_ne.2 (by omega)
 have e10 : ((code : Int) == 10) = false := beq_eq_false_iff_ne.2 (by omega)
 clear h hc
 go_enter Tryz.func187, Tryz.ntmps187
 go_wp2_with fail
 try simp only [Exit.inBlock, Exit.then]
 go_end0
 exact ⟨rfl, H.out, Below.refl _ _, Others.refl _ _⟩
theorem xM {F : Nat -> Prop} {g : Nat} : ∀ (xs : Exs) (i : Nat), ExsIn w F g i xs -> ∀ (j : Nat) (x : Ex), xs.toList[j]? = some x -> ∃ v, w.cell? ⟨g, (i + j : Nat), none⟩ = some v /\ ExIn w F v x
 | .nil, _, _, j, x, h => by simp [Exs.toList] at h
 | .cons y ys, i, ⟨h1, h2⟩, 0, x, h => by
  obtain ⟨v, a1, a2⟩ := h1
  have e : y = x := by simpa [Exs.toList] using h
  subst e
  exact ⟨v, a1, a2⟩
 | .cons y ys, i, ⟨h1, h2⟩, j + 1, x, h => by
  obtain ⟨v, a1, a2⟩ := xM ys (i + 1) h2 j x (by simpa [Exs.toList] using h)
  exact ⟨v, by rw [show i + (j + 1) = i + 1 + j by omega]; exact a1, a2⟩
theorem DM {B b : Nat} {av : Value} {args : Exs} (ha : (av = .slice none 0 0 /\ args.len = 0) \/ ∃ g cap, av = .slice (some ⟨g, 0, none⟩) args.len cap /\ args.len <= cap /\ cap <= maxLen /\ 0 < args.len /\ g < B)
  (has : ∀ g n cap, av = .slice (some ⟨g, 0, none⟩) n cap -> ExsIn w (fun k => k < B) g 0 args) : ArgsAt B b w av args.toList := by
 rcases ha with ⟨e1, e2⟩ | ⟨g, cap, e1, _, _, _, hg⟩
 ·refine Or.inl ⟨e1, ?_⟩
  cases args with
  | nil => rfl
  | cons x xs => exact absurd e2 (by show xs.len + 1 ≠ 0; omega)
 ·refine Or.inr ⟨g, cap, by rw [e1, Exs.len_list], fun W' hb _ i => hb.cell (p := ⟨g, i, none⟩) hg, fun i x hi => ?_⟩
  obtain ⟨v, a1, a2⟩ := xM args 0 (has g _ _ e1) i x hi
  rw [Nat.zero_add] at a1
  exact ⟨v, a1, a2⟩
theorem kW {F : Nat -> Prop} {v : Value} {x : Ex} (h : ExIn w F v x) : ∃ q, v = .pointer q := by
 cases x with
 | nil => exact ⟨none, h⟩
 | mk => obtain ⟨b, _, _, _, e, _⟩ := h; exact ⟨_, e⟩
theorem FP {B b : Nat} (code at_ n op : Nat) (name : Lx.B) (lx rx : Ex) (args : Exs) (hn : n <= 9223372036854775807) (hL : fS B b lx) (hR : fS B b rx) (hA : ∀ x ∈ args.toList, fS B b x) : I7 B b (.mk code at_ n op name lx rx args) := by
 intro l w v h hB hP hx hlen _
 obtain ⟨bk, lv, rv, av, rfl, hbk, c0, _, c2, c3, c4, c5, c6, c7, hl, hr, ha, has⟩ := hx
 obtain ⟨q, rfl⟩ := kW hl
 obtain ⟨p, rfl⟩ := kW hr
 by_cases h1 : code = 1
 ·subst h1
  have e : aF (.mk 1 at_ n op name lx rx args) = jX n := by rw [aF]; rfl
  rw [e] at hlen ⊢
  exact FL l w h hB hP c0 c2 hn hlen
 by_cases h2 : code = 2
 ·subst h2
  have e : aF (.mk 2 at_ n op name lx rx args) = if n = 0 then cP else eK := by rw [aF]; rfl
  rw [e] at hlen ⊢
  exact DH l w h hB c0 c2 hlen
 by_cases h3 : code = 3
 ·subst h3
  have e : aF (.mk 3 at_ n op name lx rx args) = hZ := by rw [aF]; rfl
  rw [e] at hlen ⊢
  exact FM l w h hB c0 hlen
 by_cases h4 : code = 4
 ·subst h4
  have e : aF (.mk 4 at_ n op name lx rx args) = name := by rw [aF]; rfl
  rw [e] at hlen ⊢
  exact DI l w h hB c0 c3 hlen
 by_cases h5 : code = 5
 ·subst h5
  have e : aF (.mk 5 at_ n op name lx rx args) = exV (bL op) lx ++ ([32] ++ (sgV op ++ ([32] ++ exV (bL op + 1) rx))) := by rw [aF]; rfl
  rw [e] at hlen ⊢
  exact FO l w h hB hP c0 c4 c5 c6 hbk hl hr hL hR hlen
 by_cases h6 : code = 6
 ·subst h6
  have e : aF (.mk 6 at_ n op name lx rx args) = cL op ++ exV 6 lx := by rw [aF]; rfl
  rw [e] at hlen ⊢
  exact IH l w h hB hP c0 c4 c5 hl hL hbk hlen
 by_cases h7 : code = 7
 ·subst h7
  have e : aF (.mk 7 at_ n op name lx rx args) = name ++ ([40] ++ (dV true args.toList ++ [41])) := by rw [aF, sZ]; rfl
  rw [e] at hlen ⊢
  exact DL l w h hB hP c0 c3 c7 hbk (DM ha has) hA hlen
 by_cases h8 : code = 8
 ·subst h8
  have e : aF (.mk 8 at_ n op name lx rx args) = dQ ++ ([40] ++ (exV 1 lx ++ [41])) := by rw [aF]; rfl
  rw [e] at hlen ⊢
  exact DK l w h hB hP c0 c5 hl hL hlen
 by_cases h9 : code = 9
 ·subst h9
  have e : aF (.mk 9 at_ n op name lx rx args) = hY ++ ([40] ++ (exV 1 lx ++ [41])) := by rw [aF]; rfl
  rw [e] at hlen ⊢
  exact FN l w h hB hP c0 c5 hl hL hlen
 by_cases h10 : code = 10
 ·subst h10
  have e : aF (.mk 10 at_ n op name lx rx args) = aK ++ exV 6 lx := by rw [aF]; rfl
  rw [e] at hlen ⊢
  exact DJ l w h hB hP c0 c5 hl hL hbk hlen
 ·have e : aF (.mk code at_ n op name lx rx args) = [] := by rw [aF, if_neg h1, if_neg h2, if_neg h3, if_neg h4, if_neg h5, if_neg h6, if_neg h10, if_neg h8, if_neg h9, if_neg h7]
  rw [e]
  exact zJ (by omega) l w h c0
mutual
theorem lE {B b : Nat} : ∀ x : Ex, bX x -> fS B b x
 | .nil, _ => sW (fun _ _ _ _ _ _ _ _ h => absurd rfl h)
 | .mk code at_ n op name lx rx args, h => sW (FP code at_ n op name lx rx args h.1 (lE lx h.2.1) (lE rx h.2.2.1) (qJ args h.2.2.2))
theorem qJ {B b : Nat} : ∀ xs : Exs, kA xs -> ∀ x ∈ xs.toList, fS B b x
 | .nil, _, x, hx => by cases hx
 | .cons y ys, h, x, hx => by
  rcases List.mem_cons.1 hx with e | e
  ·rw [e]; exact lE y h.1
  ·exact qJ ys h.2 x e
end
theorem eA (w : World) (xs : Array Value) (e : TypeId) : Below w.heap.size w (w.alloc (.cells xs e)) := ((Keeps.refl (fun _ => False) w).alloc _).below (Nat.le_refl _) (fun _ _ e => e.elim)
theorem JZ (w : World) : PC w.heap.size w.heap.size [] (w.alloc (.cells #[.pointer none, .slice none 0 0] 129)) :=
 ⟨Lib.fresh_isBuilder _ _ w, fun _ => by rw [Lib.cell_of_heap (heap_alloc_new w _)]; rfl⟩
def xN (w : World) (f : FuncId) (args : Array Value) (t : List UInt8) : Prop := Calls Tryz.prog f args w fun e w' => e = .returned (.string (mkT t)) /\ Below w.heap.size w w'
theorem zK {B : Nat} (x : Ex) (hok : bX x) (least : Nat) (w : World) (v : Value) (hB : B <= w.heap.size) (hP : PEnv B w) (hx : ExIn w (fun k => k < B) v x) (hlen : (exV least x).length <= 100000000) :
  xN w 81 #[v, .int .i64 (least : Nat)] (exV least x) := by
 unfold xN
 obtain ⟨q, rfl⟩ := kW hx
 have hb := eA w #[.pointer none, .slice none 0 0] 129
 have HE := zz (lE x hok least [] (w.alloc (.cells #[.pointer none, .slice none 0 0] 129)) (.pointer q) (JZ w) hb.size ((hP.mono hB).below hb) ((ExIn.mono (fun k _ (hk : k < B) => Nat.lt_of_lt_of_le hk hB) _ _ hx).below hb) (by rw [List.length_nil, Nat.zero_add]; exact hlen))
 have HB := zz hb
 clear hB hP hx hlen hb hok
 go_enter Tryz.func81, Tryz.ntmps81
 go_wp2_with fail
 refine HE.out.mono ?_
 rintro e w2 ⟨rfl, h2, hb2, ho2⟩
 have HS := zz (xI _ _ _ _ h2)
 have HB2 := zz (HB.out.trans hb2)
 clear h2 hb2 ho2
 go_wp2_with fail
 refine HS.out.mono ?_
 rintro e w3 ⟨rfl, hb3⟩
 have HB3 := zz (HB2.out.trans hb3)
 clear hb3
 go_wp2_with fail
 try simp only [Exit.inBlock, Exit.then]
 go_ret
 exact ⟨rfl, HB3.out⟩
theorem II {B : Nat} (x : Ex) (hok : bX x) (w : World) (v : Value) (hB : B <= w.heap.size) (hP : PEnv B w) (hx : ExIn w (fun k => k < B) v x) (hlen : (exV 1 x).length <= 100000000) :
  xN w 37 #[v] (exV 1 x) := by
 unfold xN
 obtain ⟨q, rfl⟩ := kW hx
 have HC := zz (zK x hok 1 w _ hB hP hx hlen)
 clear hB hP hx hlen hok
 go_enter Tryz.func37, Tryz.ntmps37
 go_wp2_with fail
 refine HC.out.mono ?_
 rintro e w2 ⟨rfl, hb2⟩
 have HB2 := zz hb2
 clear hb2
 go_wp2_with fail
 try simp only [Exit.inBlock, Exit.then]
 go_ret
 exact ⟨rfl, HB2.out⟩
def nD (x y : Ex) : Lx.B := exV 6 x ++ ([32, 60, 45, 32] ++ exV 1 y)
def tA (k : Nat) : Lx.B := g8.getD k []
def IJ : Nat -> Lx.B
 | 0 => []
 | n + 1 => IJ n ++ [32, 32]
theorem xO : ∀ n, (IJ n).length = 2 * n
 | 0 => rfl
 | n + 1 => by show (IJ n ++ [32, 32]).length = _; rw [List.length_append, xO n]; show 2 * n + 2 = _; omega
def a8 (d : Nat) (t : Lx.B) : Lx.B := IJ d ++ (t ++ [10])
theorem aE (d : Nat) (t : Lx.B) : (a8 d t).length = 2 * d + (t.length + 1) := by unfold a8; rw [List.length_append, xO, List.length_append]; rfl
end Go.Proofs.YtnpapppipccdbaaGreatDoor
namespace Go.Proofs.YtnpapppipccdbaaGreatDoor
open Go.RowKit Lx Tr
def IL : Lx.B := [32, 58, 61, 32]
def IM : Lx.B := [32, 61, 32]
def uV : Lx.B := [99, 108, 111, 115, 101, 40]
def cRp : Lx.B := [41]
def uW : Lx.B := [112, 114, 105, 110, 116, 32]
def uX : Lx.B := [115, 108, 101, 101, 112, 32]
def cGo : Lx.B := [103, 111, 32]
def kX : Lx.B := [114, 101, 116, 117, 114, 110]
def pC : Lx.B := [114, 101, 116, 117, 114, 110, 32]
def uY : Lx.B := [98, 114, 101, 97, 107]
def lF : Lx.B := [99, 111, 110, 116, 105, 110, 117, 101]
def cIf : Lx.B := [105, 102, 32]
def oO : Lx.B := [32, 123]
def tB : Lx.B := [125, 32, 101, 108, 115, 101, 32, 123]
def iO9 : Lx.B := [102, 111, 114, 32]
def mH : Lx.B := [125]
def pD : Lx.B := [115, 101, 108, 101, 99, 116, 32, 123]
def oP : Lx.B := [99, 97, 115, 101, 32]
def jH : Lx.B := [99, 97, 115, 101, 32, 60, 45]
def nE : Lx.B := [32, 58, 61, 32, 60, 45]
def qK : Lx.B := [100, 101, 102, 97, 117, 108, 116]
def qL : Lx.B := [58]
def kY (d : Nat) (val : Ex) : Lx.B := match val with
 | .nil => a8 d kX
 | x => a8 d (pC ++ exV 1 x)
def gU (code : Nat) (name : Lx.B) (dst val : Ex) : Lx.B :=
 if code = 3 then oP ++ nD dst val
 else if code = 10 then (if name = [] then jH ++ exV 6 dst else oP ++ (name ++ (nE ++ exV 6 dst)))
 else qK
mutual
def stV : Nat -> St -> Lx.B
 | d, .mk code _ name dst val thn els cases =>
  if code = 1 then a8 d (name ++ (IL ++ exV 1 val))
  else if code = 2 then a8 d (name ++ (IM ++ exV 1 val))
  else if code = 3 then a8 d (nD dst val)
  else if code = 4 then a8 d (uV ++ (exV 1 val ++ cRp))
  else if code = 5 then a8 d (uW ++ exV 1 val)
  else if code = 6 then a8 d (uX ++ exV 1 val)
  else if code = 7 then a8 d (cGo ++ exV 1 val)
  else if code = 8 then kY d val
  else if code = 9 then a8 d uY
  else if code = 10 then a8 d lF
  else if code = 11 then a8 d (exV 1 val)
  else if code = 12 then a8 d (cIf ++ (exV 1 val ++ oO)) ++ (eB (d + 1) thn ++ ((if els.len = 0 then [] else a8 d tB ++ eB (d + 1) els) ++ a8 d mH))
  else if code = 13 then a8 d (iO9 ++ (exV 1 val ++ oO)) ++ (eB (d + 1) thn ++ a8 d mH)
  else if code = 14 then a8 d pD ++ (kD d cases ++ a8 d mH)
  else []
def eB : Nat -> Sts -> Lx.B
 | _, .nil => []
 | d, .cons x xs => stV d x ++ eB d xs
def caV : Nat -> Ca -> Lx.B
 | d, .mk code _ name dst val body => a8 d (gU code name dst val ++ qL) ++ eB (d + 1) body
def kD : Nat -> Cas -> Lx.B
 | _, .nil => []
 | d, .cons x xs => caV d x ++ kD d xs
end
end Go.Proofs.YtnpapppipccdbaaGreatDoor
namespace Go.Proofs.YtnpapppipccdbaaGreatDoor
open Go.RowKit Lx Tr
variable {w w' : World}
def A6 : Lx.B := [102, 117, 110, 99, 32]
def paV (p : Pa) : Lx.B := p.name ++ ([32] ++ tA p.kind)
def mI : Bool -> List Pa -> Lx.B
 | _, [] => []
 | f, x :: xs => (if f then [] else [44, 32]) ++ (paV x ++ mI false xs)
theorem tC : ∀ (l : List Pa) (f : Bool) (x : Pa), mI f (l ++ [x]) = mI f l ++ ((if f = true /\ l = [] then [] else [44, 32]) ++ paV x)
 | [], f, x => by
  show (if f then [] else [44, 32]) ++ (paV x ++ []) = [] ++ _
  cases f <;> simp
 | y :: l, f, x => by
  show (if f then [] else [44, 32]) ++ (paV y ++ mI false (l ++ [x])) = ((if f then [] else [44, 32]) ++ (paV y ++ mI false l)) ++ _
  rw [tC l false x, if_neg (show ¬ (false = true /\ l = []) from fun e => by cases e.1), if_neg (show ¬ (f = true /\ y :: l = []) from fun e => by cases e.2)]
  simp only [List.append_assoc]
def fuV (g : Fu) : Lx.B := (A6 ++ (g.name ++ [40])) ++ (mI true g.params ++ ([41, 32] ++ ((if g.kind = 0 then [] else tA g.kind ++ [32]) ++ ([123, 10] ++ (eB 1 g.body ++ a8 0 mH)))))
def KL : Lx.B := [118, 97, 114, 32]
def glV (g : Gl) : Lx.B := a8 0 (KL ++ g.name)
def hD (s : Src) : Lx.B := s.globals.flatMap glV ++ s.funcs.flatMap fuV
def tD (s : Src) : Prop := ∀ g ∈ s.funcs, fQ g.body
end Go.Proofs.YtnpapppipccdbaaGreatDoor
namespace Go.Proofs.YtnpapppipccdbaaGreatDoor
open Go.RowKit Lx Tr
theorem FQ (least : Nat) : ∀ (x : Ex) (b : Lx.B), exW least (exE x) b = exW least x b
 | .nil, _ => by rw [exE]
 | .mk .., _ => by rw [exE]; rfl
mutual
theorem pE : ∀ x : Ex, aF (exE x) = aF x
 | .nil => by rw [exE]
 | .mk c a n op nm l r zs => by
  rw [exE, aF, aF, pE l, pE r, FR true zs]
  simp only [FQ]
theorem FR : ∀ (f : Bool) (xs : Exs), fH f (fL xs) = fH f xs
 | f, .nil => by rw [fL]
 | f, .cons x xs => by rw [fL, fH, fH, pE x, FR false xs, FQ]
end
theorem JA (least : Nat) (x : Ex) : exV least (exE x) = exV least x := by unfold exV; rw [FQ, pE]
theorem kZ : ∀ xs : Sts, (cN xs).len = xs.len
 | .nil => by rw [cN]
 | .cons x xs => by rw [cN, Sts.len, Sts.len, kZ xs]
def wsT (E : Env) : Nat -> Nat
 | 0 => 0
 | n + 1 => wsT E n + ((pk E n).text.length + 128)
theorem J0 (E : Env) (n k : Nat) : wsT E n + 128 * k <= wsT E (n + k) := by
 induction k with
 | zero => simp
 | succ k ih => show _ <= wsT E (n + k) + _; omega
theorem iW (E : Env) {n m : Nat} (h : n <= m) : wsT E n + 128 * (m - n) <= wsT E m := by
 have := J0 E n (m - n)
 rw [show n + (m - n) = m by omega] at this
 exact this
theorem aY (E : Env) (n : Nat) : wsT E (n + 1) = wsT E n + ((pk E n).text.length + 128) := rfl
theorem lG (k : Nat) : (cL k).length <= 3 := by
 unfold cL
 by_cases h : k < nN.length
 ·have : ∀ x ∈ nN, x.length <= 3 := by decide
  rw [List.getD_eq_getElem?_getD, List.getElem?_eq_getElem h]
  exact this _ (List.getElem_mem h)
 ·rw [List.getD_eq_getElem?_getD, List.getElem?_eq_none (by omega)]
  exact Nat.zero_le _
theorem uZ (k : Nat) : (sgV k).length <= 3 := by
 unfold sgV
 split
 ·decide
 ·split
  ·decide
  ·exact lG k
theorem tE (k : Nat) : (tA k).length <= 4 := by
 unfold tA
 by_cases h : k < g8.length
 ·have : ∀ x ∈ g8, x.length <= 4 := by decide
  rw [List.getD_eq_getElem?_getD, List.getElem?_eq_getElem h]
  exact this _ (List.getElem_mem h)
 ·rw [List.getD_eq_getElem?_getD, List.getElem?_eq_none (by omega)]
  exact Nat.zero_le _
theorem lH (least : Nat) (x : Ex) (b : Lx.B) : (exW least x b).length <= b.length + 2 := by
 unfold exW
 split
 ·exact Nat.zero_le _
 ·split
  ·simp
  ·omega
def ExL (E : Env) (n m : Nat) (x : Ex) : Prop := bX x /\ (aF x).length + 64 + wsT E n <= wsT E m
def KM (E : Env) (n m : Nat) (x : Exs) : Prop := kA x /\ (fH true x).length + 64 + wsT E n <= wsT E m
theorem ExL.ex {E : Env} {n m : Nat} {x : Ex} (h : ExL E n m x) (least : Nat) : (exV least x).length + 62 + wsT E n <= wsT E m := by
 have := lH least x (aF x)
 have := h.2
 unfold exV; omega
theorem tF : ∀ (xs : Exs) (f : Bool) (y : Ex), (fH f (xs.snoc y)).length <= (fH f xs).length + (aF y).length + 4
 | .nil, f, y => by
  rw [Exs.snoc, fH, fH, fH]
  have := lH 1 y (aF y)
  cases f <;> simp <;> omega
 | .cons x xs, f, y => by
  rw [Exs.snoc, fH, fH]
  have := tF xs false y
  simp only [List.length_append]
  omega
theorem mJ : ∀ (xs : Exs) (y : Ex), kA xs -> bX y -> kA (xs.snoc y)
 | .nil, _, _, h => ⟨h, trivial⟩
 | .cons _ xs, y, h, h2 => ⟨h.1, mJ xs y h.2 h2⟩
theorem ExL.leaf {E : Env} {n code at_ k : Nat} {nm : Lx.B} (hk : k <= 9223372036854775807) (hnm : nm.length <= (pk E n).text.length) : ExL E n (n + 1) (Tr.leaf code at_ k nm) := by
 refine ⟨⟨hk, trivial, trivial, trivial⟩, ?_⟩
 rw [aY]
 have h1 : (jX k).length <= 21 := Lib.itoa_length_le _ (by omega) (by omega)
 have h2 : (aF (Tr.leaf code at_ k nm)).length <= (pk E n).text.length + 64 := by
  unfold Tr.leaf
  rw [aF]
  have e0 : exW 6 Ex.nil (aF .nil) = [] := rfl
  have e1 : exW 1 Ex.nil (aF .nil) = [] := rfl
  have e2 : exW (bL 0) Ex.nil (aF .nil) = [] := rfl
  have e3 : exW (bL 0 + 1) Ex.nil (aF .nil) = [] := rfl
  have e4 : fH true Exs.nil = [] := by rw [fH]
  have h3 := uZ 0
  have h4 := lG 0
  rw [e0, e1, e2, e3, e4]
  repeat' split
  all_goals ((try simp only [List.length_append, List.length_cons, List.length_nil, List.append_nil, eK, cP, hZ, aK, dQ, hY]); omega)
 omega
structure Lens (E : Env) (f : Nat) : Prop where
 one : ∀ d n x m, one E f d n = .ok x m -> ExL E n m x
 bracketed : ∀ d n x m, bracketed E f d n = .ok x m -> ExL E n m x
 tied : ∀ l d n x m, tied E f l d n = .ok x m -> ExL E n m x
 tloop : ∀ l d a n0 n x m, tloop E f l d a n = .ok x m -> ExL E n0 n a -> ExL E n0 m x
 named : ∀ d n x m, named E f d n = .ok x m -> ExL E n m x
 call : ∀ d t n0 n x m, call E f d t n = .ok x m -> wsT E n0 + t.text.length + 128 <= wsT E n -> ExL E n0 m x
 args : ∀ d a n0 n x m, args E f d a n = .ok x m -> KM E n0 n a -> KM E n0 m x
theorem dN {E : Env} {t : Lx.B} {n m : Nat} {x : Tok} (h : take E t n = .ok x m) : m = n + 1 := by
 unfold take Tr.fail at h
 split at h
 ·cases h; rfl
 ·cases h
theorem bW {E : Env} {q n m : Nat} {x : Tok} (h : aC E q n = .ok x m) : m = n + 1 /\ x = pk E n := by
 unfold aC Tr.fail at h
 split at h
 ·cases h; exact ⟨rfl, rfl⟩
 ·cases h
theorem u0 {E : Env} {n m code at_ k op : Nat} {x : Ex} (hk : k <= 9223372036854775807) (hc : code = 6 \/ code = 10 \/ code = 8 \/ code = 9) (h : ExL E (n + 1) m x) : ExL E n m (.mk code at_ k op [] x .nil .nil) := by
 refine ⟨⟨hk, h.1, trivial, trivial⟩, ?_⟩
 have h2 := h.2
 rw [aY] at h2
 have h3 : (aF (.mk code at_ k op [] x .nil .nil)).length <= (aF x).length + 8 := by
  have a1 := lH 6 x (aF x)
  have a2 := lH 1 x (aF x)
  have a3 := lG op
  rw [aF]
  rcases hc with rfl | rfl | rfl | rfl
  all_goals (simp only [reduceIte, List.length_append, List.length_cons, List.length_nil, eK, cP, hZ, aK, dQ, hY, Nat.reduceEqDiff]; omega)
 omega
theorem DN {E : Env} (hnum : ∀ n, (pk E n).kind = 3 -> dP (pk E n).text <= 9223372036854775807) (f : Nat) : Lens E f := by
 induction f with
 | zero =>
  constructor
  ·intro _ _ _ _ h; rw [Tr.one] at h; cases h
  ·intro _ _ _ _ h; rw [Tr.bracketed] at h; cases h
  ·intro _ _ _ _ _ h; rw [Tr.tied] at h; cases h
  ·intro _ _ _ _ _ _ _ h; rw [Tr.tloop] at h; cases h
  ·intro _ _ _ _ h; rw [Tr.named] at h; cases h
  ·intro _ _ _ _ _ _ h; rw [Tr.call] at h; cases h
  ·intro _ _ _ _ _ _ h; rw [Tr.args] at h; cases h
 | succ f ih =>
  constructor
  ·intro d n x m h
   rw [Tr.one] at h
   by_cases c0 : 12 < d
   ·rw [if_pos c0] at h; exact (aN h).elim
   rw [if_neg c0] at h
   by_cases c1 : (pk E n).kind = 3
   ·rw [if_pos c1] at h
    cases h
    exact ExL.leaf (hnum n c1) (Nat.zero_le _)
   rw [if_neg c1] at h
   by_cases c2 : (pk E n).kind = 1
   ·rw [if_pos c2] at h
    exact ih.named _ _ _ _ h
   rw [if_neg c2] at h
   by_cases c3 : (pk E n).text = tLp
   ·rw [if_pos c3] at h
    exact ih.bracketed _ _ _ _ h
   rw [if_neg c3] at h
   by_cases c4 : (pk E n).text = [45] \/ (pk E n).text = [94] \/ (pk E n).text = [33]
   ·rw [if_pos c4] at h
    obtain ⟨y, n1, h1, h⟩ := aA h
    cases h
    exact u0 (by omega) (by simp) (ih.one _ _ _ _ h1)
   rw [if_neg c4] at h
   by_cases c5 : (pk E n).text = aK
   ·rw [if_pos c5] at h
    obtain ⟨y, n1, h1, h⟩ := aA h
    cases h
    exact u0 (by omega) (by simp) (ih.one _ _ _ _ h1)
   rw [if_neg c5] at h
   by_cases c6 : (pk E n).text = dQ
   ·rw [if_pos c6] at h
    obtain ⟨y, n1, h1, h⟩ := aA h
    cases h
    exact u0 (by omega) (by simp) (ih.bracketed _ _ _ _ h1)
   rw [if_neg c6] at h
   by_cases c7 : (pk E n).text = hY
   ·rw [if_pos c7] at h
    obtain ⟨y, n1, h1, h⟩ := aA h
    cases h
    exact u0 (by omega) (by simp) (ih.bracketed _ _ _ _ h1)
   rw [if_neg c7] at h
   by_cases c8 : (pk E n).text = eK
   ·rw [if_pos c8] at h
    cases h
    exact ExL.leaf (by omega) (Nat.zero_le _)
   rw [if_neg c8] at h
   by_cases c9 : (pk E n).text = cP
   ·rw [if_pos c9] at h
    cases h
    exact ExL.leaf (by omega) (Nat.zero_le _)
   rw [if_neg c9] at h
   by_cases c10 : (pk E n).text = hZ
   ·rw [if_pos c10] at h
    cases h
    exact ExL.leaf (by omega) (Nat.zero_le _)
   rw [if_neg c10] at h
   exact (aN h).elim
  ·intro d n x m h
   rw [bU] at h
   obtain ⟨_, n1, h1, h⟩ := aA h
   obtain ⟨y, n2, h2, h⟩ := aA h
   obtain ⟨_, n3, h3, h⟩ := aA h
   cases h
   have q := ih.tied _ _ _ _ _ h2
   have a1 := iW E (Nat.le_of_lt (aS h1))
   have a3 := iW E (Nat.le_of_lt (aS h3))
   exact ⟨q.1, by have := q.2; omega⟩
  ·intro l d n x m h
   rw [iA] at h
   by_cases c : l = 6
   ·rw [if_pos c] at h
    exact ih.one _ _ _ _ h
   ·rw [if_neg c] at h
    obtain ⟨y, n1, h1, h⟩ := aA h
    exact ih.tloop _ _ _ _ _ _ _ h (ih.tied _ _ _ _ _ h1)
  ·intro l d a n0 n x m h ha
   rw [gM] at h
   by_cases c : bL (opV (pk E n).text) = l
   ·rw [if_pos c] at h
    obtain ⟨y, n1, h1, h⟩ := aA h
    have q := ih.tied _ _ _ _ _ h1
    refine ih.tloop _ _ _ n0 _ _ _ h ⟨⟨by omega, ha.1, q.1, trivial⟩, ?_⟩
    have b1 := ha.2
    have b2 := q.2
    rw [aY] at b2
    have b3 := lH (bL (opV (pk E n).text)) a (aF a)
    have b4 := lH (bL (opV (pk E n).text) + 1) y (aF y)
    have b5 := uZ (opV (pk E n).text)
    rw [aF]
    simp only [reduceIte, List.length_append, List.length_cons, List.length_nil, Nat.reduceEqDiff]
    omega
   ·rw [if_neg c] at h
    cases h
    exact ha
  ·intro d n x m h
   rw [gN] at h
   by_cases c : (pk E (n + 1)).text = tLp
   ·rw [if_pos c] at h
    exact ih.call _ _ n _ _ _ h (by rw [aY]; omega)
   ·rw [if_neg c] at h
    cases h
    exact ExL.leaf (by omega) (Nat.le_refl _)
  ·intro d t n0 n x m h ht
   rw [iB] at h
   obtain ⟨_, n1, h1, h⟩ := aA h
   have a1 := iW E (Nat.le_of_lt (aS h1))
   by_cases c : (pk E n1).text = tRp
   ·rw [if_pos c] at h
    cases h
    refine ⟨⟨by omega, trivial, trivial, trivial⟩, ?_⟩
    rw [aF, aY]
    have e4 : fH true Exs.nil = [] := by rw [fH]
    rw [e4]
    simp only [reduceIte, List.length_append, List.length_cons, List.length_nil, Nat.reduceEqDiff]
    omega
   ·rw [if_neg c] at h
    obtain ⟨y, n2, h2, h⟩ := aA h
    cases h
    have q := ih.args _ .nil n _ _ _ h2 ⟨trivial, by
     have e4 : fH true Exs.nil = [] := by rw [fH]
     rw [e4]
     have := dN h1
     subst this
     rw [aY]
     simp only [List.length_nil]
     omega⟩
    refine ⟨⟨by omega, trivial, trivial, q.1⟩, ?_⟩
    have b1 := q.2
    rw [aF]
    simp only [reduceIte, List.length_append, List.length_cons, List.length_nil, Nat.reduceEqDiff]
    omega
  ·intro d a n0 n x m h ha
   rw [jL] at h
   obtain ⟨y, n1, h1, h⟩ := aA h
   have q := ih.tied _ _ _ _ _ h1
   have b0 := tF a true y
   have b1 := ha.2
   have b2 := q.2
   by_cases c : (pk E n1).text = bY
   ·rw [if_pos c] at h
    refine ih.args _ _ n0 _ _ _ h ⟨mJ _ _ ha.1 q.1, ?_⟩
    rw [aY]
    omega
   ·rw [if_neg c] at h
    obtain ⟨_, n2, h2, h⟩ := aA h
    have a2 := iW E (Nat.le_of_lt (aS h2))
    have a3 := dN h2
    cases h
    refine ⟨mJ _ _ ha.1 q.1, ?_⟩
    subst a3
    rw [aY] at a2 ⊢
    omega
def StL (E : Env) (d n m : Nat) (s : St) : Prop := rI s /\ (stV d s).length + wsT E n <= wsT E m
def StsL (E : Env) (d n m : Nat) (s : Sts) : Prop := fQ s /\ (eB d s).length + wsT E n <= wsT E m
def CaL (E : Env) (d n m : Nat) (s : Ca) : Prop := yJ s /\ (caV d s).length + wsT E n <= wsT E m
def CasL (E : Env) (d n m : Nat) (s : Cas) : Prop := mV s /\ (kD d s).length + wsT E n <= wsT E m
theorem tG (d : Nat) : ∀ (xs : Sts) (y : St), eB d (xs.snoc y) = eB d xs ++ stV d y
 | .nil, y => by rw [Sts.snoc, eB, eB, eB, List.append_nil, List.nil_append]
 | .cons x xs, y => by rw [Sts.snoc, eB, eB, tG d xs y, List.append_assoc]
theorem tH (d : Nat) : ∀ (xs : Cas) (y : Ca), kD d (xs.snoc y) = kD d xs ++ caV d y
 | .nil, y => by rw [Cas.snoc, kD, kD, kD, List.append_nil, List.nil_append]
 | .cons x xs, y => by rw [Cas.snoc, kD, kD, tH d xs y, List.append_assoc]
theorem qM : ∀ (xs : Sts) (y : St), fQ xs -> rI y -> fQ (xs.snoc y)
 | .nil, _, _, h => ⟨h, trivial⟩
 | .cons _ xs, y, h, h2 => ⟨h.1, qM xs y h.2 h2⟩
theorem qN : ∀ (xs : Cas) (y : Ca), mV xs -> yJ y -> mV (xs.snoc y)
 | .nil, _, _, h => ⟨h, trivial⟩
 | .cons _ xs, y, h, h2 => ⟨h.1, qN xs y h.2 h2⟩
theorem StsL.snoc {E : Env} {d n0 n m : Nat} {xs : Sts} {y : St} (h : StsL E d n0 n xs) (h2 : StL E d n m y) : StsL E d n0 m (xs.snoc y) := by
 refine ⟨qM _ _ h.1 h2.1, ?_⟩
 rw [tG, List.length_append]
 have := h.2
 have := h2.2
 omega
theorem CasL.snoc {E : Env} {d n0 n m : Nat} {xs : Cas} {y : Ca} (h : CasL E d n0 n xs) (h2 : CaL E d n m y) : CasL E d n0 m (xs.snoc y) := by
 refine ⟨qN _ _ h.1 h2.1, ?_⟩
 rw [tH, List.length_append]
 have := h.2
 have := h2.2
 omega
theorem StsL.on {E : Env} {d n0 n m : Nat} {xs : Sts} (h : StsL E d n0 n xs) (hm : n <= m) : StsL E d n0 m xs := ⟨h.1, by have := h.2; have := iW E hm; omega⟩
theorem dU (least : Nat) : exV least .nil = [] := rfl
theorem qO (d : Nat) : eB d .nil = [] := by rw [eB]
theorem FS (d : Nat) : kD d .nil = [] := by rw [kD]
theorem DO (d : Nat) (x : Ex) : (kY d x).length <= 2 * d + 8 + (exV 1 x).length := by
 unfold kY
 split
 ·rw [aE]; simp only [kX, List.length_cons, List.length_nil]; omega
 ·rw [aE]; simp only [pC, List.length_append, List.length_cons, List.length_nil]; omega
theorem eY {E : Env} {d n m code at_ : Nat} {nm : Lx.B} {dst v : Ex} (hd : d <= 12) (h1 : bX dst) (h2 : bX v) (hl : nm.length + (exV 6 dst).length + (exV 1 v).length + 40 + wsT E n <= wsT E m) (hc : code < 12) : StL E d n m (stz code at_ nm dst v) := by
 refine ⟨⟨h1, h2, trivial, trivial, trivial⟩, ?_⟩
 have hg := DO d v
 have : (stV d (stz code at_ nm dst v)).length <= 40 + nm.length + (exV 6 dst).length + (exV 1 v).length := by
  unfold stz
  rcases (by omega : code = 0 \/ code = 1 \/ code = 2 \/ code = 3 \/ code = 4 \/ code = 5 \/ code = 6 \/ code = 7 \/ code = 8 \/ code = 9 \/ code = 10 \/ code = 11) with rfl | rfl | rfl | rfl | rfl | rfl | rfl | rfl | rfl | rfl | rfl | rfl
  all_goals (rw [stV]; simp only [reduceIte, Nat.reduceEqDiff, nD, aE, IL, IM, uV, cRp, uW, uX, cGo, uY, lF, List.length_append, List.length_cons, List.length_nil]; omega)
 omega
theorem fT {E : Env} (hnum : ∀ n, (pk E n).kind = 3 -> dP (pk E n).text <= 9223372036854775807) {f d n m : Nat} {x : Ex} (h : dC E f d n = .ok x m) : ExL E n m x := (DN hnum f).tied _ _ _ _ _ h
theorem u3 (E : Env) (n : Nat) : wsT E (n + 2) = wsT E n + ((pk E n).text.length + 128) + ((pk E (n + 1)).text.length + 128) := rfl
theorem FT {E : Env} {n m : Nat} {x : Ex} (h : ExL E n m x) (hc : Tr.codeOf x = 10) : bX (Tr.leftOf x) /\ (exV 6 (Tr.leftOf x)).length + 64 + wsT E n <= wsT E m := by
 cases x with
 | nil => cases hc
 | mk code at_ k op nm l r zs =>
  have hc' : code = 10 := hc
  subst hc'
  refine ⟨h.1.2.1, ?_⟩
  have h2 := h.2
  rw [aF] at h2
  simp only [reduceIte, List.length_append, List.length_cons, List.length_nil, Nat.reduceEqDiff, aK] at h2
  show (exW 6 l (aF l)).length + 64 + wsT E n <= wsT E m
  omega
theorem DP {E : Env} (hnum : ∀ n, (pk E n).kind = 3 -> dP (pk E n).text <= 9223372036854775807) {f d n m : Nat} {s : St} (hd : d <= 12) (h : cJ E f n = .ok s m) : StL E d n m s := by
 unfold cJ at h
 by_cases c1 : (pk E n).kind = 1 /\ (pk E (n + 1)).text = hU
 ·rw [if_pos c1] at h
  obtain ⟨y, n1, h1, h⟩ := aA h
  cases h
  have q := fT hnum h1
  have q1 := q.ex 1
  rw [u3] at q1
  exact eY hd trivial q.1 (by rw [dU]; simp only [List.length_nil]; omega) (by decide)
 rw [if_neg c1] at h
 by_cases c2 : (pk E n).kind = 1 /\ (pk E (n + 1)).text = pI
 ·rw [if_pos c2] at h
  obtain ⟨y, n1, h1, h⟩ := aA h
  cases h
  have q := fT hnum h1
  have q1 := q.ex 1
  rw [u3] at q1
  exact eY hd trivial q.1 (by rw [dU]; simp only [List.length_nil]; omega) (by decide)
 rw [if_neg c2] at h
 obtain ⟨y, n1, h1, h⟩ := aA h
 have q := (DN hnum f).one _ _ _ _ h1
 by_cases c3 : (pk E n1).text = aK
 ·rw [if_pos c3] at h
  obtain ⟨z, n2, h2, h⟩ := aA h
  cases h
  have p := fT hnum h2
  have q1 := q.ex 6
  have p1 := p.ex 1
  rw [aY] at p1
  exact eY hd q.1 p.1 (by simp only [List.length_nil]; omega) (by decide)
 rw [if_neg c3] at h
 by_cases c4 : Tr.codeOf y = 7 \/ Tr.codeOf y = 10
 ·rw [if_pos c4] at h
  cases h
  have q1 := q.ex 1
  exact eY hd trivial q.1 (by rw [dU]; simp only [List.length_nil]; omega) (by decide)
 rw [if_neg c4] at h
 exact (aN h).elim
theorem FU {E : Env} (hnum : ∀ n, (pk E n).kind = 3 -> dP (pk E n).text <= 9223372036854775807) {f n m : Nat} {s : Nat × B × Ex × Ex} (h : gL E f n = .ok s m) : bX s.2.2.1 /\ bX s.2.2.2 /\ (gU s.1 s.2.1 s.2.2.1 s.2.2.2).length + wsT E n <= wsT E m := by
 unfold gL at h
 by_cases c1 : (pk E n).kind = 1 /\ (pk E (n + 1)).text = hU
 ·rw [if_pos c1] at h
  obtain ⟨_, n0, h0, h⟩ := aA h
  obtain ⟨y, n1, h1, h⟩ := aA h
  cases h
  have q := (DN hnum f).one _ _ _ _ h1
  have a0 := dN h0
  subst a0
  have q1 := q.ex 6
  rw [aY, u3] at q1
  refine ⟨q.1, trivial, ?_⟩
  unfold gU
  rw [if_neg (show ¬ (10 : Nat) = 3 by decide), if_pos rfl]
  split
  all_goals (simp only [jH, oP, nE, List.length_append, List.length_cons, List.length_nil]; omega)
 rw [if_neg c1] at h
 obtain ⟨y, n1, h1, h⟩ := aA h
 have q := (DN hnum f).one _ _ _ _ h1
 by_cases c3 : (pk E n1).text = aK
 ·rw [if_pos c3] at h
  obtain ⟨z, n2, h2, h⟩ := aA h
  cases h
  have p := fT hnum h2
  have q1 := q.ex 6
  have p1 := p.ex 1
  rw [aY] at p1
  refine ⟨q.1, p.1, ?_⟩
  unfold gU nD
  rw [if_pos rfl]
  simp only [oP, List.length_append, List.length_cons, List.length_nil]
  omega
 rw [if_neg c3] at h
 by_cases c4 : Tr.codeOf y = 10
 ·rw [if_pos c4] at h
  cases h
  obtain ⟨q1, q2⟩ := FT q c4
  refine ⟨q1, trivial, ?_⟩
  unfold gU
  rw [if_neg (show ¬ (10 : Nat) = 3 by decide), if_pos rfl, if_pos rfl]
  simp only [jH, List.length_append, List.length_cons, List.length_nil]
  omega
 rw [if_neg c4] at h
 exact (aN h).elim
theorem nF {E : Env} {dep n m : Nat} {t : Tok} (h : cM E dep n = .ok t m) : m = n + 1 /\ dep < 12 := by
 unfold cM at h
 by_cases c : (pk E n).text = tLb /\ 12 <= dep
 ·rw [if_pos c] at h; exact (aN h).elim
 ·rw [if_neg c] at h
  refine ⟨dN h, ?_⟩
  by_cases c2 : (pk E n).text = tLb
  ·exact Nat.lt_of_not_le fun e => c ⟨c2, e⟩
  ·unfold take at h
   rw [if_neg c2] at h
   exact (aN h).elim
structure Slens (E : Env) (f : Nat) : Prop where
 block : ∀ dep n x m, block E f dep n = .ok x m -> dep <= 12 -> fQ x /\ (eB (dep + 1) x).length + 256 + wsT E n <= wsT E m
 stmts : ∀ dep cs a n0 n x m, stmts E f dep cs a n = .ok x m -> dep <= 12 -> StsL E dep n0 n a -> StsL E dep n0 m x
 stmt : ∀ dep n x m, stmt E f dep n = .ok x m -> dep <= 12 -> StL E dep n m x
 cases : ∀ d a n0 n x m, cases E f (d + 1) a n = .ok x m -> d + 1 <= 12 -> CasL E d n0 n a -> CasL E d n0 m x
 oneCase : ∀ d n x m, oneCase E f (d + 1) n = .ok x m -> d + 1 <= 12 -> CaL E d n m x
theorem KN {E : Env} (hnum : ∀ n, (pk E n).kind = 3 -> dP (pk E n).text <= 9223372036854775807) (f : Nat) : Slens E f := by
 induction f with
 | zero =>
  constructor
  ·intro _ _ _ _ h; rw [Tr.block] at h; cases h
  ·intro _ _ _ _ _ _ _ h; rw [Tr.stmts] at h; cases h
  ·intro _ _ _ _ h; rw [Tr.stmt] at h; cases h
  ·intro _ _ _ _ _ _ h; rw [Tr.cases] at h; cases h
  ·intro _ _ _ _ h; rw [Tr.oneCase] at h; cases h
 | succ f ih =>
  constructor
  ·intro dep n x m h hd
   rw [jB] at h
   obtain ⟨_, n1, h1, h⟩ := aA h
   obtain ⟨y, n2, h2, h⟩ := aA h
   obtain ⟨_, n3, h3, h⟩ := aA h
   cases h
   obtain ⟨rfl, hlt⟩ := nF h1
   have a3 := dN h3
   subst a3
   have q := ih.stmts _ _ .nil (n + 1) _ _ _ h2 (by omega) ⟨trivial, by rw [qO]; simp⟩
   have q2 := q.2
   rw [aY] at q2 ⊢
   exact ⟨q.1, by omega⟩
  ·intro dep cs a n0 n x m h hd ha
   rw [fK] at h
   by_cases c : (pk E n).text = tRb \/ (cs = true /\ ((pk E n).text = fW \/ (pk E n).text = bA))
   ·rw [if_pos c] at h
    cases h
    exact ha
   rw [if_neg c] at h
   obtain ⟨y, n1, h1, h⟩ := aA h
   have q := ha.snoc (ih.stmt _ _ _ _ h1 hd)
   by_cases c2 : (pk E n1).text = tRb
   ·rw [if_pos c2] at h
    exact ih.stmts _ _ _ n0 _ _ _ h hd q
   ·rw [if_neg c2] at h
    obtain ⟨_, n2, h2, h⟩ := aA h
    exact ih.stmts _ _ _ n0 _ _ _ h hd (q.on (Nat.le_of_lt (aQ h2)))
  ·intro dep n x m h hd
   rw [cT] at h
   by_cases c0 : (pk E n).text = gW
   ·rw [if_pos c0] at h
    obtain ⟨y, n1, h1, h⟩ := aA h
    cases h
    have q := (DN hnum f).bracketed _ _ _ _ h1
    have q1 := q.ex 1
    rw [aY] at q1
    exact eY hd trivial q.1 (by rw [dU]; simp only [List.length_nil]; omega) (by decide)
   rw [if_neg c0] at h
   by_cases c1 : (pk E n).text = gX
   ·rw [if_pos c1] at h
    obtain ⟨y, n1, h1, h⟩ := aA h
    cases h
    have q := fT hnum h1
    have q1 := q.ex 1
    rw [aY] at q1
    exact eY hd trivial q.1 (by rw [dU]; simp only [List.length_nil]; omega) (by decide)
   rw [if_neg c1] at h
   by_cases c2 : (pk E n).text = gY
   ·rw [if_pos c2] at h
    obtain ⟨y, n1, h1, h⟩ := aA h
    cases h
    have q := fT hnum h1
    have q1 := q.ex 1
    rw [aY] at q1
    exact eY hd trivial q.1 (by rw [dU]; simp only [List.length_nil]; omega) (by decide)
   rw [if_neg c2] at h
   by_cases c3 : (pk E n).text = tGo
   ·rw [if_pos c3] at h
    obtain ⟨t, n1, h1, h⟩ := aA h
    obtain ⟨y, n2, h2, h⟩ := aA h
    cases h
    obtain ⟨rfl, rfl⟩ := bW h1
    have q := (DN hnum f).call _ _ (n + 1) _ _ _ h2 (by rw [aY E (n + 1)]; omega)
    have q1 := q.ex 1
    rw [aY] at q1
    exact eY hd trivial q.1 (by rw [dU]; simp only [List.length_nil]; omega) (by decide)
   rw [if_neg c3] at h
   by_cases c4 : (pk E n).text = dA
   ·rw [if_pos c4] at h
    by_cases c : (pk E (n + 1)).kind = 5 \/ (pk E (n + 1)).text = tRb
    ·rw [if_pos c] at h
     cases h
     exact eY hd trivial trivial (by rw [dU, dU, aY]; simp only [List.length_nil]; omega) (by decide)
    ·rw [if_neg c] at h
     obtain ⟨y, n1, h1, h⟩ := aA h
     cases h
     have q := fT hnum h1
     have q1 := q.ex 1
     rw [aY] at q1
     exact eY hd trivial q.1 (by rw [dU]; simp only [List.length_nil]; omega) (by decide)
   rw [if_neg c4] at h
   by_cases c5 : (pk E n).text = gZ
   ·rw [if_pos c5] at h
    cases h
    exact eY hd trivial trivial (by rw [dU, dU, aY]; simp only [List.length_nil]; omega) (by decide)
   rw [if_neg c5] at h
   by_cases c6 : (pk E n).text = cK
   ·rw [if_pos c6] at h
    cases h
    exact eY hd trivial trivial (by rw [dU, dU, aY]; simp only [List.length_nil]; omega) (by decide)
   rw [if_neg c6] at h
   by_cases c7 : (pk E n).text = tIf
   ·rw [if_pos c7] at h
    obtain ⟨y, n1, h1, h⟩ := aA h
    obtain ⟨a, n2, h2, h⟩ := aA h
    have q := fT hnum h1
    have q1 := q.ex 1
    rw [aY] at q1
    obtain ⟨p1, p2⟩ := ih.block _ _ _ _ h2 hd
    by_cases c : (pk E n2).text = kF
    ·rw [if_pos c] at h
     obtain ⟨b, n3, h3, h⟩ := aA h
     cases h
     obtain ⟨r1, r2⟩ := ih.block _ _ _ _ h3 hd
     rw [aY] at r2
     refine ⟨⟨trivial, q.1, p1, r1, trivial⟩, ?_⟩
     rw [stV]
     simp only [reduceIte, Nat.reduceEqDiff, List.length_append, aE, cIf, oO, mH, List.length_cons, List.length_nil]
     split
     all_goals (simp only [List.length_append, aE, tB, List.length_cons, List.length_nil]; omega)
    ·rw [if_neg c] at h
     cases h
     refine ⟨⟨trivial, q.1, p1, trivial, trivial⟩, ?_⟩
     rw [stV]
     simp only [reduceIte, Nat.reduceEqDiff, List.length_append, aE, cIf, oO, mH, List.length_cons, List.length_nil, Sts.len]
     omega
   rw [if_neg c7] at h
   by_cases c8 : (pk E n).text = oX
   ·rw [if_pos c8] at h
    obtain ⟨y, n1, h1, h⟩ := aA h
    obtain ⟨a, n2, h2, h⟩ := aA h
    cases h
    have q := fT hnum h1
    have q1 := q.ex 1
    rw [aY] at q1
    obtain ⟨p1, p2⟩ := ih.block _ _ _ _ h2 hd
    refine ⟨⟨trivial, q.1, p1, trivial, trivial⟩, ?_⟩
    rw [stV]
    simp only [reduceIte, Nat.reduceEqDiff, List.length_append, aE, iO9, oO, mH, List.length_cons, List.length_nil]
    omega
   rw [if_neg c8] at h
   by_cases c9 : (pk E n).text = dB
   ·rw [if_pos c9] at h
    obtain ⟨_, n1, h1, h⟩ := aA h
    obtain ⟨a, n2, h2, h⟩ := aA h
    obtain ⟨_, n3, h3, h⟩ := aA h
    cases h
    obtain ⟨rfl, hlt⟩ := nF h1
    have a3 := dN h3
    subst a3
    have q := ih.cases _ .nil (n + 1 + 1) _ _ _ h2 (by omega) ⟨trivial, by rw [FS]; simp⟩
    have q2 := q.2
    rw [aY, aY] at q2
    refine ⟨⟨trivial, trivial, trivial, trivial, q.1⟩, ?_⟩
    rw [stV, aY]
    simp only [reduceIte, Nat.reduceEqDiff, List.length_append, aE, pD, mH, List.length_cons, List.length_nil]
    omega
   rw [if_neg c9] at h
   exact DP hnum hd h
  ·intro d a n0 n x m h hd ha
   rw [gO] at h
   by_cases c : (pk E n).text = tRb
   ·rw [if_pos c] at h
    cases h
    exact ha
   rw [if_neg c] at h
   by_cases c2 : 6 <= a.len
   ·rw [if_pos c2] at h; exact (aN h).elim
   rw [if_neg c2] at h
   obtain ⟨y, n1, h1, h⟩ := aA h
   exact ih.cases _ _ n0 _ _ _ h hd (ha.snoc (ih.oneCase _ _ _ _ h1 hd))
  ·intro d n x m h hd
   rw [dD] at h
   by_cases c : (pk E n).text = bA
   ·rw [if_pos c] at h
    obtain ⟨_, n1, h1, h⟩ := aA h
    obtain ⟨l, n2, h2, h⟩ := aA h
    cases h
    have a1 := dN h1
    subst a1
    have q := ih.stmts _ _ .nil (n + 1 + 1) _ _ _ h2 hd ⟨trivial, by rw [qO]; simp⟩
    refine ⟨⟨trivial, trivial, q.1⟩, ?_⟩
    have q2 := q.2
    rw [aY, aY] at q2
    rw [caV, List.length_append, aE]
    unfold gU
    rw [if_neg (show ¬ (40 : Nat) = 3 by decide), if_neg (show ¬ (40 : Nat) = 10 by decide)]
    simp only [qK, qL, List.length_append, List.length_cons, List.length_nil]
    omega
   rw [if_neg c] at h
   obtain ⟨_, n1, h1, h⟩ := aA h
   obtain ⟨t, n2, h2, h⟩ := aA h
   obtain ⟨_, n3, h3, h⟩ := aA h
   obtain ⟨l, n4, h4, h⟩ := aA h
   cases h
   have a1 := dN h1
   subst a1
   have a3 := dN h3
   subst a3
   obtain ⟨b1, b2, b3⟩ := FU hnum h2
   have q := ih.stmts _ _ .nil (n2 + 1) _ _ _ h4 hd ⟨trivial, by rw [qO]; simp⟩
   refine ⟨⟨b1, b2, q.1⟩, ?_⟩
   have q2 := q.2
   rw [aY] at q2 b3
   rw [caV, List.length_append, aE]
   simp only [qL, List.length_append, List.length_cons, List.length_nil]
   omega
end Go.Proofs.YtnpapppipccdbaaGreatDoor
