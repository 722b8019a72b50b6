/-
  Texts of one proof, in build order: The walks of package asm's readIns and read. | A variable that lies in a block of its own. Of no chapter. | strings.FieldsFunc at a blank; strings.SplitSeq's closure at a line feed: it hands on the lines, one behind the other. | The walk of package asm's lines: the lines that have words, with their numbers, whatever the loop's body does. | What the reader of package asm holds, as a program; bounds. No walk. | The walks of package code's rightFn and Right. | The walk of package asm's Read. | The walk of package asm's Read, at a text that is not too long. | The walk of package asm's insLine. | The walk of package asm's headLine. | Cells of bytes and the row that is owned. | strings.Builder at this program: copyCheck, WriteByte, WriteString, walked; String by the library's contract. Of no chapter. | strings.Builder's WriteString: what it leaves alone, told too (each block of other cells than bytes, but the builder's own). Of no chapter.
-/
import Derived.Test.YtkeglkneobngnaaGreatDoorU1
import Derived.BigQuiet
import Derived.Deep.QuietTactic
import Derived.WalkKit
import Derived.RangeFuncBox
import Derived.RangeFuncLeaves
import Derived.Shelf.Abstract
import Derived.OwnWalkIn
import Derived.TacticsInMore
import Derived.LoopNIn
import Derived.LoopIn
import Derived.TacticsIn
import Derived.RegionIn
import Derived.ControlIn
import Derived.Deep.RegionHeld3
import Derived.Deep.DeepCutAuto
import Derived.Deep.CutRange
import Derived.RegionTactic
import Derived.ChangeAlike
import Derived.Test.YtkeglkneobngnaaGreatDoorUShelf
import Derived.Lib.Builder
import Derived.Lib.AppendStr
import Derived.Lib.UnsafeStr
namespace Go.Proofs.YtkeglkneobngnaaGreatDoor
open Go.RowKit Cd As
variable {B rb : Nat} {W : World} {vf : Value} {ρ : Nat → AR} {gs : List Gn} {st : St}

theorem own_free {w : World} {B e size n g c : Nat} {xs : List Value} (h : w.ownsRow B e size (.slice (some ⟨g, 0, none⟩) n c) n xs) (j : Nat) : w.frozen? ⟨g, j, none⟩ = false := by
  rcases h.2 with ⟨h1, _⟩ | ⟨g', cap, cur, h1, _, h3, _⟩
  · cases h1
  · rw [Value.slice.injEq] at h1
    obtain ⟨e1, _, rfl⟩ := h1
    cases e1
    simp [World.frozen?, h3]
theorem own_at {w : World} {B e size n g c j : Nat} {xs : List Value} {u : Value} (h : w.ownsRow B e size (.slice (some ⟨g, 0, none⟩) n c) n xs) (hj : xs[j]? = some u) : w.cell? ⟨g, j, none⟩ = some u := by
  have := World.ownsRow.cells h (g := g) rfl j u hj
  rwa [addr0] at this
theorem addI_snoc (i : In) (fs : List FnV) (f : FnV) : addI i (fs ++ [f]) = some (fs ++ [⟨f.params, f.locals, f.kind, f.code ++ [i]⟩]) := by
  unfold addI
  rw [List.getLast?_append, List.dropLast_concat]
  rfl

set_option maxRecDepth 100000 in
set_option maxHeartbeats 6400000 in
theorem readIns_any (v : Value) (x : ByteArray) (l : List ByteArray) (hv : StrsAt W v (x :: l)) (hl : Fit (x :: l)) (hE : RdEnv W) (h : RdO B W rb vf ρ gs st) (hcl : ∀ g ∈ gs, g.1.code.length ≤ 200000) (hgl : gs.length ≤ 200000) :
    Calls Tryz.prog 89 #[.pointer (some ⟨rb, 0, none⟩), v] W fun e w' => ReadSays B W w' rb ρ e (match insI (wsL (x :: l)) with
      | none => none
      | some i => (addI i st.p.fns).map fun l => ⟨st.begun, ⟨st.p.globals, l⟩⟩) := by
  have HH := Lib.hid h
  have HIN := Lib.hid (insOf_any v x l W hv hl hE)
  obtain ⟨R, hR⟩ : ∃ R, R = insI (wsL (x :: l)) := ⟨_, rfl⟩
  rw [← hR] at HIN ⊢
  clear hv hl hE h hR
  obtain ⟨a0, c0, hv0⟩ := slice_of_own HH.out.row
  subst hv0
  have HGL := Lib.hid hgl
  have HCL := Lib.hid hcl
  clear hcl
  go_enter Tryz.func89, Tryz.ntmps89
  go_wp2_with fail
  refine HIN.out.mono ?_
  rintro e w2 ⟨⟨p, q, rfl, hsay⟩, hb2⟩
  have HS2 := Lib.hid hsay
  have HB2 := Lib.hid hb2
  have HR2 := Lib.hid (HH.out.below hb2)
  clear hb2 hsay HIN
  have HB3 : Hid (BlkO (w2.alloc (.cells #[.int .i64 p, .int .i64 q] 75)) w2.heap.size [.int .i64 p, .int .i64 q]) := Lib.hid (BlkO.new w2 #[.int .i64 p, .int .i64 q] 75)
  have HK3 : Hid (Keeps (fun _ => False) w2 (w2.alloc (.cells #[.int .i64 p, .int .i64 q] 75))) := Lib.hid ((Keeps.refl _ w2).alloc _)
  obtain ⟨ib, hib⟩ : ∃ ib, ib = w2.heap.size := ⟨_, rfl⟩
  rw [← hib] at HB3
  have HIB := Lib.hid hib
  cases R with
  | none =>
    simp only [Option.isSome_none]
    go_wp2_with fail
    go_ret
    exact ⟨rfl, ((Keeps.of_new (S := RdS rb ρ) HB2.out).trans (HK3.out.mono fun _ _ e => e.elim)), fun s hs => (by cases hs)⟩
  | some i =>
    obtain ⟨e1, e2⟩ := HS2.out i rfl
    subst e1 e2
    clear HS2
    simp only [Option.isSome_some]
    go_upto_region 2 with fail
    try rw [← hib]
    clear hib
    generalize w2.alloc (.cells #[.int .i64 i.1, .int .i64 i.2] 75) = w3 at *
    have HR3 := Lib.hid (HR2.out.fresh HK3.out)
    have d0 := HB3.out.at_ 0 _ rfl
    have d1 := HB3.out.at_ 1 _ rfl
    have r1 := HR3.out.blk.at_ 1 _ rfl
    have hrl := HR3.out.lt
    have hil := HB3.out.lt
    have HK03 : Hid (Keeps (RdS rb ρ) W w3) := Lib.hid ((Keeps.of_new (S := RdS rb ρ) HB2.out).trans (HK3.out.mono fun _ _ e => e.elim))
    rcases List.eq_nil_or_concat gs with hg | ⟨gs0, g, hg⟩
    · subst hg
      have hfs : st.p.fns = [] := HR3.out.fns
      have hadd : addI i st.p.fns = none := by rw [hfs]; rfl
      have HAD := Lib.hid hadd
      clear hfs hadd
      simp only [List.length_nil] at r1 ⊢
      go_wp2_with fail
      go_ret
      rw [HAD.out]
      exact ⟨rfl, HK03.out, fun s hs => (by cases hs)⟩
    · rw [List.concat_eq_append] at hg
      have HG := Lib.hid hg
      have hlen : gs.length = gs0.length + 1 := by rw [hg]; simp
      rw [hlen] at r1 HGL
      have HROW : Hid (w3.ownsRow (rb + 1) 72 4 (.slice a0 (gs0.length + 1) c0) (gs0.length + 1) (cellsG gs)) := Lib.hid (by have := HR3.out.row; rwa [hlen] at this)
      obtain ⟨fb, ha0⟩ : ∃ fb, a0 = some ⟨fb, 0, none⟩ := by
        rcases HROW.out.2 with ⟨h1, h2⟩ | ⟨g', _, _, h1, _⟩
        · cases h1
        · rw [Value.slice.injEq] at h1; exact ⟨g', h1.1⟩
      subst ha0
      have hgi : gs[gs0.length]? = some g := by rw [hg, List.getElem?_append_right (Nat.le_refl _), Nat.sub_self]; rfl
      obtain ⟨mc, hmc⟩ := HR3.out.cod _ g hgi
      obtain ⟨a1, c1, hvc⟩ := slice_of_own hmc
      have HVC := Lib.hid hvc
      have hcodl : mc = g.1.code.length := by have := hmc.1; rw [cellsN_length] at this; omega
      have HMC := Lib.hid hmc
      rw [hvc] at HMC
      have hmcl : mc ≤ 1000000 := by
        have := HCL.out g (by rw [hg]; simp)
        omega
      have f0 := own_at HROW.out (cellsG_get gs gs0.length 0 g (.int .i64 g.1.params) hgi rfl)
      have f3 : w3.cell? ⟨fb, gs0.length * 4 + 3, none⟩ = some (.slice a1 mc c1) := own_at HROW.out (cellsG_get gs gs0.length 3 g (.slice a1 mc c1) hgi (by unfold cellG; rw [hvc]; rfl))
      have z3 := own_free HROW.out (gs0.length * 4 + 3)
      have HC01 : Hid (gs0.length + 1 ≤ c0 ∧ c0 ≤ maxLen) := Lib.hid (by
        rcases HROW.out.2 with ⟨h1, _⟩ | ⟨g', _, _, h1, _, _, h4, h5, _⟩
        · cases h1
        · rw [Value.slice.injEq] at h1
          obtain ⟨_, _, rfl⟩ := h1
          exact ⟨h4, h5⟩)
      have hm5 : gs0.length ≤ 200000 := by have := HGL.out; omega
      have HLN := Lib.hid hlen
      obtain ⟨m, hm⟩ : ∃ m, m = gs0.length := ⟨_, rfl⟩
      have HM := Lib.hid hm
      rw [← hm] at r1 f0 f3 z3 hm5 HC01
      have hw1 : IntKind.i64.wrap ((m : Int) + 1 - 1) = (m : Int) := by rw [IntKind.wrap_i64]; omega
      have hw2 : IntKind.i64.wrap (m : Int) = (m : Int) := by rw [IntKind.wrap_i64]; omega
      have hix : (0 : Int) ≤ (m : Int) ∧ (m : Int) < (m : Int) + 1 := by omega
      have hne : ¬ (m : Int) + 1 = 0 := by omega
      have hneb : ((m : Int) + 1 == 0) = false := by rw [beq_eq_false_iff_ne]; exact hne
      clear hg hlen hgi hmc hvc hcodl hm hgl
      go_upto_region 4 with fail
      go_quiet (fail)
      have hk4 : Keeps (fun _ => False) w3 (w3.drewN nq) := ⟨rfl, rfl, rfl, Nat.le_refl _, fun _ _ _ => rfl⟩
      generalize w3.drewN nq = w4 at *
      have HK4 := Lib.hid hk4
      have HR4 := Lib.hid (HR3.out.fresh hk4)
      have HB4 := Lib.hid (HB3.out.keeps hk4 id)
      have HMC4 := Lib.hid (hk4.row HMC.out fun _ _ => id)
      have g3 := hk4.cell_of f3 id
      have x3 : w4.frozen? ⟨fb, m * 4 + 3, none⟩ = false := by rw [hk4.frozen (p := ⟨fb, m * 4 + 3, none⟩) (block_lt_of_cell f3) id]; exact z3
      have b0 := HB4.out.at_ 0 _ rfl
      have b1 := HB4.out.at_ 1 _ rfl
      have hfl := block_lt_of_cell g3
      have hil4 := HB4.out.lt
      clear d0 d1 r1 f0 f3 z3 hk4 hrl hil hw1 hw2 hix hne hneb
      have hal : Keeps (fun _ => False) w4 (w4.alloc (.cells #[.int .i64 i.1, .int .i64 i.2] 75)).drew := ((Keeps.refl _ w4).alloc _).drew
      have HAL := Lib.hid hal
      have HOWN : Hid ((w4.alloc (.cells #[.int .i64 i.1, .int .i64 i.2] 75)).drew.ownsRow (rb + 1) 75 2 (.slice a1 mc c1) mc (cellsN g.1.code)) := Lib.hid (hal.row HMC4.out fun _ _ => id)
      have HCN : Hid (∀ (j : Nat) u, [Value.int .i64 i.1, .int .i64 i.2][j]? = some u → (w4.alloc (.cells #[.int .i64 i.1, .int .i64 i.2] 75)).drew.cell? ⟨w4.heap.size, j, none⟩ = some u) := Lib.hid fun j u hj => (cell_of_row _ _ _ _ _ _ (heap_alloc_new _ _)).trans (by simpa using hj)
      have HON : Hid (∀ u ∈ [Value.int .i64 i.1, .int .i64 i.2], u.oneCell' = true) := Lib.hid (by intro u hu; simp at hu; rcases hu with rfl | rfl <;> rfl)
      have HSZ : Hid (rb + 1 ≤ (w4.alloc (.cells #[.int .i64 i.1, .int .i64 i.2] 75)).drew.heap.size) := Lib.hid (Nat.le_trans HR4.out.lt hal.size)
      have HFZ : Hid (∀ w5 : World, Keeps (fun b => (Value.slice a1 mc c1).ownBlock = some b) (w4.alloc (.cells #[.int .i64 i.1, .int .i64 i.2] 75)).drew w5 → w5.cell? ⟨fb, m * 4 + 3, none⟩ = some (.slice a1 mc c1) ∧ w5.frozen? ⟨fb, m * 4 + 3, none⟩ = false) := Lib.hid fun w5 hk => by
        have hne : ¬ (Value.slice a1 mc c1).ownBlock = some fb := fun e => by
          have h1 := HR4.out.roC gs0.length g (by rw [HG.out, List.getElem?_append_right (Nat.le_refl _), Nat.sub_self]; rfl) fb (by rw [HVC.out]; exact e)
          rw [HR4.out.roF fb rfl] at h1
          cases h1
        have h1 := HAL.out.cell_of g3 id
        have h2 := hk.cell_of h1 hne
        refine ⟨h2, ?_⟩
        rw [hk.frozen (p := ⟨fb, m * 4 + 3, none⟩) (block_lt_of_cell h1) hne, HAL.out.frozen (p := ⟨fb, m * 4 + 3, none⟩) hfl id]
        exact x3
      clear hal
      go_upto_region 5 with fail
      go_region_law (refine step_append2 rfl (.tmp 41) (.tmp 43) 70 75 (.agg #[.int .i64 0, .int .i64 0]) 2 16 rfl Tryz.underlying70 info_ins rfl (by decide) (by decide) (rb + 1) _ mc (cellsN g.1.code) [Value.int .i64 i.1, .int .i64 i.2] w4.heap.size 1 HOWN.out hmcl rfl HCN.out HON.out HSZ.out (by simp [Act.eval]) (by simp [Act.eval]) ?_; intro ao5 cap5 w5 ho5 hk5 hn5; obtain ⟨c51, z51⟩ := HFZ.out _ hk5; have HK5 := Lib.hid hk5; have HO5 := Lib.hid ho5; have HN5 := Lib.hid hn5; clear hk5 ho5 hn5)
      all_goals
        go_wp2_with fail
        go_ret
        have hk45 : Keeps (fun b => g.2.2.ownBlock = some b) w4 w5 := by rw [HVC.out]; exact (HAL.out.mono fun _ _ e => e.elim).trans HK5.out
        obtain ⟨ρ', hO, hro⟩ := HR4.out.growC (vf := .slice (some ⟨fb, 0, none⟩) gs.length c0) HG.out rfl (cs := g.1.code ++ [i]) (by rw [← cellsN_snoc]; exact HO5.out) hk45 (fun b e => by rw [HVC.out]; exact (HN5.out b e).imp id fun h1 => Nat.le_trans HAL.out.size h1)
        rw [← HM.out] at hO
        have hgi : gs[gs0.length]? = some g := by rw [HG.out, List.getElem?_append_right (Nat.le_refl _), Nat.sub_self]; rfl
        have hkp : Keeps (RdS rb ρ) W (w5.setCell ⟨fb, m * 4 + 3, none⟩ (.slice ao5 (mc + 1) cap5)) := by
          refine Keeps.setCell (p := ⟨fb, m * 4 + 3, none⟩) ?_ (Or.inl (Or.inr (by rw [HR4.out.roF fb rfl]; intro e; cases e))) _
          exact (HK03.out.trans (HK4.out.mono fun _ _ e => e.elim)).trans (hk45.mono fun b _ e => Or.inr (by rw [HR4.out.roC _ g hgi b e]; intro e; cases e))
        have hfs : st.p.fns = gs0.map (·.1) ++ [g.1] := by rw [HR4.out.fns, HG.out, List.map_append]; rfl
        have hadd : addI i st.p.fns = some (gs0.map (·.1) ++ [⟨g.1.params, g.1.locals, g.1.kind, g.1.code ++ [i]⟩]) := by rw [hfs]; exact addI_snoc _ _ _
        refine ⟨by rw [hadd]; rfl, hkp, fun s hs => ?_⟩
        rw [hadd] at hs
        cases hs
        exact ⟨_, ρ', _, hO, fun b hb h0 => hro b (Nat.lt_of_lt_of_le (Nat.lt_of_lt_of_le (Nat.lt_of_lt_of_le hb HB2.out.size) HK3.out.size) HK4.out.size) h0⟩

/-- No line alone: what a line's words make of a reader. -/
theorem rdLine_eq (ws : List (List UInt8)) (st : St) : rdLine ws st = if st.begun then (if ws.head? = some fnB then (headI ws).map fun f => ⟨true, ⟨st.p.globals, st.p.fns ++ [f]⟩⟩
    else match insI ws with
      | none => none
      | some i => (addI i st.p.fns).map fun l => ⟨true, ⟨st.p.globals, l⟩⟩)
  else (globI ws).map fun n => ⟨true, ⟨n, st.p.fns⟩⟩ := rfl

set_option maxRecDepth 100000 in
set_option maxHeartbeats 3200000 in
theorem read_any (v : Value) (x : ByteArray) (l : List ByteArray) (hv : StrsAt W v (x :: l)) (hl : Fit (x :: l)) (hE : RdEnv W) (h : RdO B W rb vf ρ gs st) (hcl : ∀ g ∈ gs, g.1.code.length ≤ 200000) (hgl : gs.length ≤ 200000) :
    Calls Tryz.prog 48 #[.pointer (some ⟨rb, 0, none⟩), v] W fun e w' => ReadSays B W w' rb ρ e (rdLine (wsL (x :: l)) st) := by
  have HG := Lib.hid (readGlobals_any v (x :: l) hv hl hE h)
  have HHD := Lib.hid (readHead_any v (x :: l) hv hl hE h hgl)
  have HIN := Lib.hid (readIns_any v x l hv hl hE h hcl hgl)
  obtain ⟨ao, n, cap, rfl, hn, hnc, hcm, hx⟩ := hv
  obtain ⟨b, o, rfl, hbl, hc⟩ := hx (by rw [hn]; exact Nat.succ_pos _)
  have c0 : W.cell? ⟨b, o, none⟩ = some (.string x) := hc 0 x rfl
  have r2 := h.blk.at_ 2 _ rfl
  have hni : (0 : Int) ≤ 0 ∧ (0 : Int) < (n : Int) := by simp at hn; omega
  have HR : Hid (rdLine (wsL (x :: l)) st = if st.begun then (if x.toList = fnB then (headI (wsL (x :: l))).map fun f => ⟨true, ⟨st.p.globals, st.p.fns ++ [f]⟩⟩
    else match insI (wsL (x :: l)) with
      | none => none
      | some i => (addI i st.p.fns).map fun l => ⟨true, ⟨st.p.globals, l⟩⟩)
    else (globI (wsL (x :: l))).map fun n => ⟨true, ⟨n, st.p.fns⟩⟩) := Lib.hid (by
      rw [rdLine_eq]
      have e : (wsL (x :: l)).head? = some x.toList := rfl
      rw [e]
      simp only [Option.some.injEq])
  obtain ⟨bg, hbg⟩ : ∃ bg, bg = st.begun := ⟨_, rfl⟩
  have HBG := Lib.hid hbg
  rw [← hbg] at r2 HR
  obtain ⟨R, hR⟩ : ∃ R, R = rdLine (wsL (x :: l)) st := ⟨_, rfl⟩
  rw [← hR] at HR ⊢
  clear hR hbg hx hc hn hl hE h hcl hgl
  cases bg with
  | false =>
    have e : R = (globI (wsL (x :: l))).map fun n => ⟨true, ⟨n, st.p.fns⟩⟩ := by rw [HR.out]; rfl
    rw [← e] at HG
    clear e HHD HIN HR
    go_enter Tryz.func48, Tryz.ntmps48
    go_wp2_with fail
    refine HG.out.mono ?_
    rintro e w2 hs
    have he := hs.ret
    subst he
    have HS := Lib.hid hs
    clear hs
    go_wp2_with fail
    go_ret
    exact HS.out
  | true =>
    by_cases hf : x.toList = fnB
    · have e : R = (headI (wsL (x :: l))).map fun f => ⟨st.begun, ⟨st.p.globals, st.p.fns ++ [f]⟩⟩ := by rw [HR.out, if_pos rfl, if_pos hf, ← HBG.out]
      rw [← e] at HHD
      have hfb : (x.toList == fnB) = true := by rw [hf]; rfl
      unfold fnB at hfb
      have hfc : x = ⟨#[102, 110]⟩ := by
        rw [ByteArray.toList_eq] at hf
        exact ByteArray.ext (Array.toList_inj.1 hf)
      clear e HG HIN HR hf
      subst hfc
      go_enter Tryz.func48, Tryz.ntmps48
      go_wp2_with fail
      refine HHD.out.mono ?_
      rintro e w2 hs
      have he := hs.ret
      subst he
      have HS := Lib.hid hs
      clear hs
      go_wp2_with fail
      go_ret
      exact HS.out
    · have e : R = match insI (wsL (x :: l)) with
        | none => none
        | some i => (addI i st.p.fns).map fun l => ⟨st.begun, ⟨st.p.globals, l⟩⟩ := by rw [HR.out, if_pos rfl, if_neg hf, ← HBG.out]
      rw [← e] at HIN
      have hfb : (x.toList == fnB) = false := by rw [beq_eq_false_iff_ne]; exact hf
      unfold fnB at hfb
      have hfc : ¬ x = ⟨#[102, 110]⟩ := fun e => hf (by rw [e, ByteArray.toList_eq]; rfl)
      clear e HG HHD HR hf
      go_enter Tryz.func48, Tryz.ntmps48
      go_wp2_with fail
      refine HIN.out.mono ?_
      rintro e w2 hs
      have he := hs.ret
      subst he
      have HS := Lib.hid hs
      clear hs
      go_wp2_with fail
      go_ret
      exact HS.out
end Go.Proofs.YtkeglkneobngnaaGreatDoor

namespace Go.Proofs.YtkeglkneobngnaaGreatDoor
open Go.RowKit

/-- A variable of its own block. -/
structure Box (W : World) (b : Nat) (x : Value) : Prop where
  cell : W.cell? ⟨b, 0, none⟩ = some x
  free : W.frozen? ⟨b, 0, none⟩ = false
theorem Box.lt {W : World} {b : Nat} {x : Value} (h : Box W b x) : b < W.heap.size := block_lt_of_cell h.cell
theorem Box.keeps {S : Nat → Prop} {W W' : World} {b : Nat} {x : Value} (h : Box W b x) (hk : Keeps S W W') (hS : ¬ S b) : Box W' b x :=
  ⟨hk.cell_of h.cell hS, by rw [hk.frozen (p := ⟨b, 0, none⟩) h.lt hS]; exact h.free⟩
theorem Box.new (W : World) (x : Value) (t : TypeId) : Box (W.alloc (.cells #[x] t)) W.heap.size x :=
  ⟨by rw [World.cell?_alloc_at _ _ _ _ rfl]; rfl, by rw [World.frozen?_alloc_at _ _ _ _ rfl]⟩
theorem Box.new' (W : World) (x : Value) (t : TypeId) {b : Nat} (hb : b = W.heap.size) : Box (W.alloc (.cells #[x] t)) b x := hb ▸ Box.new W x t
theorem Box.alloc {W : World} {b : Nat} {x : Value} (h : Box W b x) (o : Obj) : Box (W.alloc o) b x := h.keeps ((Keeps.refl (fun _ => False) W).alloc o) id
theorem keeps_set (w : World) (a : Nat) (v : Value) : Keeps (fun k => k = a) w (w.setCell ⟨a, 0, none⟩ v) := (Keeps.refl (fun k => k = a) w).setCell (p := ⟨a, 0, none⟩) (Or.inl rfl) v
theorem two_boxes (W : World) (x y : Value) (t u : TypeId) : Box ((W.alloc (.cells #[x] t)).alloc (.cells #[y] u)) W.heap.size x ∧ Box ((W.alloc (.cells #[x] t)).alloc (.cells #[y] u)) (W.heap.size + 1) y ∧
    Keeps (fun _ => False) W ((W.alloc (.cells #[x] t)).alloc (.cells #[y] u)) ∧ ((W.alloc (.cells #[x] t)).alloc (.cells #[y] u)).heap.size = W.heap.size + 2 :=
  ⟨(Box.new W x t).alloc _, Box.new' _ _ _ (by simp), ((Keeps.refl _ W).alloc _).alloc _, by simp⟩
theorem Box.set {W : World} {b : Nat} {x : Value} (h : Box W b x) (y : Value) : Box (W.setCell ⟨b, 0, none⟩ y) b y :=
  ⟨World.cell?_setCell_same _ _ _ h.cell, by rw [World.frozen?_setCell]; exact h.free⟩
end Go.Proofs.YtkeglkneobngnaaGreatDoor

namespace Go.Proofs.YtkeglkneobngnaaGreatDoor
open Go.RowKit Go.Shelf Cd As
attribute [local go_sem] Oper.semAt_some

theorem isBlank_any (r : Nat) (w : World) : Calls Tryz.prog 86 #[.int .i32 (r : Int)] w fun e w' => e = .returned (.bool (isBl r)) ∧ w' = w := by
  have h1 : ((r : Int) == 32) = isBl r := by
    unfold isBl
    rw [Bool.eq_iff_iff, beq_iff_eq, beq_iff_eq]
    omega
  have h2 : (r == 32) = isBl r := rfl
  have h3 : decide ((r : Int) = 32) = isBl r := by
    rw [← h1, Bool.eq_iff_iff, decide_eq_true_eq, beq_iff_eq]
  generalize isBl r = b at *
  go_enter Tryz.func86, Tryz.ntmps86
  go_wp2_with fail
  go_ret
  exact ⟨by first | rfl | simp [h1, h3], rfl⟩

theorem size_data (s : ByteArray) : s.data.toList.length = s.size := rfl
theorem words_fit (l : List UInt8) : (words l).length ≤ l.length + 1 := by
  have := cutAt_len 32 l
  unfold words
  exact Nat.le_trans (List.length_filter_le _ _) this
/-- strings.FieldsFunc at a blank. -/
theorem fields_any (s : ByteArray) (hs : s.size ≤ 60000) (w : World) :
    Calls Tryz.prog 85 #[.string s, .func (.func 86) #[] #[]] w fun e w' => ∃ v ss, e = .returned v ∧ wsL ss = words s.data.toList ∧ StrsAt w' v ss ∧ Fit ss ∧ Below w.heap.size w w' := by
  refine (Tryz.strings_FieldsFunc_runes 86 #[] (enters_of Tryz.func86 (by kernel_rfl) rfl) isBl s w (by omega) (fun W x _ _ => ?_)).mono ?_
  · refine (isBlank_any x W).mono ?_
    rintro e w' ⟨rfl, rfl⟩
    exact ⟨rfl, 0, rfl⟩
  · rintro e w' ⟨A, rfl, hA, ho, hb⟩
    have hw : wsL (Lib.goFieldsP isBl s) = words s.data.toList := by
      rw [← fields_words]
      unfold wsL
      exact List.map_congr_left fun x _ => ByteArray.toList_eq x
    have hfit : Fit (Lib.goFieldsP isBl s) := by
      constructor
      · have h1 := congrArg List.length hw
        unfold wsL at h1
        rw [List.length_map] at h1
        have h2 := words_fit s.data.toList
        rw [size_data] at h2
        omega
      · intro x hx
        unfold Lib.goFieldsP at hx
        obtain ⟨y, _, rfl⟩ := List.mem_map.1 hx
        rw [ByteArray.size_extract]
        omega
    refine ⟨_, _, rfl, hw, ?_, hfit, hb⟩
    generalize Lib.goFieldsP isBl s = ss at *
    refine ⟨_, _, _, rfl, rfl, Nat.le_refl _, by have := hfit.1; unfold maxLen; omega, fun h0 => ⟨A, 0, rfl, ?_, fun i x hi => ?_⟩⟩
    · have := World.ownsRow.lt ho A rfl
      exact this.2
    · rw [Nat.zero_add]
      exact own_at ho (by rw [List.getElem?_map, hi]; rfl)

/-- How long the text is that a box holds. -/
def boxLen (W : World) (b : Nat) : Nat := match W.cell? ⟨b, 0, none⟩ with
  | some (.string r) => r.size
  | _ => 0
theorem boxLen_eq {W : World} {b : Nat} {r : ByteArray} (h : Box W b (.string r)) : boxLen W b = r.size := by unfold boxLen; rw [h.cell]

set_option maxRecDepth 100000 in
set_option maxHeartbeats 3200000 in
theorem split1_in (n : Nat) (l sb pb qb : Nat) (L : List (List UInt8)) (J Jx : Nat → World → Prop) (hsp : sb ≠ pb) (hsq : sb ≠ qb)
    (hJ : ∀ (j : Nat) (W : World) (v : Value), J j W → J j (W.setCell ⟨sb, 0, none⟩ v))
    (hY : ∀ (j : Nat) (t : ByteArray) (W : World), L[j]? = some t.data.toList → t.size ≤ 60000 → J j W → YieldAt Fence.wide (n - 1) Tryz.prog l #[.string t] W fun e W' =>
      (e = .returned (.bool true) ∧ J (j + 1) W' ∧ Keeps (fun b => b ≠ sb ∧ b ≠ pb ∧ b ≠ qb) W W') ∨ (e = .returned (.bool false) ∧ Jx (j + 1) W'))
    (W : World) (s : ByteArray) (hs : s.size ≤ 60000) (hbs : Box W sb (.string s)) (hbp : Box W pb (.string ⟨#[10]⟩)) (hbq : Box W qb (.int .i64 0)) (hL : cutAt 10 s.data.toList = L) (h0 : J 0 W) :
    CallsIn Fence.wide n Tryz.prog 136 #[.func (.yield l) #[] #[], .pointer (some ⟨pb, 0, none⟩), .pointer (some ⟨sb, 0, none⟩), .pointer (some ⟨qb, 0, none⟩)] W fun e W' => (∃ v, e = .returned v) ∧
      (J L.length W' ∨ ∃ j, j + 1 ≤ L.length ∧ Jx (j + 1) W') := by
  have HBS := Lib.hid hbs
  have HBP := Lib.hid hbp
  have HBQ := Lib.hid hbq
  have p1 := hbp.cell
  have hsz1 : (⟨#[10]⟩ : ByteArray).size = 1 := rfl
  refine callsIn_of_wp Tryz.func136 rfl trivial ?_ rfl
  simp only [Tryz.ntmps136, List.size_toArray, List.length_cons, List.length_nil, Nat.reduceAdd, Nat.reduceSub, Array.replicate_succ, Array.replicate_zero, List.push_toArray, List.append_toArray, List.nil_append, List.cons_append]
  gi_wp2
  gi_loopw [] (fun wr => ∃ (j : Nat) (r : ByteArray), r.size ≤ 60000 ∧ Box wr sb (.string r) ∧ Box wr pb (.string ⟨#[10]⟩) ∧ Box wr qb (.int .i64 0) ∧ j < L.length ∧ cutAt 10 r.data.toList = L.drop j ∧ J j wr) (fun wr => boxLen wr sb)
  case atStart =>
    refine ⟨0, s, hs, HBS.out, HBP.out, HBQ.out, ?_, by rw [hL]; rfl, h0⟩
    rw [← hL]
    have := cutAt_ne 10 s.data.toList
    exact List.length_pos_iff.2 this
  case round =>
    obtain ⟨j, r, hr, hb1, hb2, hb3, hj, hc, hJs⟩ := hrel
    rename World => wr
    have c1 := hb1.cell
    have z1 := hb1.free
    have c2 := hb2.cell
    have c3 := hb3.cell
    have HB1 := Lib.hid hb1
    have HB2 := Lib.hid hb2
    have HB3 := Lib.hid hb3
    have hix := Tryz.strings_Index_one r 10 wr
    have hge := Lib.indexByte_ge r.data.toList 10
    have HJW := Lib.hid hJs
    have HCC := Lib.hid hc
    have HRS := Lib.hid hr
    clear hb1 hb2 hb3 hJs hc
    by_cases hi : Lib.indexByte r.data.toList 10 = -1
    · have hcn := cut_none hi
      have HLD : Hid (L[j]? = some r.data.toList ∧ L.length = j + 1) := Lib.hid (by
        have e := HCC.out
        rw [hcn] at e
        have hl := congrArg List.length e
        rw [List.length_drop] at hl
        have h1 : (L.drop j)[0]? = some r.data.toList := by rw [← e]; rfl
        rw [List.getElem?_drop, Nat.add_zero] at h1
        exact ⟨h1, by simp at hl; omega⟩)
      obtain ⟨fn, tmps, assign, body, hy, hR⟩ := hY j r wr HLD.out.1 HRS.out HJW.out
      have HRR := Lib.hid hR
      rw [hi] at hix
      clear hcn hi hge hR
      gi_wp2
      refine ⟨trivial, fun h => (by cases h), (callsIn_wide.2 hix).mono ?_⟩
      rintro e w' ⟨rfl, hw'⟩
      have hw3 := hw'.symm
      subst hw3
      clear hw' hix
      gi_wp2
      refine ⟨fun h => (by cases h), HRR.out.mono ?_⟩
      rintro e W3 (⟨rfl, hJ3, _⟩ | ⟨rfl, hJx3⟩)
      · have HJ3 := Lib.hid hJ3
        clear hJ3
        gi_wp2
        go_end0
        exact ⟨⟨_, rfl⟩, Or.inl (by rw [HLD.out.2]; exact HJ3.out)⟩
      · have HJ3 := Lib.hid hJx3
        clear hJx3
        gi_wp2
        go_end0
        exact ⟨⟨_, rfl⟩, Or.inr ⟨j, by rw [HLD.out.2]; exact Nat.le_refl _, HJ3.out⟩⟩
    · obtain ⟨o, ho⟩ : ∃ o : Nat, Lib.indexByte r.data.toList 10 = o := ⟨(Lib.indexByte r.data.toList 10).toNat, by omega⟩
      obtain ⟨hol, hcs⟩ := cut_some ho
      rw [size_data] at hol
      have ht : (r.extract 0 o).data.toList = r.data.toList.take o := by rw [piece_at]; rfl
      have ht2 : (r.extract (o + 1) r.size).data.toList = r.data.toList.drop (o + 1) := by
        rw [piece_at, List.take_of_length_le]
        rw [List.length_drop, size_data]
        exact Nat.le_refl _
      have HLD : Hid (L[j]? = some (r.extract 0 o).data.toList ∧ cutAt 10 (r.extract (o + 1) r.size).data.toList = L.drop (j + 1) ∧ j + 1 < L.length) := Lib.hid (by
        have e := HCC.out
        rw [hcs] at e
        rw [ht, ht2]
        have h1 : (L.drop j)[0]? = some (r.data.toList.take o) := by rw [← e]; rfl
        rw [List.getElem?_drop, Nat.add_zero] at h1
        have h2 : cutAt 10 (r.data.toList.drop (o + 1)) = L.drop (j + 1) := by
          have := congrArg List.tail e
          rw [List.tail_drop] at this
          exact this
        refine ⟨h1, h2, ?_⟩
        have h3 := congrArg List.length h2
        rw [List.length_drop] at h3
        have := List.length_pos_iff.2 (cutAt_ne 10 (r.data.toList.drop (o + 1)))
        omega)
      have hsx : (r.extract 0 o).size ≤ 60000 := by rw [ByteArray.size_extract]; omega
      obtain ⟨fn, tmps, assign, body, hy, hR⟩ := hY j (r.extract 0 o) wr HLD.out.1 hsx HJW.out
      have HRR := Lib.hid hR
      have HSX : Hid ((r.extract (o + 1) r.size).size < r.size) := Lib.hid (by rw [ByteArray.size_extract]; omega)
      rw [ho] at hix
      have hw1 : IntKind.i64.wrap ((o : Int) + 0) = (o : Int) := by rw [IntKind.wrap_i64]; omega
      have hw2 : IntKind.i64.wrap ((o : Int) + 1) = (o : Int) + 1 := by rw [IntKind.wrap_i64]; omega
      have hw3 : IntKind.i64.wrap (o : Int) = (o : Int) := by rw [IntKind.wrap_i64]; omega
      have hq1 : (0 : Int) ≤ (o : Int) ∧ (o : Int) ≤ (r.size : Int) := by omega
      have hq2 : (0 : Int) ≤ (o : Int) + 1 ∧ (o : Int) + 1 ≤ (r.size : Int) := by omega
      have hq3 : ((o : Int) + 1).toNat = o + 1 := by omega
      have hq4 : ¬ (o : Int) < 0 := by omega
      clear ht ht2 hcs ho hi hge hR hsx
      gi_wp2
      refine ⟨trivial, fun h => (by cases h), (callsIn_wide.2 hix).mono ?_⟩
      rintro e w' ⟨rfl, hw'⟩
      have hw3 := hw'.symm
      subst hw3
      clear hw' hix
      gi_wp2
      refine ⟨fun h => (by cases h), HRR.out.mono ?_⟩
      rintro e W3 (⟨rfl, hJ3, hk3⟩ | ⟨rfl, hJx3⟩)
      · have HJ3 := Lib.hid hJ3
        have HB13 := Lib.hid (HB1.out.keeps hk3 fun h => h.1 rfl)
        have HB23 := Lib.hid (HB2.out.keeps hk3 fun h => h.2.1 rfl)
        have HB33 := Lib.hid (HB3.out.keeps hk3 fun h => h.2.2 rfl)
        have c13 := HB13.out.cell
        have z13 := HB13.out.free
        have c23 := HB23.out.cell
        have c33 := HB33.out.cell
        clear hJ3 hk3 c1 c2 c3 z1
        gi_wp2
        go_roundw
        case rel =>
          have hks := keeps_set W3 sb (.string (r.extract (o + 1) r.size))
          refine ⟨j + 1, r.extract (o + 1) r.size, Nat.le_trans (Nat.le_of_lt HSX.out) HRS.out, HB13.out.set _, HB23.out.keeps hks (fun e => hsp e.symm), HB33.out.keeps hks (fun e => hsq e.symm), HLD.out.2.2, HLD.out.2.1, hJ _ _ _ HJ3.out⟩
        case measure =>
          rw [boxLen_eq HB1.out, boxLen_eq (HB13.out.set (.string (r.extract (o + 1) r.size)))]
          exact HSX.out
      · have HJ3 := Lib.hid hJx3
        clear hJx3
        gi_wp2
        refine bodyPost_ret (results_none rfl _ _ _) rfl ?_
        exact ⟨⟨_, rfl⟩, Or.inr ⟨j, by have := HLD.out.2.2; omega, HJ3.out⟩⟩
end Go.Proofs.YtkeglkneobngnaaGreatDoor

namespace Go.Proofs.YtkeglkneobngnaaGreatDoor
open Go.RowKit Go.Shelf Cd As
attribute [local go_sem] Oper.semAt_some

/-- What SplitSeq lays. -/
structure SplitSays (w w' : World) (s : ByteArray) : Prop where
  bs : Box w' w.heap.size (.string s)
  bp : Box w' (w.heap.size + 1) (.string ⟨#[10]⟩)
  bq : Box w' (w.heap.size + 2) (.int .i64 0)
  kp : Keeps (fun _ => False) w w'
  sz : w'.heap.size = w.heap.size + 3
theorem splitSeq_any (s : ByteArray) (w : World) : Calls Tryz.prog 118 #[.string s, .string ⟨#[10]⟩, .int .i64 0] w fun e w' =>
    e = .returned (.func (.func 136) #[] #[.pointer (some ⟨w.heap.size + 1, 0, none⟩), .pointer (some ⟨w.heap.size, 0, none⟩), .pointer (some ⟨w.heap.size + 2, 0, none⟩)]) ∧ SplitSays w w' s := by
  go_enter Tryz.func118, Tryz.ntmps118
  go_wp2_with fail
  go_ret
  have hk := (((Keeps.refl (fun _ : Nat => False) w).alloc (.cells #[.string s] 9)).alloc (.cells #[.string ⟨#[10]⟩] 9)).alloc (.cells #[.int .i64 0] 3)
  exact ⟨rfl, ((Box.new w _ _).alloc _).alloc _, (Box.new' _ _ _ (by simp)).alloc _, Box.new' _ _ _ (by simp), hk, by simp⟩
theorem splitSeqP_any (s : ByteArray) (w : World) : Calls Tryz.prog 84 #[.string s, .string ⟨#[10]⟩] w fun e w' =>
    e = .returned (.func (.func 136) #[] #[.pointer (some ⟨w.heap.size + 1, 0, none⟩), .pointer (some ⟨w.heap.size, 0, none⟩), .pointer (some ⟨w.heap.size + 2, 0, none⟩)]) ∧ SplitSays w w' s := by
  go_enter Tryz.func84, Tryz.ntmps84
  go_wp2_with fail
  refine (splitSeq_any s w).mono ?_
  rintro e w1 ⟨rfl, hs⟩
  have HS := Lib.hid hs
  clear hs
  go_wp2_with fail
  go_ret
  exact ⟨rfl, HS.out⟩

/-- The blocks from a to b. -/
def Span (a b : Nat) (k : Nat) : Prop := a ≤ k ∧ k < b

set_option maxRecDepth 100000 in
set_option maxHeartbeats 6400000 in
theorem lines1_in (n : Nat) (hn : 1 ≤ n) (l db : Nat) (s : ByteArray) (hs : s.size ≤ 60000) (W : World) (hdb : Box W db (.string s)) (J Jx : Nat → Nat → World → Prop)
    (hJ : ∀ (B2 k : Nat) (A A' : World), W.heap.size ≤ B2 → J B2 k A → Keeps (Span W.heap.size B2) A A' → J B2 k A')
    (hJx : ∀ (B2 k : Nat) (A A' : World), W.heap.size ≤ B2 → Jx B2 k A → Keeps (Span W.heap.size B2) A A' → Jx B2 k A')
    (hY : ∀ (m B2 k : Nat) (x : Nat × List (List UInt8)) (v : Value) (ss : List ByteArray) (A : World), W.heap.size ≤ B2 → B2 ≤ A.heap.size → (linesW (cutAt 10 s.data.toList) 0)[k]? = some x → StrsAt A v ss → wsL ss = x.2 → Fit ss → J B2 k A →
      YieldAt Fence.wide m Tryz.prog l #[.int .i64 (x.1 : Int), v] A fun e A' => (e = .returned (.bool true) ∧ J B2 (k + 1) A' ∧ Keeps (fun b => ¬ Span W.heap.size B2 b) A A') ∨ (e = .returned (.bool false) ∧ Jx B2 (k + 1) A' ∧ Keeps (fun b => ¬ Span W.heap.size B2 b) A A'))
    (h0 : ∀ A, Keeps (fun _ => False) W A → J A.heap.size 0 A) :
    CallsIn Fence.wide n Tryz.prog 83 #[.func (.yield l) #[] #[], .pointer (some ⟨db, 0, none⟩)] W fun e W' => (∃ v, e = .returned v) ∧
      ∃ B2, W.heap.size ≤ B2 ∧ (J B2 (linesW (cutAt 10 s.data.toList) 0).length W' ∨ ∃ k, k + 1 ≤ (linesW (cutAt 10 s.data.toList) 0).length ∧ Jx B2 (k + 1) W') := by
  obtain ⟨L, hL⟩ : ∃ L, L = cutAt 10 s.data.toList := ⟨_, rfl⟩
  rw [← hL] at hY ⊢
  have HL := Lib.hid hL
  clear hL
  have HDB := Lib.hid hdb
  have dcell := hdb.cell
  have dlt := hdb.lt
  refine callsIn_of_wp_marks Tryz.func83 rfl trivial ?_ rfl
  simp only [Tryz.ntmps83, List.size_toArray, List.length_cons, List.length_nil, Nat.reduceAdd, Nat.reduceSub, Array.replicate_succ, Array.replicate_zero, List.push_toArray, List.append_toArray, List.nil_append, List.cons_append]
  refine wpIn_wide.2 ?_
  go_wp2_with fail
  have HX0 := Lib.hid (two_boxes W (.func (.yield l) #[] #[]) (.int .i64 0) 150 3)
  refine (splitSeqP_any s _).mono ?_
  rintro e w1 ⟨rfl, hs1⟩
  have hsz : ((W.alloc (.cells #[.func (.yield l) #[] #[]] 150)).alloc (.cells #[.int .i64 0] 3)).heap.size = W.heap.size + 2 := HX0.out.2.2.2
  obtain ⟨B1, hB1⟩ : ∃ B1, B1 = W.heap.size := ⟨_, rfl⟩
  have hbs := hs1.bs
  have hbp := hs1.bp
  have hbq := hs1.bq
  have hs1z := hs1.sz
  rw [hsz] at hbs hbp hbq hs1z
  rw [hsz]
  have HS1 : Hid (Keeps (fun _ => False) W w1 ∧ Box w1 W.heap.size (.func (.yield l) #[] #[]) ∧ Box w1 (W.heap.size + 1) (.int .i64 0) ∧ Box w1 (W.heap.size + 2) (.string s) ∧ Box w1 (W.heap.size + 2 + 1) (.string ⟨#[10]⟩) ∧ Box w1 (W.heap.size + 2 + 2) (.int .i64 0)) := Lib.hid
    ⟨HX0.out.2.2.1.trans hs1.kp, HX0.out.1.keeps hs1.kp id, HX0.out.2.1.keeps hs1.kp id, hbs, hbp, hbq⟩
  have HZ1 := Lib.hid hs1z
  clear hsz hbs hbp hbq hs1z hs1 HX0 hB1
  go_wp2_with fail
  refine (wpIn_wide (n := n)).1 (wpIn_range_T rfl hn (gf := 136) (lb := #[.pointer (some ⟨W.heap.size + 2 + 1, 0, none⟩), .pointer (some ⟨W.heap.size + 2, 0, none⟩), .pointer (some ⟨W.heap.size + 2 + 2, 0, none⟩)]) rfl trivial (enters_of Tryz.func136 (by kernel_rfl) rfl) ?_)
  intro fn rec W1 hfn hrec hl0 hk0 hsz0
  obtain ⟨D, hD⟩ : ∃ D, D = w1.heap.size := ⟨_, rfl⟩
  rw [← hD] at hrec hl0 hsz0 ⊢
  have hD5 : D = W.heap.size + 5 := by rw [hD]; exact HZ1.out
  obtain ⟨B2, hB2⟩ : ∃ B2, B2 = W1.heap.size := ⟨_, rfl⟩
  have hB27 : B2 = W.heap.size + 7 := by omega
  have HK1 : Hid (Keeps (fun _ => False) W W1) := Lib.hid (HS1.out.1.trans hk0)
  have HY1 : Hid (Box W1 W.heap.size (.func (.yield l) #[] #[])) := Lib.hid (HS1.out.2.1.keeps hk0 id)
  have HL1 : Hid (Box W1 (W.heap.size + 1) (.int .i64 0)) := Lib.hid (HS1.out.2.2.1.keeps hk0 id)
  have HSB1 : Hid (Box W1 (W.heap.size + 2) (.string s)) := Lib.hid (HS1.out.2.2.2.1.keeps hk0 id)
  have HPB1 : Hid (Box W1 (W.heap.size + 2 + 1) (.string ⟨#[10]⟩)) := Lib.hid (HS1.out.2.2.2.2.1.keeps hk0 id)
  have HQB1 : Hid (Box W1 (W.heap.size + 2 + 2) (.int .i64 0)) := Lib.hid (HS1.out.2.2.2.2.2.keeps hk0 id)
  have HREC := Lib.hid hrec
  have h0' : J B2 0 W1 := by rw [hB2]; exact h0 W1 HK1.out
  have hWB : W.heap.size ≤ B2 := by omega
  have HNUM : Hid (D = W.heap.size + 5 ∧ B2 = W.heap.size + 7) := Lib.hid ⟨hD5, hB27⟩
  have hB2le : B2 ≤ W1.heap.size := by omega
  clear hD hB2 hD5 hB27 hsz0
  have hcar : (#[Value.func (.yield (D + 1)) #[] #[]] ++ #[Value.pointer (some ⟨W.heap.size + 2 + 1, 0, none⟩), .pointer (some ⟨W.heap.size + 2, 0, none⟩), .pointer (some ⟨W.heap.size + 2 + 2, 0, none⟩)] : Array Value) = #[Value.func (.yield (D + 1)) #[] #[], Value.pointer (some ⟨W.heap.size + 2 + 1, 0, none⟩), .pointer (some ⟨W.heap.size + 2, 0, none⟩), .pointer (some ⟨W.heap.size + 2 + 2, 0, none⟩)] := rfl
  rw [hcar]
  refine (split1_in (n - 1) (D + 1) (W.heap.size + 2) (W.heap.size + 2 + 1) (W.heap.size + 2 + 2) L
    (fun j A => LoopAt A D rec .ready none ∧ Box A W.heap.size (.func (.yield l) #[] #[]) ∧ Box A (W.heap.size + 1) (.int .i64 (j : Nat)) ∧ J B2 (linesW (L.take j) 0).length A ∧ B2 ≤ A.heap.size)
    (fun j A => LoopAt A D rec .done (some .ret) ∧ ∃ k, k + 1 ≤ (linesW L 0).length ∧ Jx B2 (k + 1) A ∧ W.heap.size ≤ A.heap.size)
    (by omega) (by omega) ?hJ' ?hY' W1 s hs HSB1.out HPB1.out HQB1.out HL.out.symm ⟨hl0, HY1.out, HL1.out, h0', hB2le⟩).mono ?_
  case hJ' =>
    rintro j A v ⟨h1, h2, h3, h4, h5⟩
    have hks := keeps_set A (W.heap.size + 2) v
    obtain ⟨n1, n2⟩ := HNUM.out
    exact ⟨h1.keeps hks (by omega) (by omega), h2.keeps hks (by omega), h3.keeps hks (by omega), hJ B2 _ A _ hWB h4 (hks.mono fun b _ e => by unfold Span; omega), Nat.le_trans h5 hks.size⟩
  case hY' =>
    rintro j t A hLj htz ⟨h1, h2, h3, h4, h5⟩
    refine yield_round HREC.out h1 hfn rfl ?_
    have H1 := Lib.hid h1
    have H2 := Lib.hid h2
    have H3 := Lib.hid h3
    clear h1 h2 h3
    gi_wp2
    refine ⟨H1.out, ?_⟩
    have h1 := H1.out
    have h2 := H2.out
    have h3 := H3.out
    have hkp := keeps_putObj A (D + 1) (.loop (rec .busy none))
    have HLP := Lib.hid (h1.turn .busy none)
    have hnum := HNUM.out
    have HYB := Lib.hid (h2.keeps hkp (by omega))
    have HLB := Lib.hid (h3.keeps hkp (by omega))
    have HJB := Lib.hid (hJ B2 _ A _ hWB h4 (hkp.mono fun b _ e => by unfold Span; omega))
    have HSZ : Hid (B2 ≤ (A.putObj (D + 1) (.loop (rec .busy none))).heap.size) := Lib.hid (Nat.le_trans h5 hkp.size)
    have HKP : Hid (Keeps (fun b => b ≠ W.heap.size + 2 ∧ b ≠ W.heap.size + 2 + 1 ∧ b ≠ W.heap.size + 2 + 2) A (A.putObj (D + 1) (.loop (rec .busy none)))) := Lib.hid (hkp.mono fun b _ e => by omega)
    clear h1 h2 h3 h4 h5 hkp hnum H1 H2 H3
    generalize A.putObj (D + 1) (.loop (rec .busy none)) = A1 at *
    -- what stands behind a round that goes on
    have HEND : Hid (∀ (A3 : World) (k : Nat), LoopAt A3 D rec .busy none → Box A3 W.heap.size (.func (.yield l) #[] #[]) → Box A3 (W.heap.size + 1) (.int .i64 (j : Nat)) → (linesW (L.take (j + 1)) 0).length = k → J B2 k A3 → B2 ≤ A3.heap.size →
        LoopAt (A3.setCell ⟨W.heap.size + 1, 0, none⟩ (.int .i64 ((j : Int) + 1))) D rec .busy none ∧ (let A4 := (A3.setCell ⟨W.heap.size + 1, 0, none⟩ (.int .i64 ((j : Int) + 1))).putObj (D + 1) (.loop (rec .ready none))
          (LoopAt A4 D rec .ready none ∧ Box A4 W.heap.size (.func (.yield l) #[] #[]) ∧ Box A4 (W.heap.size + 1) (.int .i64 ((j + 1 : Nat) : Int)) ∧ J B2 (linesW (L.take (j + 1)) 0).length A4 ∧ B2 ≤ A4.heap.size) ∧ Keeps (fun b => b = W.heap.size + 1 ∨ b = D + 1) A3 A4)) := Lib.hid fun A3 k g1 g2 g3 g4 g5 g6 => by
      have hnum := HNUM.out
      have hk1 := keeps_set A3 (W.heap.size + 1) (.int .i64 ((j : Int) + 1))
      have hk2 := keeps_putObj (A3.setCell ⟨W.heap.size + 1, 0, none⟩ (.int .i64 ((j : Int) + 1))) (D + 1) (.loop (rec .ready none))
      have g1' := g1.keeps hk1 (by omega) (by omega)
      refine ⟨g1', ⟨g1'.turn .ready none, (g2.keeps hk1 (by omega)).keeps hk2 (by omega), (g3.set (.int .i64 ((j : Int) + 1))).keeps hk2 (by omega), ?_, Nat.le_trans (Nat.le_trans g6 hk1.size) hk2.size⟩, ?_⟩
      · rw [g4]
        exact hJ B2 _ _ _ hWB (hJ B2 _ _ _ hWB g5 (hk1.mono fun b _ e => by unfold Span; omega)) (hk2.mono fun b _ e => by unfold Span; omega)
      · exact (hk1.mono fun b _ e => Or.inl e).trans (hk2.mono fun b _ e => Or.inr e)
    have hlcell := HLB.out.cell
    have hlfree := HLB.out.free
    have hycell := HYB.out.cell
    have HFLD := Lib.hid (fields_any t htz A1)
    have hj6 : j ≤ 100000 := by
      have h1 := (List.getElem?_eq_some_iff.1 hLj).1
      have h2 := cutAt_len 10 s.data.toList
      rw [← HL.out, size_data] at h2
      omega
    gi_wp2
    refine ⟨trivial, fun h => (by cases h), (CallsIn.inRound (D + 1) (callsIn_wide.2 HFLD.out)).mono ?_⟩
    rintro e A2 ⟨v, ss, rfl, hws, hst, hft, hb2⟩
    have hkb : Keeps (fun _ => False) A1 A2 := Keeps.of_new hb2
    have HLP2 := Lib.hid (HLP.out.keeps hkb id id)
    have HYB2 := Lib.hid (HYB.out.keeps hkb id)
    have HLB2 := Lib.hid (HLB.out.keeps hkb id)
    have HJB2 := Lib.hid (hJ B2 _ _ _ hWB HJB.out (hkb.mono fun _ _ e => e.elim))
    have HSZ2 : Hid (B2 ≤ A2.heap.size) := Lib.hid (Nat.le_trans HSZ.out hkb.size)
    have hst0 := hst
    obtain ⟨ao, q, cap, rfl, hq, hqc, hcm, _⟩ := hst0
    have HST := Lib.hid hst
    have HFT := Lib.hid hft
    have HWS := Lib.hid hws
    have HB2 := Lib.hid hb2
    have hq1 : q ≤ 100000 := by have := hft.1; omega
    clear hst hft hws hb2 hkb hlcell hlfree hycell HFLD
    have hlcell := HLB2.out.cell
    have hlfree := HLB2.out.free
    have hycell := HYB2.out.cell
    have hw1 : IntKind.i64.wrap ((j : Int) + 1) = (j : Int) + 1 := by rw [IntKind.wrap_i64]; omega
    by_cases hw : words t.data.toList = []
    · have hq0 : q = 0 := by
        have := HWS.out
        rw [hw] at this
        have h2 := congrArg List.length this
        unfold wsL at h2
        rw [List.length_map] at h2
        rw [hq, h2]; rfl
      have hqi : ¬ (0 : Int) < (q : Int) := by omega
      have hqn : ¬ 0 < q := by omega
      have HK : Hid ((linesW (L.take (j + 1)) 0).length = (linesW (L.take j) 0).length) := Lib.hid (by rw [linesW_snoc hLj, if_pos hw, List.append_nil])
      clear hq0 hq hw
      gi_wp2
      refine ⟨fun _ h => (by cases h), ?_⟩
      gi_wp2
      obtain ⟨g1, g2, g3⟩ := HEND.out A2 _ HLP2.out HYB2.out HLB2.out HK.out HJB2.out HSZ2.out
      exact ⟨g1, Or.inl ⟨rfl, g2, (HKP.out.trans (Keeps.of_new HB2.out)).trans (g3.mono fun b _ e => by have := HNUM.out; omega)⟩⟩
    · have hq0 : q ≠ 0 := fun h => hw (by
        have := HWS.out
        rw [← this]
        have hss : ss = [] := List.eq_nil_of_length_eq_zero (by omega)
        rw [hss]; rfl)
      have hqi : (0 : Int) < (q : Int) := by omega
      have hqn : 0 < q := by omega
      have HK : Hid ((linesW (L.take (j + 1)) 0).length = (linesW (L.take j) 0).length + 1) := Lib.hid (by rw [linesW_snoc hLj, if_neg hw, List.length_append]; rfl)
      obtain ⟨fn2, tmps2, assign2, body2, hy, hR⟩ := hY (n - 1 - 1 - 1) B2 _ (j, words t.data.toList) (.slice ao q cap) ss A2 hWB HSZ2.out (linesW_at hLj hw) HST.out HWS.out HFT.out HJB2.out
      dsimp only at hy
      have HRR := Lib.hid hR
      have HLT : Hid ((linesW (L.take j) 0).length + 1 ≤ (linesW L 0).length) := Lib.hid (by
        have := (List.getElem?_eq_some_iff.1 (linesW_at hLj hw)).1
        omega)
      clear hq0 hq hw hR
      gi_wp2
      refine ⟨fun h => (by cases h), HRR.out.mono ?_⟩
      rintro e A3 (⟨rfl, hJ3, hk3⟩ | ⟨rfl, hJx3, hk3⟩)
      · have HJ3 := Lib.hid hJ3
        have HK3 := Lib.hid hk3
        have hsp : ∀ b, Span W.heap.size B2 b → ¬ ¬ Span W.heap.size B2 b := fun b h1 h2 => h2 h1
        have hnum := HNUM.out
        have HLP3 := Lib.hid (HLP2.out.keeps hk3 (hsp D (by unfold Span; omega)) (hsp (D + 1) (by unfold Span; omega)))
        have HYB3 := Lib.hid (HYB2.out.keeps hk3 (hsp _ (by unfold Span; omega)))
        have HLB3 := Lib.hid (HLB2.out.keeps hk3 (hsp _ (by unfold Span; omega)))
        have HSZ3 : Hid (B2 ≤ A3.heap.size) := Lib.hid (Nat.le_trans HSZ2.out hk3.size)
        clear hJ3 hk3 hsp hnum hlcell hlfree hycell
        have hlcell := HLB3.out.cell
        have hlfree := HLB3.out.free
        gi_wp2
        obtain ⟨g1, g2, g3⟩ := HEND.out A3 _ HLP3.out HYB3.out HLB3.out HK.out HJ3.out HSZ3.out
        exact ⟨g1, Or.inl ⟨rfl, g2, ((HKP.out.trans (Keeps.of_new HB2.out)).trans (HK3.out.mono fun b _ e => by have := HNUM.out; unfold Span at e; omega)).trans (g3.mono fun b _ e => by have := HNUM.out; omega)⟩⟩
      · have HJ3 := Lib.hid hJx3
        have hsp : ∀ b, Span W.heap.size B2 b → ¬ ¬ Span W.heap.size B2 b := fun b h1 h2 => h2 h1
        have hnum := HNUM.out
        have HLP3 := Lib.hid (HLP2.out.keeps hk3 (hsp D (by unfold Span; omega)) (hsp (D + 1) (by unfold Span; omega)))
        have HSZ3 : Hid (W.heap.size ≤ A3.heap.size) := Lib.hid (Nat.le_trans (Nat.le_trans hWB HSZ2.out) hk3.size)
        clear hJx3 hk3 hsp hnum hlcell hlfree hycell
        gi_wp2
        have hk4 := keeps_putObj A3 (D + 1) (.loop (rec .done (some .ret)))
        have hnum := HNUM.out
        exact ⟨HLP3.out, Or.inr ⟨rfl, HLP3.out.turn .done (some .ret), _, HLT.out, hJx B2 _ _ _ hWB HJ3.out (hk4.mono fun b _ e => by unfold Span; omega), Nat.le_trans HSZ3.out hk4.size⟩⟩
  · rintro e w2 ⟨⟨v, rfl⟩, hcase⟩
    refine ⟨⟨v, rfl⟩, ?_⟩
    have HFIN : Hid (∀ w3 : World, w3.heap[D]? = some (.deferred (some [])) → Keeps (Span W.heap.size B2) w3 (w3.putObj D (.deferred none))) := Lib.hid fun w3 _ => (keeps_putObj w3 D (.deferred none)).mono fun b _ e => by have := HNUM.out; unfold Span; omega
    rcases hcase with ⟨hl2, _, _, hJ2, _⟩ | ⟨j, hj, hl2, k, hk, hJx2, _⟩
    · refine Or.inl ⟨hl2, ?_⟩
      have hk4 := keeps_putObj w2 (D + 1) (.loop (rec .exhausted none))
      have HCO := Lib.hid (hl2.turn .exhausted none).coll
      rw [List.take_length] at hJ2
      have HJ4 := Lib.hid (hJ B2 _ _ _ hWB hJ2 (hk4.mono fun b _ e => by have := HNUM.out; unfold Span; omega))
      clear hl2 hJ2 hk4
      generalize w2.putObj (D + 1) (.loop (rec .exhausted none)) = w3 at *
      try simp only [Exit.inBlock]
      change bodyPostM Fence.wide n Tryz.prog Tryz.f83 _ Exit.normal _ _
      refine ⟨by simp, .inl ⟨_, _, rfl, run_takeDeferred HCO.out, ?_⟩⟩
      exact ⟨_, results_none rfl _ _ _, ⟨_, rfl⟩, B2, hWB, Or.inl (hJ B2 _ _ _ hWB HJ4.out (HFIN.out w3 HCO.out))⟩
    · refine Or.inr ⟨.ret, hl2, ?_⟩
      have hk4 := keeps_putObj w2 (D + 1) (.loop (rec .exhausted (some .ret)))
      have HCO := Lib.hid (hl2.turn .exhausted (some .ret)).coll
      have HJ4 := Lib.hid (hJx B2 _ _ _ hWB hJx2 (hk4.mono fun b _ e => by have := HNUM.out; unfold Span; omega))
      clear hl2 hJx2 hk4
      generalize w2.putObj (D + 1) (.loop (rec .exhausted (some .ret))) = w3 at *
      refine wpIn_wide.2 ?_
      go_wp2_with fail
      refine ⟨by simp, .inl ⟨_, _, rfl, run_takeDeferred HCO.out, ?_⟩⟩
      exact ⟨_, results_none rfl _ _ _, ⟨_, rfl⟩, B2, hWB, Or.inr ⟨k, hk, hJx B2 _ _ _ hWB HJ4.out (HFIN.out w3 HCO.out)⟩⟩
end Go.Proofs.YtkeglkneobngnaaGreatDoor

namespace Go.Proofs.YtkeglkneobngnaaGreatDoor
open Go.RowKit Cd As

theorem RdO.prog {B rb : Nat} {W : World} {vf : Value} {ρ : Nat → AR} {gs : List Gn} {st : St} (h : RdO B W rb vf ρ gs st) : ProgAt W (.agg #[.int .i64 st.p.globals, vf]) st.p := by
  refine ⟨vf, rfl, ?_⟩
  have hlen : st.p.fns.length = gs.length := by rw [h.fns, List.length_map]
  rcases h.row.2 with ⟨h1, h2⟩ | ⟨g, cap, cur, h1, h3, h4, h5, h6, h7⟩
  · refine ⟨none, 0, 0, h1, by rw [hlen, h2], Nat.le_refl _, Nat.zero_le _, fun h => absurd h (Nat.lt_irrefl _)⟩
  · refine ⟨_, gs.length, cap, h1, hlen.symm, h5, h6, fun _ => ⟨g, 0, rfl, (Array.getElem?_eq_some_iff.1 h4).1, fun i f hf => ?_⟩⟩
    rw [h.fns, List.getElem?_map] at hf
    obtain ⟨gn, hg, rfl⟩ := Option.map_eq_some_iff.1 hf
    have hrow := h.row
    rw [h1] at hrow
    obtain ⟨n1, o1⟩ := h.loc i gn hg
    obtain ⟨n2, o2⟩ := h.cod i gn hg
    rw [Nat.zero_add]
    exact ⟨own_at hrow (cellsG_get gs i 0 gn _ hg rfl), ⟨gn.2.1, own_at hrow (cellsG_get gs i 1 gn _ hg rfl), own_ints o1⟩, own_at hrow (cellsG_get gs i 2 gn _ hg rfl), gn.2.2, own_at hrow (cellsG_get gs i 3 gn _ hg rfl), own_ins o2⟩

theorem code_le {f : FnV} : ∀ {l : List FnV}, f ∈ l → f.code.length ≤ insN l
  | [], h => by cases h
  | g :: l, h => by
    have e : insN (g :: l) = g.code.length + insN l := by simp [insN]
    rcases List.mem_cons.1 h with rfl | h
    · omega
    · have := code_le h
      omega
theorem addI_len {i : In} {fs gs : List FnV} (h : addI i fs = some gs) : gs.length = fs.length := by
  unfold addI at h
  split at h
  · cases h
  · rename_i f hf
    cases h
    obtain ⟨hd, rfl⟩ := List.getLast?_eq_some_iff.1 hf
    rw [List.dropLast_concat]
    simp
theorem rdLine_len {ws : List B} {s s' : St} (h : rdLine ws s = some s') : s'.p.fns.length ≤ s.p.fns.length + 1 ∧ s'.begun = true := by
  unfold rdLine at h
  split at h
  · split at h
    · obtain ⟨f, hf, rfl⟩ := Option.map_eq_some_iff.1 h
      exact ⟨by simp, rfl⟩
    · split at h
      · cases h
      · obtain ⟨l, hl, rfl⟩ := Option.map_eq_some_iff.1 h
        exact ⟨by dsimp only; rw [addI_len hl]; omega, rfl⟩
  · obtain ⟨n, hn, rfl⟩ := Option.map_eq_some_iff.1 h
    exact ⟨Nat.le_succ _, rfl⟩
/-- Bounds of what k lines make. -/
def Bnd (st : St) (k : Nat) : Prop := insN st.p.fns ≤ k ∧ st.p.fns.length ≤ k
theorem bnd_zero : Bnd St0 0 := ⟨Nat.le_refl _, Nat.le_refl _⟩
theorem bnd_next {ws : List B} {s s' : St} {k : Nat} (h : Bnd s k) (hr : rdLine ws s = some s') : Bnd s' (k + 1) := by
  have h1 := rdLine_n hr
  have h2 := (rdLine_len hr).1
  obtain ⟨a, b⟩ := h
  exact ⟨by omega, by omega⟩
theorem linesW_ne : ∀ {L : List B} {k : Nat} {x : Nat × List B}, x ∈ linesW L k → x.2 ≠ []
  | [], _, _, h => by cases h
  | l :: L, k, x, h => by
    unfold linesW at h
    split at h
    · exact linesW_ne h
    · rename_i hw
      rcases List.mem_cons.1 h with rfl | h
      · exact hw
      · exact linesW_ne h
/-- The answer, by the lines that have words. -/
theorem readA_form {s : List UInt8} {k : Nat} (hs : s.length ≤ 60000) (h : runW (linesW (cutAt 10 s) 0) St0 = .error k) : readA s = .form k := by
  unfold readA
  rw [if_neg (by omega), lnsR_run, h]
theorem readA_done {s : List UInt8} {st : St} (hs : s.length ≤ 60000) (h : runW (linesW (cutAt 10 s) 0) St0 = .ok st) :
    readA s = if st.begun then (if progE st.p = 0 then .ok st.p else .err (progE st.p)) else .form (1 + s.count 10) := by
  unfold readA
  rw [if_neg (by omega), lnsR_run, h]
theorem readA_long {s : List UInt8} (hs : 60000 < s.length) : readA s = .err 4 := by
  unfold readA
  rw [if_pos hs]
end Go.Proofs.YtkeglkneobngnaaGreatDoor

namespace Go.Proofs.YtkeglkneobngnaaGreatDoor
open Go.RowKit Cd

theorem errV_nz {n : Nat} (h : n ≠ 0) : errV n = .iface 24 (.int .i64 n) := by unfold errV; rw [if_neg h]
theorem all_kinds {l : List Int} (h : ∀ j, j < l.length → kindB (l.getD j 0) = true) : l.all kindB = true := by
  rw [List.all_eq_true]
  intro x hx
  obtain ⟨j, hj, rfl⟩ := List.mem_iff_getElem.1 hx
  have := h j hj
  rwa [List.getD_eq_getElem?_getD, List.getElem?_eq_getElem hj] at this
theorem not_kinds {l : List Int} {j : Nat} (hj : j < l.length) (h : kindB (l.getD j 0) = false) : l.all kindB = false := by
  rw [← Bool.not_eq_true, List.all_eq_true]
  intro ha
  have := ha (l.getD j 0) (by rw [List.getD_eq_getElem?_getD, List.getElem?_eq_getElem hj]; exact List.getElem_mem hj)
  rw [h] at this
  cases this
theorem all_ins {l : List In} (h : ∀ j, j < l.length → mayB (l.getD j (0, 0)) = true) : l.all mayB = true := by
  rw [List.all_eq_true]
  intro x hx
  obtain ⟨j, hj, rfl⟩ := List.mem_iff_getElem.1 hx
  have := h j hj
  rwa [List.getD_eq_getElem?_getD, List.getElem?_eq_getElem hj] at this
theorem not_ins {l : List In} {j : Nat} (hj : j < l.length) (h : mayB (l.getD j (0, 0)) = false) : l.all mayB = false := by
  rw [← Bool.not_eq_true, List.all_eq_true]
  intro ha
  have := ha (l.getD j (0, 0)) (by rw [List.getD_eq_getElem?_getD, List.getElem?_eq_getElem hj]; exact List.getElem_mem hj)
  rw [h] at this
  cases this

set_option maxRecDepth 100000 in
set_option maxHeartbeats 3200000 in
theorem rightFn_any (f : FnV) (vl vc : Value) (w : World) (hl : IntsAt w vl f.locals) (hc : InsAt w vc f.code) :
    Calls Tryz.prog 76 #[.agg #[.int .i64 f.params, vl, .int .i64 f.kind, vc]] w fun e w' => e = .returned (errV (fnE f)) ∧ Below w.heap.size w w' := by
  obtain ⟨pa, ls, ki, cs⟩ := f
  obtain ⟨ao, n, cap, rfl, hn, hnc, hcm, hx⟩ := hl
  obtain ⟨ao2, m, cap2, rfl, hm, hmc, hcm2, hx2⟩ := hc
  dsimp only at hn hm hx hx2 ⊢
  unfold maxLen at hcm hcm2
  have hb0 := (Below.refl w.heap.size w).alloc (Nat.le_refl _) (.cells #[.int .i64 pa, .slice ao n cap, .int .i64 ki, .slice ao2 m cap2] 72)
  have HB0 := Lib.hid hb0
  have HN := Lib.hid hn
  have HM := Lib.hid hm
  have HX : Hid (∀ W, Below w.heap.size w W → 0 < n → ∃ b o, ao = some ⟨b, o, none⟩ ∧ ∀ i, i < n → W.cell? ⟨b, o + i, none⟩ = some (.int .i64 (ls.getD i 0))) := Lib.hid fun W hW h0 => by
    obtain ⟨b, o, h1, h2, h3⟩ := hx h0
    exact ⟨b, o, h1, fun i hi => by rw [hW.cell (p := ⟨b, o + i, none⟩) h2]; exact h3 i hi⟩
  have HX2 : Hid (∀ W, Below w.heap.size w W → 0 < m → ∃ b o, ao2 = some ⟨b, o, none⟩ ∧ ∀ i, i < m → W.cell? ⟨b, o + i * 2, none⟩ = some (.int .i64 (cs.getD i (0, 0)).1) ∧ W.cell? ⟨b, o + i * 2 + 1, none⟩ = some (.int .i64 (cs.getD i (0, 0)).2)) := Lib.hid fun W hW h0 => by
    obtain ⟨b, o, h1, h2, h3⟩ := hx2 h0
    refine ⟨b, o, h1, fun i hi => ?_⟩
    have hi2 : i < cs.length := by omega
    have := h3 i _ (List.getElem?_eq_getElem hi2)
    rw [List.getD_eq_getElem?_getD, List.getElem?_eq_getElem hi2]
    rw [hW.cell (p := ⟨b, o + i * 2, none⟩) h2, hW.cell (p := ⟨b, o + i * 2 + 1, none⟩) h2]
    exact this
  have HF : Hid (∀ x, fnE ⟨pa, ls, ki, cs⟩ = x → errV (fnE ⟨pa, ls, ki, cs⟩) = errV x) := Lib.hid fun x h => by rw [h]
  have HE : Hid (fnE ⟨pa, ls, ki, cs⟩ = if 12 < n ∨ 9000 < m then 4 else if pa < 0 ∨ (n : Int) < pa ∨ ki < 0 ∨ 3 < ki then 2 else if ls.all kindB then (if cs.all mayB then 0 else 1) else 2) := Lib.hid (by
    rw [hn, hm]; rfl)
  clear hb0 hx hx2 hn hm
  go_enter Tryz.func76, Tryz.ntmps76
  by_cases h1 : 12 < n
  · have h1i : (12 : Int) < (n : Int) := by omega
    go_wp2_with fail
    go_ret
    exact ⟨by rw [HE.out, if_pos (Or.inl h1)]; rfl, HB0.out⟩
  have h1i : ¬ (12 : Int) < (n : Int) := by omega
  by_cases h2 : 9000 < m
  · have h2i : (9000 : Int) < (m : Int) := by omega
    go_wp2_with fail
    go_ret
    exact ⟨by rw [HE.out, if_pos (Or.inr h2)]; rfl, HB0.out⟩
  have h2i : ¬ (9000 : Int) < (m : Int) := by omega
  have H12 : Hid (¬ (12 < n ∨ 9000 < m)) := Lib.hid (by omega)
  by_cases h3 : pa < 0
  · go_wp2_with fail
    go_ret
    exact ⟨by rw [HE.out, if_neg H12.out, if_pos (Or.inl h3)]; rfl, HB0.out⟩
  by_cases h4 : (n : Int) < pa
  · go_wp2_with fail
    go_ret
    exact ⟨by rw [HE.out, if_neg H12.out, if_pos (Or.inr (Or.inl h4))]; rfl, HB0.out⟩
  by_cases h5 : ki < 0
  · go_wp2_with fail
    go_ret
    exact ⟨by rw [HE.out, if_neg H12.out, if_pos (Or.inr (Or.inr (Or.inl h5)))]; rfl, HB0.out⟩
  by_cases h6 : 3 < ki
  · go_wp2_with fail
    go_ret
    exact ⟨by rw [HE.out, if_neg H12.out, if_pos (Or.inr (Or.inr (Or.inr h6)))]; rfl, HB0.out⟩
  have HQ : Hid (fnE ⟨pa, ls, ki, cs⟩ = if ls.all kindB then (if cs.all mayB then 0 else 1) else 2) := Lib.hid (by
    rw [HE.out, if_neg H12.out, if_neg (by omega)])
  clear HE
  go_wp2_with fail
  clear h3 h4 h5 h6
  go_loopw [43] (fun iv wr => ∃ k : Nat, k ≤ n ∧ iv = .int .i64 k ∧ Hid (∀ j, j < k → kindB (ls.getD j 0) = true) ∧ wr = w.alloc (.cells #[.int .i64 pa, .slice ao n cap, .int .i64 ki, .slice ao2 m cap2] 72)) (fun iv _ => n - (intOf iv).toNat)
  case atStart => exact ⟨0, Nat.zero_le _, rfl, Lib.hid (fun j hj => absurd hj (Nat.not_lt_zero _)), rfl⟩
  case round =>
    obtain ⟨k, hk, rfl, hall, rfl⟩ := hrel
    by_cases hkn : k < n
    · obtain ⟨b, o, rfl, hcell⟩ := HX.out _ HB0.out (by omega)
      have hc1 := hcell k hkn
      have hi1 : (k : Int) < (n : Int) := by omega
      clear hcell HX
      obtain ⟨x, hxx⟩ : ∃ x, x = ls.getD k 0 := ⟨_, rfl⟩
      have HXX := Lib.hid hxx
      rw [← hxx] at hc1
      clear hxx
      by_cases g1 : x < 1
      · go_wp2_with fail
        go_ret
        exact ⟨by rw [HQ.out, not_kinds (j := k) (by rw [← HN.out]; exact hkn) (by rw [← HXX.out]; simp [kindB]; omega)]; rfl, HB0.out⟩
      · by_cases g2 : 3 < x
        · go_wp2_with fail
          go_ret
          exact ⟨by rw [HQ.out, not_kinds (j := k) (by rw [← HN.out]; exact hkn) (by rw [← HXX.out]; simp [kindB]; omega)]; rfl, HB0.out⟩
        · have HK : Hid (∀ j, j < k + 1 → kindB (ls.getD j 0) = true) := Lib.hid fun j hj => by
            by_cases e : j = k
            · subst e
              rw [← HXX.out]
              simp [kindB]
              omega
            · exact hall.out j (by omega)
          clear hall
          go_wp2_with fail
          go_roundw
          case rel => exact ⟨k + 1, by omega, by go_num, HK, trivial⟩
          case measure => simp [intOf]; omega
    · obtain rfl : k = n := by omega
      have HA : Hid (ls.all kindB = true) := Lib.hid (all_kinds fun j hj => hall.out j (by rw [HN.out]; exact hj))
      clear hall HX
      go_wp2_with fail
      go_loopw [58] (fun iv wr => ∃ q : Nat, q ≤ m ∧ iv = .int .i64 q ∧ Hid (∀ j, j < q → mayB (cs.getD j (0, 0)) = true) ∧ Below w.heap.size w wr) (fun iv _ => m - (intOf iv).toNat)
      case atStart => exact ⟨0, Nat.zero_le _, rfl, Lib.hid (fun j hj => absurd hj (Nat.not_lt_zero _)), HB0.out⟩
      case round =>
        obtain ⟨q, hq, rfl, hall, hbel⟩ := hrel
        rename World => wr
        by_cases hqm : q < m
        · obtain ⟨b, o, rfl, hcell⟩ := HX2.out _ hbel (by omega)
          obtain ⟨hc1, hc2⟩ := hcell q hqm
          have hi1 : (q : Int) < (m : Int) := by omega
          clear hcell HX2
          obtain ⟨x, y, hxx⟩ : ∃ x y, (x, y) = cs.getD q (0, 0) := ⟨_, _, rfl⟩
          have HXX := Lib.hid hxx
          rw [← hxx] at hc1 hc2
          clear hxx
          dsimp only at hc1 hc2
          have hba := hbel.alloc hbel.size (.cells #[.int .i64 x, .int .i64 y] 75)
          go_wp2_with fail
          refine (mayBe_ins x y _).mono ?_
          rintro e w2 ⟨rfl, hb2⟩
          have hb3 : Below w.heap.size w w2 := hba.trans (hb2.mono hba.size)
          cases hmb : mayB (x, y) with
          | false =>
            have HMB := Lib.hid hmb
            clear hmb
            go_wp2_with fail
            go_ret
            exact ⟨by rw [HQ.out, HA.out, not_ins (j := q) (by rw [← HM.out]; exact hqm) (by rw [← HXX.out]; exact HMB.out)]; rfl, hb3⟩
          | true =>
            have HK : Hid (∀ j, j < q + 1 → mayB (cs.getD j (0, 0)) = true) := Lib.hid fun j hj => by
              by_cases e : j = q
              · subst e
                rw [← HXX.out]
                exact hmb
              · exact hall.out j (by omega)
            clear hall hmb
            go_wp2_with fail
            go_roundw
            case rel => exact ⟨q + 1, by omega, by go_num, HK, hb3⟩
            case measure => simp [intOf]; omega
        · obtain rfl : q = m := by omega
          have HI : Hid (cs.all mayB = true) := Lib.hid (all_ins fun j hj => hall.out j (by rw [HM.out]; exact hj))
          clear hall HX2
          go_wp2_with fail
          go_ret
          exact ⟨by rw [HQ.out, HA.out, HI.out]; rfl, hbel⟩

theorem fnsE_at : ∀ {l : List FnV} {k : Nat} {f : FnV}, (∀ j g, j < k → l[j]? = some g → fnE g = 0) → l[k]? = some f → fnE f ≠ 0 → fnsE l = fnE f
  | [], _, _, _, h, _ => by cases h
  | g :: r, 0, f, _, h, h2 => by
    cases h
    unfold fnsE
    rw [if_neg h2]
  | g :: r, k + 1, f, h1, h, h2 => by
    unfold fnsE
    rw [if_pos (h1 0 g (Nat.succ_pos _) rfl)]
    exact fnsE_at (k := k) (fun j x hj hx => h1 (j + 1) x (by omega) (by simpa using hx)) (by simpa using h) h2
theorem fnsE_all {l : List FnV} (h : ∀ j g, j < l.length → l[j]? = some g → fnE g = 0) : fnsE l = 0 := by
  rw [fnsE_iff]
  intro f hf
  obtain ⟨j, hj, rfl⟩ := List.mem_iff_getElem.1 hf
  exact (fnE_iff _).1 (h j _ hj (List.getElem?_eq_getElem hj))

set_option maxRecDepth 100000 in
set_option maxHeartbeats 3200000 in
theorem right_any (p : Pg) (v : Value) (w : World) (hp : ProgAt w v p) :
    Calls Tryz.prog 36 #[v] w fun e w' => e = .returned (errV (progE p)) ∧ Below w.heap.size w w' := by
  obtain ⟨vf, rfl, ao, n, cap, rfl, hn, hnc, hcm, hx⟩ := hp
  unfold maxLen at hcm
  obtain ⟨gl, fs⟩ := p
  dsimp only at hn hx ⊢
  have hb0 := (Below.refl w.heap.size w).alloc (Nat.le_refl _) (.cells #[.int .i64 gl, .slice ao n cap] 30)
  have HB0 := Lib.hid hb0
  have HN := Lib.hid hn
  have HX : Hid (∀ W, Below w.heap.size w W → 0 < n → ∃ b o, ao = some ⟨b, o, none⟩ ∧ ∀ i f, fs[i]? = some f → FnAt W b (o + i * 4) f) := Lib.hid fun W hW h0 => by
    obtain ⟨b, o, h1, h2, h3⟩ := hx h0
    exact ⟨b, o, h1, fun i f hi => (h3 i f hi).below hW⟩
  have HE : Hid (progE ⟨gl, fs⟩ = if gl < 0 ∨ 8 < gl then 2 else if 12 < n then 4 else fnsE fs) := Lib.hid (by rw [hn]; rfl)
  clear hb0 hx hn
  go_enter Tryz.func36, Tryz.ntmps36
  by_cases h1 : gl < 0
  · go_wp2_with fail
    go_ret
    exact ⟨by rw [HE.out, if_pos (Or.inl h1)]; rfl, HB0.out⟩
  by_cases h2 : 8 < gl
  · go_wp2_with fail
    go_ret
    exact ⟨by rw [HE.out, if_pos (Or.inr h2)]; rfl, HB0.out⟩
  by_cases h3 : 12 < n
  · have h3i : (12 : Int) < (n : Int) := by omega
    go_wp2_with fail
    go_ret
    exact ⟨by rw [HE.out, if_neg (by omega), if_pos h3]; rfl, HB0.out⟩
  have h3i : ¬ (12 : Int) < (n : Int) := by omega
  have HQ : Hid (progE ⟨gl, fs⟩ = fnsE fs) := Lib.hid (by rw [HE.out, if_neg (by omega), if_neg h3])
  clear HE
  go_wp2_with fail
  clear h1 h2 h3 h3i
  go_loopw [23] (fun iv wr => ∃ k : Nat, k ≤ n ∧ iv = .int .i64 k ∧ Hid (∀ j g, j < k → fs[j]? = some g → fnE g = 0) ∧ Below w.heap.size w wr) (fun iv _ => n - (intOf iv).toNat)
  case atStart => exact ⟨0, Nat.zero_le _, rfl, Lib.hid (fun j _ hj => absurd hj (Nat.not_lt_zero _)), HB0.out⟩
  case round =>
    obtain ⟨k, hk, rfl, hall, hbel⟩ := hrel
    rename World => wr
    by_cases hkn : k < n
    · obtain ⟨b, o, rfl, hfn⟩ := HX.out _ hbel (by omega)
      have hkl : k < fs.length := by rw [← HN.out]; exact hkn
      obtain ⟨f, hf⟩ : ∃ f, fs[k]? = some f := ⟨_, List.getElem?_eq_getElem hkl⟩
      obtain ⟨hc1, ⟨vl, hc2, hli⟩, hc3, vc, hc4, hci⟩ := hfn k f hf
      have HF := Lib.hid hf
      have HLI := Lib.hid hli
      have HCI := Lib.hid hci
      have hi1 : (k : Int) < (n : Int) := by omega
      clear hfn HX hf hkl hli hci
      obtain ⟨pa, hpa⟩ : ∃ x, x = f.params := ⟨_, rfl⟩
      obtain ⟨ki, hki⟩ : ∃ x, x = f.kind := ⟨_, rfl⟩
      rw [← hpa] at hc1
      rw [← hki] at hc3
      have hba := hbel.alloc hbel.size (.cells #[.int .i64 pa, vl, .int .i64 ki, vc] 72)
      have hbw := (Below.refl wr.heap.size wr).alloc (Nat.le_refl _) (.cells #[.int .i64 pa, vl, .int .i64 ki, vc] 72)
      have HC := Lib.hid (rightFn_any f vl vc _ (HLI.out.below hbw) (HCI.out.below hbw))
      rw [← hpa, ← hki] at HC
      have ho1 : vl.oneCell' = true := by obtain ⟨_, _, _, e, _⟩ := HLI.out; rw [e]; rfl
      have ho2 : vc.oneCell' = true := by obtain ⟨_, _, _, e, _⟩ := HCI.out; rw [e]; rfl
      obtain ⟨_, n1, c1, rfl, -⟩ := HLI.out
      obtain ⟨_, n2, c2, rfl, -⟩ := HCI.out
      clear hpa hki hbw
      go_wp2_with fail
      refine HC.out.mono ?_
      rintro e w2 ⟨rfl, hb2⟩
      have hb3 : Below w.heap.size w w2 := hba.trans (hb2.mono hba.size)
      by_cases he : fnE f = 0
      · have HE := Lib.hid he
        have HK : Hid (∀ j g, j < k + 1 → fs[j]? = some g → fnE g = 0) := Lib.hid fun j g hj hg => by
          by_cases e : j = k
          · subst e
            rw [HF.out] at hg
            cases hg
            exact he
          · exact hall.out j g (by omega) hg
        rw [he, errV_0]
        clear hall he HC
        go_wp2_with fail
        go_roundw
        case rel => exact ⟨k + 1, by omega, by go_num, HK, hb3⟩
        case measure => simp [intOf]; omega
      · have HZ : Hid (fnsE fs = fnE f) := Lib.hid (fnsE_at (fun j g hj hg => hall.out j g hj hg) HF.out he)
        rw [errV_nz he]
        have HI := Lib.hid he
        clear hall he HC
        go_wp2_with fail
        go_ret
        exact ⟨by rw [HQ.out, HZ.out, errV_nz HI.out]; rfl, hb3⟩
    · obtain rfl : k = n := by omega
      have HA : Hid (fnsE fs = 0) := Lib.hid (fnsE_all fun j g hj hg => hall.out j g (by rw [HN.out]; exact hj) hg)
      clear hall HX
      go_wp2_with fail
      go_ret
      exact ⟨by rw [HQ.out, HA.out]; rfl, hbel⟩
end Go.Proofs.YtkeglkneobngnaaGreatDoor

namespace Go.Proofs.YtkeglkneobngnaaGreatDoor
open Go.RowKit Go.Shelf Cd As
attribute [local go_sem] Oper.semAt_some

theorem wrongA_any (k : Int) (w : World) : Calls Tryz.prog 49 #[.int .i64 k] w fun e w' =>
    e = .returned (.iface 139 (.pointer (some ⟨w.heap.size, 0, none⟩))) ∧ BlkO w' w.heap.size [.int .i64 3, .int .i64 k] ∧ Below w.heap.size w w' := by
  go_enter Tryz.func49, Tryz.ntmps49
  go_wp2_with fail
  go_ret
  exact ⟨rfl, BlkO.new w #[.int .i64 3, .int .i64 k] 142, (Below.refl _ _).alloc (Nat.le_refl _) _⟩
theorem linesA_any (s : ByteArray) (w : World) : Calls Tryz.prog 47 #[.string s] w fun e w' =>
    e = .returned (.func (.func 83) #[] #[.pointer (some ⟨w.heap.size, 0, none⟩)]) ∧ Box w' w.heap.size (.string s) ∧ Keeps (fun _ => False) w w' ∧ w'.heap.size = w.heap.size + 1 := by
  go_enter Tryz.func47, Tryz.ntmps47
  go_wp2_with fail
  go_ret
  exact ⟨rfl, Box.new w _ _, (Keeps.refl _ w).alloc _, by simp⟩

def zeroP : Value := .agg #[.int .i64 0, .slice none 0 0]
/-- What Read tells. -/
def AnsAt (w' : World) (e : Ending) : Ans → Prop
  | .form k => ∃ b, e = .returned (.tuple #[zeroP, .iface 139 (.pointer (some ⟨b, 0, none⟩))]) ∧ w'.cell? ⟨b, 0, none⟩ = some (.int .i64 3) ∧ w'.cell? ⟨b, 1, none⟩ = some (.int .i64 (k : Nat))
  | .err n => e = .returned (.tuple #[zeroP, .iface 24 (.int .i64 (n : Nat))])
  | .ok p => ∃ v, e = .returned (.tuple #[v, .nilIface]) ∧ ProgAt w' v p

/-- Between two lines. -/
structure LineJ (w : World) (D rb pb eb : Nat) (rec : LoopState → Option Code → Loop) (xs : List (Nat × List (List UInt8))) (B2 k : Nat) (A : World) : Prop where
  ex : ∃ vf ρ gs st, RdO w.heap.size A rb vf ρ gs st ∧ runW (xs.take k) St0 = .ok st ∧ Bnd st k ∧ ∀ b, b < B2 → ρ b = .no
  loop : LoopAt A D rec .ready none
  p : BlkO A pb [.int .i64 0, .slice none 0 0]
  e : BlkO A eb [.nilIface]
  env : RdEnv A
  bel : Below w.heap.size w A
/-- A line that may not stand was come to. -/
structure LineX (w : World) (D pb eb : Nat) (rec : LoopState → Option Code → Loop) (xs : List (Nat × List (List UInt8))) (B2 : Nat) (A : World) : Prop where
  ex : ∃ (x : Nat × List (List UInt8)) (b : Nat), runW xs St0 = .error x.1 ∧ BlkO A eb [.iface 139 (.pointer (some ⟨b, 0, none⟩))] ∧ BlkO A b [.int .i64 3, .int .i64 (x.1 : Nat)] ∧ B2 ≤ b
  loop : LoopAt A D rec .done (some .ret)
  p : BlkO A pb [.int .i64 0, .slice none 0 0]
  bel : Below w.heap.size w A
theorem LineJ.keeps {w A A' : World} {D rb pb eb B1 B2 k : Nat} {rec : LoopState → Option Code → Loop} {xs : List (Nat × List (List UInt8))} (h : LineJ w D rb pb eb rec xs B2 k A) (hk : Keeps (Span B1 B2) A A') (h1 : D + 1 < B1) (h2 : rb < B1) (h3 : pb < B1) (h4 : eb < B1) (h5 : w.heap.size ≤ B1) (hE : RdEnv A') : LineJ w D rb pb eb rec xs B2 k A' := by
  obtain ⟨vf, ρ, gs, st, hR, hr, hb, hro⟩ := h.ex
  exact ⟨⟨vf, ρ, gs, st, hR.keeps hk (by unfold Span; omega) (fun b e => hro b e.2), hr, hb, hro⟩, h.loop.keeps hk (by unfold Span; omega) (by unfold Span; omega), h.p.keeps hk (by unfold Span; omega), h.e.keeps hk (by unfold Span; omega), hE,
    h.bel.trans (hk.below h.bel.size fun b _ e => by unfold Span at e; omega)⟩
theorem LineX.keeps {w A A' : World} {D pb eb B1 B2 : Nat} {rec : LoopState → Option Code → Loop} {xs : List (Nat × List (List UInt8))} (h : LineX w D pb eb rec xs B2 A) (hk : Keeps (Span B1 B2) A A') (h1 : D + 1 < B1) (h3 : pb < B1) (h4 : eb < B1) (h5 : w.heap.size ≤ B1) : LineX w D pb eb rec xs B2 A' := by
  obtain ⟨x, b, hr, he, hb, hlt⟩ := h.ex
  exact ⟨⟨x, b, hr, he.keeps hk (by unfold Span; omega), hb.keeps hk (by unfold Span; omega), hlt⟩, h.loop.keeps hk (by unfold Span; omega) (by unfold Span; omega), h.p.keeps hk (by unfold Span; omega),
    h.bel.trans (hk.below h.bel.size fun b _ e => by unfold Span at e; omega)⟩

/-- The variables that the reader reads lie below w's end. -/
theorem RdEnv.lt {w : World} (h : RdEnv w) : 1 < w.heap.size ∧ 0 < w.heap.size ∧ 3 < w.heap.size ∧ 10 < w.heap.size ∧ 9 < w.heap.size ∧ 7 < w.heap.size := by
  obtain ⟨_, _, h1⟩ := h.errR
  obtain ⟨_, _, h2⟩ := h.errS
  exact ⟨block_lt_of_cell (h.tabs.names 0 (by decide)), block_lt_of_cell (h.tabs.kinds 0 (by decide)), block_lt_of_cell (h.tabs.signs 0 (by decide)), block_lt_of_cell h1, block_lt_of_cell h2, h.pow.at⟩
theorem RdEnv.keeps {w w' : World} {S : Nat → Prop} (h : RdEnv w) (hk : Keeps S w w') (h1 : ¬ S 1) (h2 : ¬ S 0) (h3 : ¬ S 3) (h4 : ¬ S 10) (h5 : ¬ S 9) (h6 : ¬ S 7) : RdEnv w' := by
  refine ⟨⟨fun n hn => hk.cell_of (h.tabs.names n hn) h1, fun n hn => hk.cell_of (h.tabs.kinds n hn) h2, fun n hn => hk.cell_of (h.tabs.signs n hn) h3⟩, h.pow.keeps hk h6, ?_, ?_⟩
  · obtain ⟨tp, p, hc⟩ := h.errR
    exact ⟨tp, p, hk.cell_of hc h4⟩
  · obtain ⟨tp, p, hc⟩ := h.errS
    exact ⟨tp, p, hk.cell_of hc h5⟩
/-- Where nothing below w's end has turned. -/
theorem RdEnv.from {w W : World} (h : RdEnv w) (hb : Below w.heap.size w W) : RdEnv W := h.below hb

set_option maxRecDepth 100000 in
set_option maxHeartbeats 6400000 in
theorem read_long (s : ByteArray) (w : World) (hs : 60000 < s.size) :
    Calls Tryz.prog 13 #[.string s] w fun e w' => AnsAt w' e (readA s.data.toList) ∧ Below w.heap.size w w' := by
  rw [readA_long (by rw [size_data]; exact hs)]
  have hsi : (60000 : Int) < (s.size : Int) := by omega
  have HX := Lib.hid ((BlkO.new w #[.int .i64 0, .slice none 0 0] 30).keeps ((Keeps.refl (fun _ => False) _).alloc (.cells #[.nilIface] 34)) id)
  have HY : Hid (BlkO ((w.alloc (.cells #[.int .i64 0, .slice none 0 0] 30)).alloc (.cells #[.nilIface] 34)) (w.heap.size + 1) [.nilIface]) := Lib.hid (by
    have := BlkO.new (w.alloc (.cells #[.int .i64 0, .slice none 0 0] 30)) #[.nilIface] 34
    rwa [show (w.alloc (.cells #[.int .i64 0, .slice none 0 0] 30)).heap.size = w.heap.size + 1 by simp] at this)
  have hb : Below w.heap.size w ((w.alloc (.cells #[.int .i64 0, .slice none 0 0] 30)).alloc (.cells #[.nilIface] 34)) := ((Below.refl _ w).alloc (Nat.le_refl _) _).alloc (by simp) _
  have HB := Lib.hid hb
  clear hb hs
  go_enter Tryz.func13, Tryz.ntmps13
  go_upto_region 2 with fail
  generalize (w.alloc (.cells #[.int .i64 0, .slice none 0 0] 30)).alloc (.cells #[.nilIface] 34) = w2 at *
  have z0 := HX.out.at_ 0 _ rfl
  have z1 := HX.out.at_ 1 _ rfl
  have y0 := HX.out.free 0
  have y1 := HX.out.free 1
  have x0 := HY.out.at_ 0 _ rfl
  have v0 := HY.out.free 0
  have hk1 := (own_set w2 w.heap.size 0 (.int .i64 0)).trans (own_set _ w.heap.size 1 (.slice none 0 0))
  have HP := (HX.out.set 0 (.int .i64 0) (show 0 < 2 by decide)).set 1 (.slice none 0 0) (show 1 < 2 by decide)
  have HE := HY.out.keeps hk1 (by omega)
  have HP2 := HP.keeps (own_set _ (w.heap.size + 1) 0 (.iface 24 (.int .i64 4))) (by omega)
  have HE2 := HE.set 0 (.iface 24 (.int .i64 4)) (show 0 < 1 by decide)
  have r0 := HP2.at_ 0 _ rfl
  have r1 := HP2.at_ 1 _ rfl
  have q0 := HE2.at_ 0 _ rfl
  have e0 := HE.at_ 0 _ rfl
  have e1 := HE.free 0
  clear hk1 HP HE HP2 HE2
  go_wp2_with fail
  refine bodyPost_ret (v := .tuple #[zeroP, .iface 24 (.int .i64 4)]) (by simp [zeroP, results, Tryz.results13, go_sem, r0, r1, q0] <;> first | rfl | omega) rfl ?_
  exact ⟨rfl, ((HB.out.setCell (p := ⟨w.heap.size, 0, none⟩) (Nat.le_refl _) _).setCell (p := ⟨w.heap.size, 1, none⟩) (Nat.le_refl _) _).setCell (p := ⟨w.heap.size + 1, 0, none⟩) (Nat.le_succ _) _⟩
end Go.Proofs.YtkeglkneobngnaaGreatDoor

namespace Go.Proofs.YtkeglkneobngnaaGreatDoor
open Go.RowKit Go.Shelf Cd As
attribute [local go_sem] Oper.semAt_some

theorem not_loop {A : World} {l : Nat} {r : Loop} {p : Addr} {v : Value} (h : A.heap[l]? = some (.loop r)) (hc : A.cell? p = some v) : p.block ≠ l := by
  intro e
  unfold World.cell? at hc
  rw [e, h] at hc
  simp at hc
theorem StrsAt.turn {A : World} {v : Value} {l : List ByteArray} {d : Nat} {r : Loop} (h : StrsAt A v l) (hl : A.heap[d]? = some (.loop r)) (o : Obj) : StrsAt (A.putObj d o) v l := by
  obtain ⟨ao, n, cap, hv, hn, hc, hm, hx⟩ := h
  refine ⟨ao, n, cap, hv, hn, hc, hm, fun h0 => ?_⟩
  obtain ⟨b, o2, h1, h2, h3⟩ := hx h0
  have hk := keeps_putObj A d o
  exact ⟨b, o2, h1, Nat.lt_of_lt_of_le h2 hk.size, fun i x hi => hk.cell_of (h3 i x hi) (not_loop hl (h3 i x hi))⟩

set_option maxRecDepth 100000 in
set_option maxHeartbeats 12800000 in
theorem read_short (s : ByteArray) (w : World) (hs : s.size ≤ 60000) (hE : RdEnv w) :
    Calls Tryz.prog 13 #[.string s] w fun e w' => AnsAt w' e (readA s.data.toList) ∧ Below w.heap.size w w' := by
  have hsi : ¬ (60000 : Int) < (s.size : Int) := by omega
  have hsl : s.data.toList.length ≤ 60000 := by rw [size_data]; exact hs
  obtain ⟨a, ha⟩ : ∃ a, a = readA s.data.toList := ⟨_, rfl⟩
  obtain ⟨xs, hxs⟩ : ∃ xs, xs = linesW (cutAt 10 s.data.toList) 0 := ⟨_, rfl⟩
  have HA := Lib.hid ha
  have HXS := Lib.hid hxs
  have HXL : Hid (xs.length ≤ 60001) := Lib.hid (by
    rw [hxs]
    have h1 := linesW_len (L := cutAt 10 s.data.toList) 0
    have h2 := cutAt_len 10 s.data.toList
    omega)
  rw [← ha]
  have HX0 := Lib.hid ((BlkO.new w #[.int .i64 0, .slice none 0 0] 30).keeps ((Keeps.refl (fun _ => False) _).alloc (.cells #[.nilIface] 34)) id)
  have HY0 : Hid (BlkO ((w.alloc (.cells #[.int .i64 0, .slice none 0 0] 30)).alloc (.cells #[.nilIface] 34)) (w.heap.size + 1) [.nilIface]) := Lib.hid (by
    have := BlkO.new (w.alloc (.cells #[.int .i64 0, .slice none 0 0] 30)) #[.nilIface] 34
    rwa [show (w.alloc (.cells #[.int .i64 0, .slice none 0 0] 30)).heap.size = w.heap.size + 1 by simp] at this)
  have HZ0 : Hid (BlkO (((w.alloc (.cells #[.int .i64 0, .slice none 0 0] 30)).alloc (.cells #[.nilIface] 34)).alloc (.cells #[.int .i64 0, .slice none 0 0, .bool false] 99)) (w.heap.size + 2) [.int .i64 0, .slice none 0 0, .bool false]) := Lib.hid (by
    have := BlkO.new ((w.alloc (.cells #[.int .i64 0, .slice none 0 0] 30)).alloc (.cells #[.nilIface] 34)) #[.int .i64 0, .slice none 0 0, .bool false] 99
    rwa [show ((w.alloc (.cells #[.int .i64 0, .slice none 0 0] 30)).alloc (.cells #[.nilIface] 34)).heap.size = w.heap.size + 2 by simp] at this)
  have HK0 : Hid (Keeps (fun _ => False) ((w.alloc (.cells #[.int .i64 0, .slice none 0 0] 30)).alloc (.cells #[.nilIface] 34)) (((w.alloc (.cells #[.int .i64 0, .slice none 0 0] 30)).alloc (.cells #[.nilIface] 34)).alloc (.cells #[.int .i64 0, .slice none 0 0, .bool false] 99)) ∧
      Below w.heap.size w (((w.alloc (.cells #[.int .i64 0, .slice none 0 0] 30)).alloc (.cells #[.nilIface] 34)).alloc (.cells #[.int .i64 0, .slice none 0 0, .bool false] 99)) ∧
      (((w.alloc (.cells #[.int .i64 0, .slice none 0 0] 30)).alloc (.cells #[.nilIface] 34)).alloc (.cells #[.int .i64 0, .slice none 0 0, .bool false] 99)).heap.size = w.heap.size + 3) := Lib.hid
    ⟨(Keeps.refl _ _).alloc _, (((Below.refl _ w).alloc (Nat.le_refl _) _).alloc (by simp) _).alloc (by simp; omega) _, by simp⟩
  have HE := Lib.hid hE
  clear ha hxs hE
  refine (callsIn_wide (n := 9)).1 (callsIn_of_wp_marks Tryz.func13 rfl trivial ?_ rfl)
  simp only [Tryz.ntmps13, List.size_toArray, List.length_cons, List.length_nil, Nat.reduceAdd, Nat.reduceSub, Array.replicate_succ, Array.replicate_zero, List.push_toArray, List.append_toArray, List.nil_append, List.cons_append]
  refine wpIn_wide.2 ?_
  go_upto_region 4 with fail
  generalize ((w.alloc (.cells #[.int .i64 0, .slice none 0 0] 30)).alloc (.cells #[.nilIface] 34)).alloc (.cells #[.int .i64 0, .slice none 0 0, .bool false] 99) = w3 at *
  generalize (w.alloc (.cells #[.int .i64 0, .slice none 0 0] 30)).alloc (.cells #[.nilIface] 34) = w2 at *
  go_wp2_with fail
  refine (linesA_any s w3).mono ?_
  rintro e w4 ⟨rfl, hbx, hk4, hsz4⟩
  obtain ⟨rb, hrb⟩ : ∃ rb, rb = w.heap.size + 1 + 1 := ⟨_, rfl⟩
  rw [← hrb]
  have HNUM : Hid (rb = w.heap.size + 2 ∧ w3.heap.size = w.heap.size + 3 ∧ w4.heap.size = w.heap.size + 4) := Lib.hid ⟨by omega, HK0.out.2.2, by rw [hsz4, HK0.out.2.2]⟩
  have HBX := Lib.hid hbx
  have HK4 := Lib.hid hk4
  clear hrb hbx hk4 hsz4
  go_wp2_with fail
  refine (wpIn_wide (n := 9)).1 (wpIn_range_T rfl (by decide) (gf := 83) (lb := #[.pointer (some ⟨w3.heap.size, 0, none⟩)]) rfl trivial (enters_of Tryz.func83 (by kernel_rfl) rfl) ?_)
  intro fn rec W1 hfn hrec hl0 hk1 hsz1
  obtain ⟨D, hD⟩ : ∃ D, D = w4.heap.size := ⟨_, rfl⟩
  rw [← hD] at hrec hl0 hsz1 ⊢
  have HN1 : Hid (D = w.heap.size + 4 ∧ W1.heap.size = w.heap.size + 6 ∧ rb = w.heap.size + 2) := Lib.hid (by have := HNUM.out; omega)
  clear hD hsz1
  have HREC := Lib.hid hrec
  have HBX1 := Lib.hid (HBX.out.keeps hk1 id)
  have HKK : Hid (Keeps (fun _ => False) w3 W1) := Lib.hid (HK4.out.trans hk1)
  have HP1 : Hid (BlkO W1 w.heap.size [.int .i64 0, .slice none 0 0]) := Lib.hid ((HX0.out.keeps HK0.out.1 id).keeps HKK.out id)
  have HE1 : Hid (BlkO W1 (w.heap.size + 1) [.nilIface]) := Lib.hid ((HY0.out.keeps HK0.out.1 id).keeps HKK.out id)
  have HR1 : Hid (BlkO W1 rb [.int .i64 0, .slice none 0 0, .bool false]) := Lib.hid (by have := HZ0.out.keeps HKK.out id; rwa [← HN1.out.2.2] at this)
  have HBL1 : Hid (Below w.heap.size w W1) := Lib.hid (HK0.out.2.1.trans (HKK.out.below HK0.out.2.1.size fun _ _ e => e.elim))
  have HL0 := Lib.hid hl0
  clear hrec hl0 hk1
  have hcar : (#[Value.func (.yield (D + 1)) #[] #[]] ++ #[Value.pointer (some ⟨w3.heap.size, 0, none⟩)] : Array Value) = #[Value.func (.yield (D + 1)) #[] #[], Value.pointer (some ⟨w3.heap.size, 0, none⟩)] := rfl
  rw [hcar]
  have HENV : Hid (∀ A, Below w.heap.size w A → RdEnv A) := Lib.hid fun A h => HE.out.below h
  refine (lines1_in (9 - 1) (by decide) (D + 1) w3.heap.size s hs W1 HBX1.out (fun B2 k A => LineJ w D rb w.heap.size (w.heap.size + 1) rec xs B2 k A) (fun B2 _ A => LineX w D w.heap.size (w.heap.size + 1) rec xs B2 A) ?hJ ?hJx ?hY ?h0).mono ?_
  case hJ =>
    intro B2 k A A' hB hj hk
    have hnum := HN1.out
    have hE' : RdEnv A' := HENV.out A' (hj.bel.trans (hk.below hj.bel.size fun b _ e => by unfold Span at e; omega))
    exact hj.keeps hk (by omega) (by omega) (by omega) (by omega) (by omega) hE'
  case hJx =>
    intro B2 k A A' hB hj hk
    have hnum := HN1.out
    exact hj.keeps hk (by omega) (by omega) (by omega) (by omega)
  case h0 =>
    intro A hk
    refine ⟨⟨_, fun _ => .no, [], St0, ⟨HR1.out.keeps hk id, rfl, World.ownsRow_nil _ _ _ _, fun b e => (by cases e), fun i g h => (by cases h), fun i g h => (by cases h), fun i g h => (by cases h), fun i g h => (by cases h), fun _ _ => rfl, rfl, by have := HN1.out; omega⟩, rfl, bnd_zero, fun _ _ => rfl⟩,
      HL0.out.keeps hk id id, HP1.out.keeps hk id, HE1.out.keeps hk id, ?_, ?_⟩
    · exact HENV.out A (HBL1.out.trans (hk.below HBL1.out.size fun _ _ e => e.elim))
    · exact HBL1.out.trans (hk.below HBL1.out.size fun _ _ e => e.elim)
  case hY =>
    rintro m B2 k x v ss A hB hBA hxk hst hws hft hj
    rw [← HXS.out] at hxk
    have hxne : x.2 ≠ [] := linesW_ne (k := 0) (L := cutAt 10 s.data.toList) (by rw [← HXS.out]; exact List.mem_of_getElem? hxk)
    obtain ⟨x0, l, rfl⟩ : ∃ x0 l, ss = x0 :: l := by
      cases ss with
      | nil => exact absurd hws.symm hxne
      | cons x0 l => exact ⟨x0, l, rfl⟩
    obtain ⟨vf, ρ, gs, st, hR, hrun, hbnd, hro⟩ := hj.ex
    have hnum := HN1.out
    have hkl := (List.getElem?_eq_some_iff.1 hxk).1
    have hk6 : k ≤ 60001 := by have := HXL.out; omega
    have hk2 := keeps_putObj A (D + 1) (.loop (rec .busy none))
    have HST := Lib.hid (hst.turn hj.loop.at_ (.loop (rec .busy none)))
    have HRO := Lib.hid (hR.keeps hk2 (show ¬ rb = D + 1 by omega) (fun b e => hro b (by omega)))
    have HLP := Lib.hid (hj.loop.turn .busy none)
    have HPP := Lib.hid (hj.p.keeps hk2 (show ¬ w.heap.size = D + 1 by omega))
    have HEE := Lib.hid (hj.e.keeps hk2 (show ¬ w.heap.size + 1 = D + 1 by omega))
    have HBL : Hid (Below w.heap.size w (A.putObj (D + 1) (.loop (rec .busy none)))) := Lib.hid (hj.bel.trans (hk2.below hj.bel.size fun b _ e => by omega))
    have HFN : Hid (∀ g ∈ gs, g.1.code.length ≤ 200000) := Lib.hid fun g hg => by
      have h1 : g.1 ∈ st.p.fns := by rw [hR.fns]; exact List.mem_map_of_mem hg
      have h2 := code_le h1
      have h3 := hbnd.1
      omega
    have HGL : Hid (gs.length ≤ 200000) := Lib.hid (by
      have h1 := congrArg List.length hR.fns
      rw [List.length_map] at h1
      have h3 := hbnd.2
      omega)
    have HRUN := Lib.hid hrun
    have HBND := Lib.hid hbnd
    have HRHO := Lib.hid hro
    have HWS := Lib.hid hws
    have HK2 : Hid (Keeps (fun b => ¬ Span W1.heap.size B2 b) A (A.putObj (D + 1) (.loop (rec .busy none))) ∧ B2 ≤ (A.putObj (D + 1) (.loop (rec .busy none))).heap.size) := Lib.hid ⟨hk2.mono fun b _ e => by unfold Span; omega, Nat.le_trans hBA hk2.size⟩
    have HXK := Lib.hid hxk
    have HJL := Lib.hid hj.loop
    clear hj hR hrun hbnd hro hst hws hk2 hxk hxne hnum hkl
    refine yield_round HREC.out HJL.out hfn rfl ?_
    gi_wp2
    refine ⟨HJL.out, ?_⟩
    clear HJL
    generalize A.putObj (D + 1) (.loop (rec .busy none)) = A1 at *
    have HRD := Lib.hid (read_any v x0 l HST.out hft (HENV.out _ HBL.out) HRO.out HFN.out HGL.out)
    clear hft
    gi_wp2
    refine ⟨trivial, fun h => (by cases h), (CallsIn.inRound (D + 1) (callsIn_wide.2 HRD.out)).mono ?_⟩
    rintro e A2 hs2
    have he := hs2.ret
    subst he
    have HS2 := Lib.hid hs2
    clear hs2
    have HRK : Hid (Keeps (fun b => ¬ Span W1.heap.size B2 b) A1 A2) := Lib.hid (HS2.out.kp.mono fun b _ e => by
      intro hsp
      rcases e with e | e
      · have := HN1.out; unfold Span at hsp; omega
      · exact e (HRHO.out b hsp.2))
    have hnot : ∀ b, b < B2 → b ≠ rb → ¬ RdS rb ρ b := fun b h1 h2 e => by
      rcases e with e | e
      · exact h2 e
      · exact e (HRHO.out b h1)
    have hnum := HN1.out
    have HLP2 := Lib.hid (HLP.out.keeps HS2.out.kp (hnot D (by omega) (by omega)) (hnot (D + 1) (by omega) (by omega)))
    have HPP2 := Lib.hid (HPP.out.keeps HS2.out.kp (hnot _ (by omega) (by omega)))
    have HEE2 := Lib.hid (HEE.out.keeps HS2.out.kp (hnot _ (by omega) (by omega)))
    have HBL2 : Hid (Below w.heap.size w A2) := Lib.hid (HBL.out.trans (HS2.out.kp.below HBL.out.size fun b _ e => by
      rcases e with e | e
      · omega
      · rcases Nat.lt_or_ge b B2 with h1 | h1
        · exact absurd (HRHO.out b h1) e
        · omega))
    have HA2B : Hid (B2 ≤ A2.heap.size) := Lib.hid (Nat.le_trans HK2.out.2 HRK.out.size)
    clear hnot hnum
    cases hrd : rdLine (wsL (x0 :: l)) st with
    | some st2 =>
      obtain ⟨vf2, ρ2, gs2, hR2, hro2⟩ := HS2.out.st st2 hrd
      have HNX : Hid (runW (xs.take (k + 1)) St0 = .ok st2) := Lib.hid (runW_next HRUN.out HXK.out (by rw [← HWS.out]; exact hrd))
      have HBN : Hid (Bnd st2 (k + 1)) := Lib.hid (bnd_next HBND.out hrd)
      have HR2 := Lib.hid hR2
      have HRO2 : Hid (∀ b, b < B2 → ρ2 b = .no) := Lib.hid fun b hb => hro2 b (Nat.lt_of_lt_of_le hb HK2.out.2) (HRHO.out b hb)
      clear hR2 hro2 hrd
      simp only [Option.isSome_some]
      gi_wp2
      have hk5 := keeps_putObj A2 (D + 1) (.loop (rec .ready none))
      have hnum := HN1.out
      have hbel : Below w.heap.size w (A2.putObj (D + 1) (.loop (rec .ready none))) := HBL2.out.trans (hk5.below HBL2.out.size fun b _ e => by omega)
      refine ⟨HLP2.out, Or.inl ⟨rfl, ⟨⟨vf2, ρ2, gs2, st2, HR2.out.keeps hk5 (show ¬ rb = D + 1 by omega) (fun b e => HRO2.out b (by omega)), HNX.out, HBN.out, HRO2.out⟩, HLP2.out.turn .ready none, HPP2.out.keeps hk5 (show ¬ w.heap.size = D + 1 by omega), HEE2.out.keeps hk5 (show ¬ w.heap.size + 1 = D + 1 by omega), HENV.out _ hbel, hbel⟩, ?_⟩⟩
      exact (HK2.out.1.trans HRK.out).trans (hk5.mono fun b _ e => by unfold Span; omega)
    | none =>
      have HST2 : Hid (runW xs St0 = .error x.1) := Lib.hid (runW_stop HRUN.out HXK.out (by rw [← HWS.out]; exact hrd))
      clear hrd
      simp only [Option.isSome_none]
      have HWR := Lib.hid (wrongA_any (x.1 : Int) A2)
      gi_wp2
      refine ⟨trivial, fun h => (by cases h), (CallsIn.inRound (D + 1) (callsIn_wide.2 HWR.out)).mono ?_⟩
      rintro e A3 ⟨rfl, hat, hb3⟩
      have hk3 : Keeps (fun _ => False) A2 A3 := Keeps.of_new hb3
      have HPP3 := Lib.hid (HPP2.out.keeps hk3 id)
      have HEE3 := Lib.hid (HEE2.out.keeps hk3 id)
      have HLP3 := Lib.hid (HLP2.out.keeps hk3 id id)
      have HAT := Lib.hid hat
      have HK3 := Lib.hid hk3
      obtain ⟨ab, hab⟩ : ∃ ab, ab = A2.heap.size := ⟨_, rfl⟩
      have HAB : Hid (B2 ≤ ab) := Lib.hid (by rw [hab]; exact HA2B.out)
      rw [← hab] at HAT ⊢
      clear hat hb3 hk3 hab
      have z0 := HPP3.out.at_ 0 _ rfl
      have z1 := HPP3.out.at_ 1 _ rfl
      have y0 := HPP3.out.free 0
      have y1 := HPP3.out.free 1
      have hk4 := (own_set A3 w.heap.size 0 (.int .i64 0)).trans (own_set _ w.heap.size 1 (.slice none 0 0))
      have HP4 := Lib.hid ((HPP3.out.set 0 (.int .i64 0) (show 0 < 2 by decide)).set 1 (.slice none 0 0) (show 1 < 2 by decide))
      have HE4 := Lib.hid (HEE3.out.keeps hk4 (by omega))
      have e0 := HE4.out.at_ 0 _ rfl
      have e1 := HE4.out.free 0
      have hk5 := own_set ((A3.setCell ⟨w.heap.size, 0, none⟩ (.int .i64 0)).setCell ⟨w.heap.size, 1, none⟩ (.slice none 0 0)) (w.heap.size + 1) 0 (.iface 139 (.pointer (some ⟨ab, 0, none⟩)))
      have HK45 : Hid (Keeps (fun b => b = w.heap.size ∨ b = w.heap.size + 1) A3 (((A3.setCell ⟨w.heap.size, 0, none⟩ (.int .i64 0)).setCell ⟨w.heap.size, 1, none⟩ (.slice none 0 0)).setCell ⟨w.heap.size + 1, 0, none⟩ (.iface 139 (.pointer (some ⟨ab, 0, none⟩))))) := Lib.hid
        ((hk4.mono fun b _ e => Or.inl e).trans (hk5.mono fun b _ e => Or.inr e))
      have HP5 := Lib.hid (HP4.out.keeps hk5 (by omega))
      have HE5 := Lib.hid (HE4.out.set 0 (.iface 139 (.pointer (some ⟨ab, 0, none⟩))) (show 0 < 1 by decide))
      clear hk4 hk5
      gi_wp2
      generalize ((A3.setCell ⟨w.heap.size, 0, none⟩ (.int .i64 0)).setCell ⟨w.heap.size, 1, none⟩ (.slice none 0 0)).setCell ⟨w.heap.size + 1, 0, none⟩ (.iface 139 (.pointer (some ⟨ab, 0, none⟩))) = A5 at *
      have hnum := HN1.out
      have hlp5 := HLP3.out.keeps HK45.out (show ¬ (D = w.heap.size ∨ D = w.heap.size + 1) by omega) (show ¬ (D + 1 = w.heap.size ∨ D + 1 = w.heap.size + 1) by omega)
      have hk6 := keeps_putObj A5 (D + 1) (.loop (rec .done (some .ret)))
      have hat5 := HAT.out.keeps HK45.out (show ¬ (ab = w.heap.size ∨ ab = w.heap.size + 1) by have := HAB.out; omega)
      have hbel3 : Below w.heap.size w A3 := HBL2.out.trans (HK3.out.below HBL2.out.size fun _ _ e => e.elim)
      have hbel5 : Below w.heap.size w A5 := hbel3.trans (HK45.out.below hbel3.size fun b _ e => by omega)
      refine ⟨hlp5, Or.inr ⟨rfl, ⟨⟨x, ab, HST2.out, HE5.out.keeps hk6 (show ¬ w.heap.size + 1 = D + 1 by omega), hat5.keeps hk6 (show ¬ ab = D + 1 by have := HAB.out; omega), HAB.out⟩, hlp5.turn .done (some .ret), HP5.out.keeps hk6 (show ¬ w.heap.size = D + 1 by omega), hbel5.trans (hk6.below hbel5.size fun b _ e => by omega)⟩, ?_⟩⟩
      exact (((HK2.out.1.trans HRK.out).trans (HK3.out.mono fun _ _ e => e.elim)).trans (HK45.out.mono fun b _ e => by unfold Span; omega)).trans (hk6.mono fun b _ e => by unfold Span; omega)
  · rintro e w5 ⟨⟨v, rfl⟩, B2, hB2, hcase⟩
    refine ⟨⟨v, rfl⟩, ?_⟩
    rcases hcase with hj | ⟨k, _, hx⟩
    · refine Or.inl ⟨hj.loop, ?_⟩
      rw [← HXS.out] at hj
      obtain ⟨vf, ρ, gs, st, hR, hrun, hbnd, hro⟩ := hj.ex
      rw [List.take_length] at hrun
      have hnum := HN1.out
      have hk6 := keeps_putObj w5 (D + 1) (.loop (rec .exhausted none))
      have HCO := Lib.hid (hj.loop.turn .exhausted none).coll
      have HRO := Lib.hid (hR.keeps hk6 (show ¬ rb = D + 1 by omega) (fun b e => hro b (by omega)))
      have HPP := Lib.hid (hj.p.keeps hk6 (show ¬ w.heap.size = D + 1 by omega))
      have HEE := Lib.hid (hj.e.keeps hk6 (show ¬ w.heap.size + 1 = D + 1 by omega))
      have HBL : Hid (Below w.heap.size w (w5.putObj (D + 1) (.loop (rec .exhausted none)))) := Lib.hid (hj.bel.trans (hk6.below hj.bel.size fun b _ e => by omega))
      have HDN : Hid (a = if st.begun then (if progE st.p = 0 then .ok st.p else .err (progE st.p)) else .form (1 + s.data.toList.count 10)) := Lib.hid (by rw [HA.out]; exact readA_done hsl (by rw [← HXS.out]; exact hrun))
      have HRD : Hid (ρ D = .no) := Lib.hid (hro D (by omega))
      have HRN : Hid (ρ w.heap.size = .no ∧ ρ (w.heap.size + 1) = .no) := Lib.hid ⟨hro _ (by omega), hro _ (by omega)⟩
      clear hj hR hrun hbnd hro hk6 hnum
      generalize w5.putObj (D + 1) (.loop (rec .exhausted none)) = w6 at *
      have r2 := HRO.out.blk.at_ 2 _ rfl
      -- how a tale is handed back: the two result cells, at the end
      have HOUT : Hid (∀ (A : World), A.heap[D]? = some (.deferred (some [])) → Below w.heap.size w A → Keeps (fun b => b = D) A (A.putObj D (.deferred none)) ∧ Below w.heap.size w (A.putObj D (.deferred none))) := Lib.hid fun A hA hb => by
        have hk := keeps_putObj A D (.deferred none)
        exact ⟨hk, hb.trans (hk.below hb.size fun b _ e => by have := HN1.out; omega)⟩
      have hnum := HN1.out
      have HNE : Hid (w.heap.size ≠ D ∧ w.heap.size + 1 ≠ D ∧ D < w6.heap.size) := Lib.hid ⟨by omega, by omega, (Array.getElem?_eq_some_iff.1 HCO.out).1⟩
      clear hnum
      obtain ⟨bg, hbg⟩ : ∃ bg, bg = st.begun := ⟨_, rfl⟩
      have HBG := Lib.hid hbg
      rw [← hbg] at r2
      clear hbg
      cases bg with
      | false =>
        have HFORM : Hid (a = .form (1 + s.data.toList.count 10)) := Lib.hid (by rw [HDN.out, ← HBG.out]; rfl)
        have HCT := Lib.hid (Tryz.strings_Count_one s 10 w6)
        have hcnt : s.data.toList.count 10 ≤ 60000 := Nat.le_trans List.count_le_length hsl
        obtain ⟨ct, hct⟩ : ∃ ct, ct = s.data.toList.count 10 := ⟨_, rfl⟩
        have HCT2 : Hid (Calls Tryz.prog 50 #[.string s, .string ⟨#[10]⟩] w6 fun e w' => e = .returned (.int .i64 (ct : Nat)) ∧ w' = w6) := Lib.hid (by rw [hct]; exact HCT.out)
        rw [← hct] at hcnt HFORM
        clear hct HCT
        have hw1 : IntKind.i64.wrap (1 + (ct : Int)) = 1 + (ct : Int) := by rw [IntKind.wrap_i64]; omega
        have HWR := Lib.hid (wrongA_any (1 + (ct : Int)) w6)
        go_wp2_with fail
        refine HCT2.out.mono ?_
        rintro e w7 ⟨rfl, hw7⟩
        have hw8 := hw7.symm
        subst hw8
        clear hw7
        go_wp2_with fail
        refine HWR.out.mono ?_
        rintro e w7 ⟨rfl, hat, hb7⟩
        have hk7 : Keeps (fun _ => False) w6 w7 := Keeps.of_new hb7
        have HPP7 := Lib.hid (HPP.out.keeps hk7 id)
        have HEE7 := Lib.hid (HEE.out.keeps hk7 id)
        have HAT := Lib.hid hat
        have HCO7 : Hid (w7.heap[D]? = some (.deferred (some []))) := Lib.hid ((hk7.block D HNE.out.2.2 id).trans HCO.out)
        have HBL7 : Hid (Below w.heap.size w w7) := Lib.hid (HBL.out.trans (hk7.below HBL.out.size fun _ _ e => e.elim))
        obtain ⟨ab, hab⟩ : ∃ ab, ab = w6.heap.size := ⟨_, rfl⟩
        have HAB : Hid (ab ≠ D ∧ ab ≠ w.heap.size ∧ ab ≠ w.heap.size + 1) := Lib.hid (by have := HNE.out; have := HEE.out.lt; have := HPP.out.lt; omega)
        rw [← hab] at HAT ⊢
        clear hat hb7 hk7 hab r2
        have z0 := HPP7.out.at_ 0 _ rfl
        have z1 := HPP7.out.at_ 1 _ rfl
        have y0 := HPP7.out.free 0
        have y1 := HPP7.out.free 1
        have hk4 := (own_set w7 w.heap.size 0 (.int .i64 0)).trans (own_set _ w.heap.size 1 (.slice none 0 0))
        have HP4 := Lib.hid ((HPP7.out.set 0 (.int .i64 0) (show 0 < 2 by decide)).set 1 (.slice none 0 0) (show 1 < 2 by decide))
        have HE4 := Lib.hid (HEE7.out.keeps hk4 (by omega))
        have e0 := HE4.out.at_ 0 _ rfl
        have e1 := HE4.out.free 0
        have hk5 := own_set ((w7.setCell ⟨w.heap.size, 0, none⟩ (.int .i64 0)).setCell ⟨w.heap.size, 1, none⟩ (.slice none 0 0)) (w.heap.size + 1) 0 (.iface 139 (.pointer (some ⟨ab, 0, none⟩)))
        have HK45 : Hid (Keeps (fun b => b = w.heap.size ∨ b = w.heap.size + 1) w7 (((w7.setCell ⟨w.heap.size, 0, none⟩ (.int .i64 0)).setCell ⟨w.heap.size, 1, none⟩ (.slice none 0 0)).setCell ⟨w.heap.size + 1, 0, none⟩ (.iface 139 (.pointer (some ⟨ab, 0, none⟩))))) := Lib.hid
          ((hk4.mono fun b _ e => Or.inl e).trans (hk5.mono fun b _ e => Or.inr e))
        have HP5 := Lib.hid (HP4.out.keeps hk5 (by omega))
        have HE5 := Lib.hid (HE4.out.set 0 (.iface 139 (.pointer (some ⟨ab, 0, none⟩))) (show 0 < 1 by decide))
        clear hk4 hk5
        go_wp2_with fail
        generalize ((w7.setCell ⟨w.heap.size, 0, none⟩ (.int .i64 0)).setCell ⟨w.heap.size, 1, none⟩ (.slice none 0 0)).setCell ⟨w.heap.size + 1, 0, none⟩ (.iface 139 (.pointer (some ⟨ab, 0, none⟩))) = w8 at *
        have hne := HNE.out
        have hne2 := HAB.out
        have hco8 : w8.heap[D]? = some (.deferred (some [])) := (HK45.out.block D (Array.getElem?_eq_some_iff.1 HCO7.out).1 (by omega)).trans HCO7.out
        have hbl8 : Below w.heap.size w w8 := HBL7.out.trans (HK45.out.below HBL7.out.size fun b _ e => by omega)
        obtain ⟨hk9, hb9⟩ := HOUT.out w8 hco8 hbl8
        have hp9 := HP5.out.keeps hk9 (by omega)
        have he9 := HE5.out.keeps hk9 (by omega)
        have ha9 := (HAT.out.keeps HK45.out (by omega)).keeps hk9 (by omega)
        have r0 := hp9.at_ 0 _ rfl
        have r1 := hp9.at_ 1 _ rfl
        have q0 := he9.at_ 0 _ rfl
        clear hne hne2
        refine ⟨by simp, .inl ⟨_, _, rfl, run_takeDeferred hco8, ?_⟩⟩
        refine ⟨.tuple #[zeroP, .iface 139 (.pointer (some ⟨ab, 0, none⟩))], (by simp [zeroP, results, Tryz.f13, go_sem, r0, r1, q0] <;> first | rfl | omega), ?_, hb9⟩
        rw [HFORM.out]
        exact ⟨ab, rfl, ha9.at_ 0 _ rfl, by rw [Int.natCast_add]; exact ha9.at_ 1 _ rfl⟩
      | true =>
        have HANS : Hid (a = if progE st.p = 0 then .ok st.p else .err (progE st.p)) := Lib.hid (by rw [HDN.out, ← HBG.out]; rfl)
        obtain ⟨a0, c0, hv0⟩ := slice_of_own HRO.out.row
        obtain ⟨gl, hgl⟩ : ∃ gl, gl = gs.length := ⟨_, rfl⟩
        rw [← hgl] at hv0
        subst hv0
        clear hgl
        have r0 := HRO.out.blk.at_ 0 _ rfl
        have r1 := HRO.out.blk.at_ 1 _ rfl
        have HPG := Lib.hid HRO.out.prog
        have HRT := Lib.hid (right_any st.p _ w6 HPG.out)
        go_wp2_with fail
        refine HRT.out.mono ?_
        rintro e w7 ⟨rfl, hb7⟩
        have hk7 : Keeps (fun _ => False) w6 w7 := Keeps.of_new hb7
        have HPP7 := Lib.hid (HPP.out.keeps hk7 id)
        have HEE7 := Lib.hid (HEE.out.keeps hk7 id)
        have HRO7 := Lib.hid (HRO.out.keeps hk7 id (fun _ e => e.elim))
        have HCO7 : Hid (w7.heap[D]? = some (.deferred (some []))) := Lib.hid ((hk7.block D HNE.out.2.2 id).trans HCO.out)
        have HBL7 : Hid (Below w.heap.size w w7) := Lib.hid (HBL.out.trans (hk7.below HBL.out.size fun _ _ e => e.elim))
        clear hb7 hk7 r0 r1 r2
        have z0 := HPP7.out.at_ 0 _ rfl
        have z1 := HPP7.out.at_ 1 _ rfl
        have y0 := HPP7.out.free 0
        have y1 := HPP7.out.free 1
        by_cases hp : progE st.p = 0
        · have HOK : Hid (a = .ok st.p) := Lib.hid (by rw [HANS.out, if_pos hp])
          rw [hp, errV_0]
          clear hp HANS
          have s0 := HRO7.out.blk.at_ 0 _ rfl
          have s1 := HRO7.out.blk.at_ 1 _ rfl
          have hk4 := (own_set w7 w.heap.size 0 (.int .i64 st.p.globals)).trans (own_set _ w.heap.size 1 (.slice a0 gl c0))
          have HP4 := Lib.hid ((HPP7.out.set 0 (.int .i64 st.p.globals) (show 0 < 2 by decide)).set 1 (.slice a0 gl c0) (show 1 < 2 by decide))
          have HE4 := Lib.hid (HEE7.out.keeps hk4 (by omega))
          have e0 := HE4.out.at_ 0 _ rfl
          have e1 := HE4.out.free 0
          have hk5 := own_set ((w7.setCell ⟨w.heap.size, 0, none⟩ (.int .i64 st.p.globals)).setCell ⟨w.heap.size, 1, none⟩ (.slice a0 gl c0)) (w.heap.size + 1) 0 .nilIface
          have HK45 : Hid (Keeps (fun b => b = w.heap.size ∨ b = w.heap.size + 1) w7 (((w7.setCell ⟨w.heap.size, 0, none⟩ (.int .i64 st.p.globals)).setCell ⟨w.heap.size, 1, none⟩ (.slice a0 gl c0)).setCell ⟨w.heap.size + 1, 0, none⟩ .nilIface)) := Lib.hid
            ((hk4.mono fun b _ e => Or.inl e).trans (hk5.mono fun b _ e => Or.inr e))
          have HP5 := Lib.hid (HP4.out.keeps hk5 (by omega))
          have HE5 := Lib.hid (HE4.out.set 0 .nilIface (show 0 < 1 by decide))
          clear hk4 hk5
          go_wp2_with fail
          generalize ((w7.setCell ⟨w.heap.size, 0, none⟩ (.int .i64 st.p.globals)).setCell ⟨w.heap.size, 1, none⟩ (.slice a0 gl c0)).setCell ⟨w.heap.size + 1, 0, none⟩ .nilIface = w8 at *
          have hne := HNE.out
          have hco8 : w8.heap[D]? = some (.deferred (some [])) := (HK45.out.block D (Array.getElem?_eq_some_iff.1 HCO7.out).1 (by omega)).trans HCO7.out
          have hbl8 : Below w.heap.size w w8 := HBL7.out.trans (HK45.out.below HBL7.out.size fun b _ e => by omega)
          obtain ⟨hk9, hb9⟩ := HOUT.out w8 hco8 hbl8
          have hp9 := HP5.out.keeps hk9 (by omega)
          have he9 := HE5.out.keeps hk9 (by omega)
          have r0 := hp9.at_ 0 _ rfl
          have r1 := hp9.at_ 1 _ rfl
          have q0 := he9.at_ 0 _ rfl
          have hro9 := (HRO7.out.keeps HK45.out (by have := HRO.out.low; have := HN1.out; omega) (fun b e => by
            rcases e with e | e
            · rw [e]; exact HRN.out.1
            · rw [e]; exact HRN.out.2)).keeps hk9 (by have := HN1.out; omega) (fun b e => by rw [e]; exact HRD.out)
          clear hne
          refine ⟨by simp, .inl ⟨_, _, rfl, run_takeDeferred hco8, ?_⟩⟩
          refine ⟨.tuple #[.agg #[.int .i64 st.p.globals, .slice a0 gl c0], .nilIface], (by simp [results, Tryz.f13, go_sem, r0, r1, q0] <;> first | rfl | omega), ?_, hb9⟩
          rw [HOK.out]
          exact ⟨_, rfl, hro9.prog⟩
        · have HOK : Hid (a = .err (progE st.p)) := Lib.hid (by rw [HANS.out, if_neg hp])
          obtain ⟨q, hq⟩ : ∃ q, q = progE st.p := ⟨_, rfl⟩
          rw [errV_nz hp]
          rw [← hq] at HOK ⊢
          clear hp HANS hq
          have hk4 := (own_set w7 w.heap.size 0 (.int .i64 0)).trans (own_set _ w.heap.size 1 (.slice none 0 0))
          have HP4 := Lib.hid ((HPP7.out.set 0 (.int .i64 0) (show 0 < 2 by decide)).set 1 (.slice none 0 0) (show 1 < 2 by decide))
          have HE4 := Lib.hid (HEE7.out.keeps hk4 (by omega))
          have e0 := HE4.out.at_ 0 _ rfl
          have e1 := HE4.out.free 0
          have hk5 := own_set ((w7.setCell ⟨w.heap.size, 0, none⟩ (.int .i64 0)).setCell ⟨w.heap.size, 1, none⟩ (.slice none 0 0)) (w.heap.size + 1) 0 (.iface 24 (.int .i64 (q : Nat)))
          have HK45 : Hid (Keeps (fun b => b = w.heap.size ∨ b = w.heap.size + 1) w7 (((w7.setCell ⟨w.heap.size, 0, none⟩ (.int .i64 0)).setCell ⟨w.heap.size, 1, none⟩ (.slice none 0 0)).setCell ⟨w.heap.size + 1, 0, none⟩ (.iface 24 (.int .i64 (q : Nat))))) := Lib.hid
            ((hk4.mono fun b _ e => Or.inl e).trans (hk5.mono fun b _ e => Or.inr e))
          have HP5 := Lib.hid (HP4.out.keeps hk5 (by omega))
          have HE5 := Lib.hid (HE4.out.set 0 (.iface 24 (.int .i64 (q : Nat))) (show 0 < 1 by decide))
          clear hk4 hk5
          go_wp2_with fail
          generalize ((w7.setCell ⟨w.heap.size, 0, none⟩ (.int .i64 0)).setCell ⟨w.heap.size, 1, none⟩ (.slice none 0 0)).setCell ⟨w.heap.size + 1, 0, none⟩ (.iface 24 (.int .i64 (q : Nat))) = w8 at *
          have hne := HNE.out
          have hco8 : w8.heap[D]? = some (.deferred (some [])) := (HK45.out.block D (Array.getElem?_eq_some_iff.1 HCO7.out).1 (by omega)).trans HCO7.out
          have hbl8 : Below w.heap.size w w8 := HBL7.out.trans (HK45.out.below HBL7.out.size fun b _ e => by omega)
          obtain ⟨hk9, hb9⟩ := HOUT.out w8 hco8 hbl8
          have hp9 := HP5.out.keeps hk9 (by omega)
          have he9 := HE5.out.keeps hk9 (by omega)
          have r0 := hp9.at_ 0 _ rfl
          have r1 := hp9.at_ 1 _ rfl
          have q0 := he9.at_ 0 _ rfl
          clear hne
          refine ⟨by simp, .inl ⟨_, _, rfl, run_takeDeferred hco8, ?_⟩⟩
          refine ⟨.tuple #[zeroP, .iface 24 (.int .i64 (q : Nat))], (by simp [zeroP, results, Tryz.f13, go_sem, r0, r1, q0] <;> first | rfl | omega), ?_, hb9⟩
          rw [HOK.out]
          rfl
    · refine Or.inr ⟨.ret, hx.loop, ?_⟩
      obtain ⟨x, b, hrun, hee, hat, hbB⟩ := hx.ex
      have hnum := HN1.out
      have hk6 := keeps_putObj w5 (D + 1) (.loop (rec .exhausted (some .ret)))
      have HCO := Lib.hid (hx.loop.turn .exhausted (some .ret)).coll
      have HEE := Lib.hid (hee.keeps hk6 (show ¬ w.heap.size + 1 = D + 1 by omega))
      have HAT := Lib.hid (hat.keeps hk6 (show ¬ b = D + 1 by omega))
      have HPP := Lib.hid (hx.p.keeps hk6 (show ¬ w.heap.size = D + 1 by omega))
      have HBL : Hid (Below w.heap.size w (w5.putObj (D + 1) (.loop (rec .exhausted (some .ret))))) := Lib.hid (hx.bel.trans (hk6.below hx.bel.size fun b _ e => by omega))
      have HFORM : Hid (a = .form x.1) := Lib.hid (by rw [HA.out]; exact readA_form hsl (by rw [← HXS.out]; exact hrun))
      have HBB : Hid (D < b) := Lib.hid (by omega)
      clear hx hrun hee hat hbB hk6 hnum
      generalize w5.putObj (D + 1) (.loop (rec .exhausted (some .ret))) = w6 at *
      refine wpIn_wide.2 ?_
      go_wp2_with fail
      have hk7 := keeps_putObj w6 D (.deferred none)
      have hnum := HN1.out
      have hp7 := HPP.out.keeps hk7 (show ¬ w.heap.size = D by omega)
      have he7 := HEE.out.keeps hk7 (show ¬ w.heap.size + 1 = D by omega)
      have ha7 := HAT.out.keeps hk7 (show ¬ b = D by have := HBB.out; omega)
      have r0 := hp7.at_ 0 _ rfl
      have r1 := hp7.at_ 1 _ rfl
      have q0 := he7.at_ 0 _ rfl
      clear hnum
      refine ⟨by simp, .inl ⟨_, _, rfl, run_takeDeferred HCO.out, ?_⟩⟩
      refine ⟨.tuple #[zeroP, .iface 139 (.pointer (some ⟨b, 0, none⟩))], (by simp [zeroP, results, Tryz.f13, go_sem, r0, r1, q0] <;> first | rfl | omega), ?_, ?_⟩
      · rw [HFORM.out]
        exact ⟨b, rfl, ha7.at_ 0 _ rfl, ha7.at_ 1 _ rfl⟩
      · exact HBL.out.trans (hk7.below HBL.out.size fun b _ e => by have := HN1.out; omega)
end Go.Proofs.YtkeglkneobngnaaGreatDoor

namespace Go.Proofs.YtkeglkneobngnaaGreatDoor
open Go.RowKit Cd As

set_option maxRecDepth 100000 in
set_option maxHeartbeats 3200000 in
theorem insLine_any (i : In) (w : World) (hi : mayB i = true) (hv : AsmVars w) (hP : Pow w) :
    Calls Tryz.prog 55 #[.agg #[.int .i64 i.1, .int .i64 i.2]] w fun e w' => e = .returned (.string (stB (insT i))) ∧ Below w.heap.size w w' := by
  obtain ⟨op, n⟩ := i
  obtain ⟨o1, o2⟩ := mayB_op hi
  obtain ⟨n1, n2⟩ := mayB_n hi
  dsimp only at o1 o2 n1 n2 ⊢
  obtain ⟨z, rfl⟩ : ∃ z : Nat, op = (z : Int) := ⟨op.toNat, (Int.toNat_of_nonneg (by omega)).symm⟩
  have hz : z < 27 := by omega
  have hzi : (z : Int) < 27 := by omega
  have hal := (Below.refl w.heap.size w).alloc (Nat.le_refl _) (.cells #[.int .i64 (z : Int), .int .i64 n] 75)
  have HV := Lib.hid (hv.below hal)
  have HP := Lib.hid (hP.below hal)
  have HAL := Lib.hid hal
  have hx0 := cell_of_row (w.alloc (.cells #[.int .i64 (z : Int), .int .i64 n] 75)) w.heap.size 0 _ _ _ (heap_alloc_new _ _)
  have hx1 := cell_of_row (w.alloc (.cells #[.int .i64 (z : Int), .int .i64 n] 75)) w.heap.size 1 _ _ _ (heap_alloc_new _ _)
  have hnm := HV.out.names z hz
  have HNL : Hid ((stB (namesB.getD z [])).size ≤ 8) := Lib.hid (by rw [stB_size]; have := name_len (z : Int); unfold nameB at this; rwa [Int.toNat_natCast] at this)
  have HIN : Hid (insT ((z : Int), n) = [32, 32] ++ namesB.getD z [] ++ spaced (argB ((z : Int), n)) ++ [10]) := Lib.hid (by
    unfold insT As.insL nameB
    rw [Int.toNat_natCast]
    simp)
  have HARG : Hid (argB ((z : Int), n) = if (z : Int) = 8 ∨ (z : Int) = 9 then [signB n] else if hasN (z : Int) then [Lib.itoa n] else []) := Lib.hid rfl
  have HMB := Lib.hid hi
  have H32 : Hid ((⟨#[32, 32]⟩ : ByteArray) = stB [32, 32] ∧ (⟨#[32]⟩ : ByteArray) = stB [32] ∧ (⟨#[10]⟩ : ByteArray) = stB [10]) := Lib.hid ⟨rfl, rfl, rfl⟩
  clear hv hP hi hal
  go_enter Tryz.func55, Tryz.ntmps55
  go_upto_region 1 with fail
  generalize hW1 : w.alloc (.cells #[.int .i64 (z : Int), .int .i64 n] 75) = W1 at *
  generalize hxb : w.heap.size = xb at *
  clear hW1
  generalize hnmv : stB (namesB.getD z []) = nm at *
  have HNM := Lib.hid hnmv
  clear hnmv
  have hs1 : ¬ 9223372036854775807 < (⟨#[32, 32]⟩ : ByteArray).size + nm.size := by have := HNL.out; show ¬ 9223372036854775807 < 2 + nm.size; omega
  have HN1 := Lib.hid n1
  have HN2 := Lib.hid n2
  have hs9 : ¬ 9223372036854775807 < ((⟨#[32, 32]⟩ : ByteArray) ++ nm).size + (⟨#[10]⟩ : ByteArray).size := by
    have := HNL.out
    rw [ByteArray.size_append]
    show ¬ 9223372036854775807 < 2 + nm.size + 1
    omega
  have HS5 : ∀ t : ByteArray, t.size ≤ 20 → ¬ 9223372036854775807 < (⟨#[32]⟩ : ByteArray).size + t.size ∧ ¬ 9223372036854775807 < ((⟨#[32, 32]⟩ : ByteArray) ++ nm).size + ((⟨#[32]⟩ : ByteArray) ++ t).size ∧ ¬ 9223372036854775807 < ((⟨#[32, 32]⟩ : ByteArray) ++ nm ++ ((⟨#[32]⟩ : ByteArray) ++ t)).size + (⟨#[10]⟩ : ByteArray).size := by
    intro t ht
    have := HNL.out
    simp only [ByteArray.size_append]
    show ¬ 9223372036854775807 < 1 + t.size ∧ ¬ 9223372036854775807 < 2 + nm.size + (1 + t.size) ∧ ¬ 9223372036854775807 < 2 + nm.size + (1 + t.size) + 1
    omega
  have HS6 := Lib.hid HS5
  have HE : Hid (∀ l : B, argB ((z : Int), n) = [l] → (⟨#[32, 32]⟩ : ByteArray) ++ nm ++ ((⟨#[32]⟩ : ByteArray) ++ stB l) ++ (⟨#[10]⟩ : ByteArray) = stB (insT ((z : Int), n))) := Lib.hid fun l hl => by
    rw [H32.out.1, H32.out.2.1, H32.out.2.2, ← HNM.out, stB_append, stB_append, stB_append, stB_append, HIN.out, hl]
    simp [spaced]
  have HE0 : Hid (argB ((z : Int), n) = [] → (⟨#[32, 32]⟩ : ByteArray) ++ nm ++ (⟨#[10]⟩ : ByteArray) = stB (insT ((z : Int), n))) := Lib.hid fun hl => by
    rw [H32.out.1, H32.out.2.2, ← HNM.out, stB_append, stB_append, HIN.out, hl]
    simp [spaced]
  clear HS5
  by_cases h89 : z = 8 ∨ z = 9
  · have HA : Hid (argB ((z : Int), n) = [signB n]) := Lib.hid (by rw [HARG.out, if_pos (by omega)])
    have hn1 : 1 ≤ n ∧ n ≤ 19 := by
      have := HMB.out
      rcases h89 with h | h <;> subst h <;> simp [mayB, leastI, mostI] at this <;> omega
    have HSG := Lib.hid (sign_any n W1 HV.out.signs)
    have hsl := sign_len n
    rw [signB_V hn1.1 hn1.2] at HSG
    obtain ⟨p1, p2, p3⟩ := HS6.out (stB (signB n)) (by rw [stB_size]; omega)
    have HEA := Lib.hid (HE.out (signB n) HA.out)
    generalize stB (signB n) = t at *
    clear HE HE0 HARG HA hsl hn1 HIN HMB n1 n2
    rcases h89 with h | h
    · subst h
      go_wp2_with fail
      refine HSG.out.mono ?_
      rintro e _ ⟨rfl, rfl⟩
      go_wp2_with fail
      go_ret
      exact ⟨by rw [HEA.out]; rfl, by rw [hxb]; exact HAL.out⟩
    · subst h
      go_wp2_with fail
      refine HSG.out.mono ?_
      rintro e _ ⟨rfl, rfl⟩
      go_wp2_with fail
      go_ret
      exact ⟨by rw [HEA.out]; rfl, by rw [hxb]; exact HAL.out⟩
  · have h8 : ((z : Int) == 8) = false := beq_eq_false_iff_ne.2 (by omega)
    have h9 : ((z : Int) == 9) = false := beq_eq_false_iff_ne.2 (by omega)
    have h7 : ((z : Int) == 8 || (z : Int) == 9) = false := by rw [h8, h9]; rfl
    rw [if_neg (by omega)] at HARG
    clear h89 HMB
    cases hh : hasN (z : Int) with
    | false =>
      have HA : Hid (argB ((z : Int), n) = []) := Lib.hid (by rw [HARG.out, hh]; rfl)
      have HEA := Lib.hid (HE0.out HA.out)
      have HHN := Lib.hid (hasN_any (z : Int) W1)
      rw [hh] at HHN
      clear HE HE0 HARG HA HIN hh n1 n2
      go_wp2_with fail
      refine HHN.out.mono ?_
      rintro e _ ⟨rfl, rfl⟩
      go_wp2_with fail
      go_ret
      exact ⟨by rw [HEA.out]; rfl, by rw [hxb]; exact HAL.out⟩
    | true =>
      have HA : Hid (argB ((z : Int), n) = [Lib.itoa n]) := Lib.hid (by rw [HARG.out, hh]; rfl)
      have HEA := Lib.hid (HE.out _ HA.out)
      have HHN := Lib.hid (hasN_any (z : Int) W1)
      have hil := itoa_len n n1 n2
      have HIT := Lib.hid (itoa_any n n1 n2 W1 HP.out)
      obtain ⟨p1, p2, p3⟩ := HS6.out (stB (Lib.itoa n)) (by rw [stB_size]; omega)
      have hso : sOf n = stB (Lib.itoa n) := rfl
      rw [hso] at HIT
      rw [hh] at HHN
      generalize stB (Lib.itoa n) = t at *
      clear HE HE0 HARG HA HIN hh n1 n2 hil hso
      go_wp2_with fail
      refine HHN.out.mono ?_
      rintro e _ ⟨rfl, rfl⟩
      go_wp2_with fail
      refine HIT.out.mono ?_
      rintro e W2 ⟨rfl, hb⟩
      go_wp2_with fail
      go_ret
      exact ⟨by rw [HEA.out]; rfl, by rw [hxb]; exact HAL.out.trans (hb.mono (Nat.le_trans (Nat.le_of_eq hxb.symm) HAL.out.size))⟩
end Go.Proofs.YtkeglkneobngnaaGreatDoor

namespace Go.Proofs.YtkeglkneobngnaaGreatDoor
open Go.RowKit Cd As

def strV (l : List B) : List Value := l.map fun s => Value.string (stB s)
theorem strV_length (l : List B) : (strV l).length = l.length := by simp [strV]
theorem strV_snoc (l : List B) (s : B) : strV l ++ [.string (stB s)] = strV (l ++ [s]) := by simp [strV]
theorem own_three (w : World) (x y z : Value) (e : TypeId) : (w.alloc (.cells #[x, y, z] e)).ownsRow w.heap.size e 1 (.slice (some ⟨w.heap.size, 0, none⟩) 3 3) 3 [x, y, z] :=
  ⟨rfl, .inr ⟨w.heap.size, 3, #[x, y, z], rfl, Nat.le_refl _, heap_alloc_new _ _, Nat.le_refl _, by decide, rfl, rfl⟩⟩
theorem head_len {f : FnV} (h : FnR f) : (As.headL f).length ≤ 80 := by
  have h2 := locals_len f.locals
  have h3 := h.locals
  have h4 := kind_len f.kind
  have h5 := itoa_len2 f.params h.params0 (by have := h.params; omega)
  unfold As.headL
  simp only [List.length_append, spaced_cons]
  have : fnB.length = 2 := rfl
  omega
theorem info_strA : (Tryz.prog.info? 9).map (fun i => (i.zero, i.size, i.bytes)) = some (some (.string ByteArray.empty), 1, 16) := by kernel_rfl
/-- A row of texts of the call's own. -/
structure Strs (W1 w : World) (v : Value) (l : List B) : Prop where
  own : w.ownsRow W1.heap.size 9 1 v l.length (strV l)
  bel : Below W1.heap.size W1 w
theorem join_spaced (x : B) (r : List B) : Lib.join (x :: r) [32] = x ++ spaced r := by
  rw [Lib.join_cons]
  congr 1
theorem join_any (v : Value) (x : B) (r : List B) (W1 w : World) (h : Strs W1 w v (x :: r)) (hl : (x ++ spaced r).length ≤ 1000000) (hr : r.length ≤ 1000000) :
    Calls Tryz.prog 95 #[v, .string ⟨#[32]⟩] w fun e w' => e = .returned (.string (stB (x ++ spaced r))) ∧ Below w.heap.size w w' := by
  obtain ⟨⟨h1, h2⟩, hb⟩ := h
  rcases h2 with ⟨_, h0⟩ | ⟨g, cap, cur, rfl, h3, h4, h5, h6, h7, h8⟩
  · cases h0
  · have hg : g < w.heap.size := by
      rcases Nat.lt_or_ge g w.heap.size with h' | h'
      · exact h'
      · simp [Array.getElem?_eq_none h'] at h4
    have e1 : ((x :: r).map stB).map (·.data.toList) = x :: r := by
      rw [List.map_map]
      conv => rhs; rw [← List.map_id (x :: r)]
      rfl
    have e2 : ((x :: r).map stB).length = (x :: r).length := List.length_map ..
    have := Tryz.strings_Join g 0 cap ((x :: r).map stB) ⟨#[32]⟩ w (fun j y hj => by
      rw [List.getElem?_map] at hj
      obtain ⟨z, hz, rfl⟩ := Option.map_eq_some_iff.1 hj
      have hjl := (List.getElem?_eq_some_iff.1 hz).1
      rw [Lib.cell_of_heap h4, Nat.zero_add, ← Array.getElem?_toList]
      have e : (strV (x :: r))[j]? = some (.string (stB z)) := by unfold strV; rw [List.getElem?_map, hz]; rfl
      rw [← h8, List.getElem?_take, if_pos (by omega)] at e
      exact e) hg (by rw [e2]; simp only [List.length_cons]; omega) (by rw [e2]; exact h5) (by
        rw [e1]
        show (Lib.join (x :: r) [32]).length ≤ _
        rw [join_spaced]; omega)
    rw [e1, e2] at this
    have e3 : Lib.join (x :: r) (⟨#[32]⟩ : ByteArray).data.toList = x ++ spaced r := join_spaced x r
    rw [e3] at this
    exact this

set_option maxRecDepth 100000 in
set_option maxHeartbeats 3200000 in
theorem headLine_any (f : FnV) (vl vc : Value) (w : World) (hf : FnR f) (hl : IntsAt w vl f.locals) (hv : AsmVars w) (hP : Pow w) :
    Calls Tryz.prog 54 #[.agg #[.int .i64 f.params, vl, .int .i64 f.kind, vc]] w fun e w' => e = .returned (.string (stB (As.headL f ++ [10]))) ∧ Below w.heap.size w w' := by
  have HR := Lib.hid hf
  obtain ⟨pa, ls, ki, cs⟩ := f
  obtain ⟨ao, n, cap, rfl, hn, hnc, hcm, hx⟩ := hl
  dsimp only at hn hx ⊢
  unfold maxLen at hcm
  have h12 : n ≤ 12 := by rw [hn]; exact hf.locals
  obtain ⟨q, rfl⟩ : ∃ q : Nat, ki = (q : Int) := ⟨ki.toNat, (Int.toNat_of_nonneg hf.kind0).symm⟩
  have hq4 : q < 4 := by have := hf.kind; dsimp only at this; omega
  have hqi : (q : Int) < 4 := by omega
  have hp0 : 0 ≤ pa := hf.params0
  have hp12 : pa ≤ 12 := by have := hf.params; have := hf.locals; dsimp only at *; omega
  have HN := Lib.hid hn
  have HKK : Hid (∀ k, k < n → 1 ≤ ls.getD k 0 ∧ ls.getD k 0 ≤ 3) := Lib.hid fun k hk => by
    have hkl : k < ls.length := by rw [← HN.out]; exact hk
    rw [List.getD_eq_getElem?_getD, List.getElem?_eq_getElem hkl]
    exact hf.kinds _ (List.getElem_mem hkl)
  clear hf
  have hal := (Below.refl w.heap.size w).alloc (Nat.le_refl _) (.cells #[.int .i64 pa, .slice ao n cap, .int .i64 (q : Int), vc] 72)
  have HB0 := Lib.hid hal
  have HV := Lib.hid (hv.below hal)
  have HP := Lib.hid (hP.below hal)
  have HX : Hid (∀ W, Below w.heap.size w W → 0 < n → ∃ b o, ao = some ⟨b, o, none⟩ ∧ ∀ i, i < n → W.cell? ⟨b, o + i, none⟩ = some (.int .i64 (ls.getD i 0))) := Lib.hid fun W hW h0 => by
    obtain ⟨b, o, h1, h2, h3⟩ := hx h0
    exact ⟨b, o, h1, fun i hi => by rw [hW.cell (p := ⟨b, o + i, none⟩) h2]; exact h3 i hi⟩
  have hx0 := cell_of_row (w.alloc (.cells #[.int .i64 pa, .slice ao n cap, .int .i64 (q : Int), vc] 72)) w.heap.size 0 _ _ _ (heap_alloc_new _ _)
  have hx1 := cell_of_row (w.alloc (.cells #[.int .i64 pa, .slice ao n cap, .int .i64 (q : Int), vc] 72)) w.heap.size 1 _ _ _ (heap_alloc_new _ _)
  have hx2 := cell_of_row (w.alloc (.cells #[.int .i64 pa, .slice ao n cap, .int .i64 (q : Int), vc] 72)) w.heap.size 2 _ _ _ (heap_alloc_new _ _)
  have hsz1 : w.heap.size < (w.alloc (.cells #[.int .i64 pa, .slice ao n cap, .int .i64 (q : Int), vc] 72)).heap.size := by simp
  have H32 : Hid ((⟨#[102, 110]⟩ : ByteArray) = stB fnB ∧ (⟨#[10]⟩ : ByteArray) = stB [10]) := Lib.hid ⟨rfl, rfl⟩
  clear hx hn hv hP hal
  go_enter Tryz.func54, Tryz.ntmps54
  go_upto_region 1 with fail
  generalize hW1 : w.alloc (.cells #[.int .i64 pa, .slice ao n cap, .int .i64 (q : Int), vc] 72) = W1 at *
  generalize hxb : w.heap.size = xb at *
  clear hW1
  have HC : Hid (∀ V, Below W1.heap.size W1 V → V.cell? ⟨xb, 0, none⟩ = some (.int .i64 pa) ∧ V.cell? ⟨xb, 1, none⟩ = some (.slice ao n cap) ∧ V.cell? ⟨xb, 2, none⟩ = some (.int .i64 (q : Int))) := Lib.hid fun V hV =>
    ⟨by rw [hV.cell (p := ⟨xb, 0, none⟩) hsz1]; exact hx0, by rw [hV.cell (p := ⟨xb, 1, none⟩) hsz1]; exact hx1, by rw [hV.cell (p := ⟨xb, 2, none⟩) hsz1]; exact hx2⟩
  have HK : Hid (∀ V, Below W1.heap.size W1 V → ∀ k, k < 4 → V.cell? ⟨0, k, none⟩ = some (.string (stB (kindsB.getD k [])))) := Lib.hid fun V hV => (HV.out.below hV).kinds
  have HIT : Hid (∀ V, Below W1.heap.size W1 V → Calls Tryz.prog 53 #[.int .i64 pa] V fun e w' => e = .returned (.string (stB (Lib.itoa pa))) ∧ Below W1.heap.size W1 w') := Lib.hid fun V hV =>
    (itoa_any pa (by omega) (by omega) V (HP.out.below hV)).mono fun e w' ⟨he, hb⟩ => ⟨he, hV.trans (hb.mono hV.size)⟩
  clear hx0 hx1 hx2
  have hbb : Below W1.heap.size W1 W1 := Below.refl _ _
  go_cut [3] from 6 to 14 (fun v wx => Strs W1 wx v [fnB, kindsB.getD q [], Lib.itoa pa])
  case first =>
    obtain ⟨hx0, hx1, hx2⟩ := HC.out _ hbb
    have hk1 := HK.out _ hbb q hq4
    go_region_with (go_at_call 53; refine (HIT.out _ ?_).mono ?_; (first | assumption | exact Below.drew (by assumption)); rintro e V1 ⟨rfl, hv1⟩; obtain ⟨hy0, hy1, hy2⟩ := HC.out _ hv1; have hk2 := HK.out _ hv1 q hq4)
    all_goals go_wp2_with fail
    all_goals go_meet
    all_goals exact ⟨own_mono (own_three _ _ _ _ _) hv1.size, hv1.alloc hv1.size _⟩
  case rest =>
    have HB := Lib.hid hcut
    rename World => W2
    obtain ⟨ao5, cap5, hv5⟩ := slice_of_own hcut.own
    subst hv5
    clear hcut HIT hbb
    obtain ⟨hx0, hx1, hx2⟩ := HC.out _ HB.out.bel
    have HX0 : Hid (∀ V, Below W1.heap.size W1 V → Below xb w V) := Lib.hid fun V hV => HB0.out.trans (hV.mono (Nat.le_of_lt hsz1))
    go_wp2_with fail
    go_loopw [17, 3] (fun iv v wr => ∃ k : Nat, k ≤ n ∧ iv = .int .i64 k ∧ Strs W1 wr v (fnB :: kindsB.getD q [] :: Lib.itoa pa :: (ls.take k).map kindW)) (fun iv _ _ => n - (intOf iv).toNat)
    case atStart => exact ⟨0, Nat.zero_le _, rfl, HB.out⟩
    case round =>
      obtain ⟨k, hk, rfl, hbuf⟩ := hrel
      rename World => wr
      have HBF := Lib.hid hbuf
      obtain ⟨ao6, cap6, hv6⟩ := slice_of_own hbuf.own
      subst hv6
      clear hbuf HB hx0 hx1 hx2
      have HLN : Hid ((fnB :: kindsB.getD q [] :: Lib.itoa pa :: (ls.take k).map kindW).length = k + 3) := Lib.hid (by
        have := HN.out
        simp
        omega)
      by_cases hkn : k < n
      · obtain ⟨b, o, rfl, hcell⟩ := HX.out wr (HX0.out wr HBF.out.bel) (by omega)
        have hc1 := hcell k hkn
        have hi1 : (k : Int) < (n : Int) := by omega
        obtain ⟨g1, g2⟩ := HKK.out k hkn
        obtain ⟨y, hy⟩ : ∃ y : Nat, ls.getD k 0 = (y : Int) := ⟨(ls.getD k 0).toNat, (Int.toNat_of_nonneg (by omega)).symm⟩
        rw [hy] at hc1 g1 g2
        have hyi : (y : Int) < 4 := by omega
        have hy4 : y < 4 := by omega
        have hk1 := HK.out _ HBF.out.bel y hy4
        have HTK : Hid (fnB :: kindsB.getD q [] :: Lib.itoa pa :: (ls.take (k + 1)).map kindW = (fnB :: kindsB.getD q [] :: Lib.itoa pa :: (ls.take k).map kindW) ++ [kindsB.getD y []]) := Lib.hid (by
          have hkl : k < ls.length := by rw [← HN.out]; exact hkn
          have e : ls[k] = (y : Int) := by rw [← hy, List.getD_eq_getElem?_getD, List.getElem?_eq_getElem hkl]; rfl
          rw [List.take_succ_eq_append_getElem hkl, List.map_append, e]
          show _ = fnB :: kindsB.getD q [] :: Lib.itoa pa :: ((ls.take k).map kindW ++ [kindsB.getD y []])
          rfl)
        generalize hL : fnB :: kindsB.getD q [] :: Lib.itoa pa :: (ls.take k).map kindW = L at *
        clear hL hcell hy g1 g2
        have HO : Hid (wr.ownsRow W1.heap.size 9 1 (.slice ao6 (k + 3) cap6) (k + 3) (strV L)) := Lib.hid (by
          have := HBF.out.own
          rwa [HLN.out] at this)
        have HBL := Lib.hid HBF.out.bel
        rw [HLN.out]
        have hal := (Below.refl wr.heap.size wr).alloc (Nat.le_refl _) (.cells #[.string (stB (kindsB.getD y []))] 9)
        have HOV := Lib.hid (own_below HO.out hal)
        have HAL := Lib.hid hal
        have hbs : W1.heap.size ≤ (wr.alloc (.cells #[.string (stB (kindsB.getD y []))] 9)).heap.size := Nat.le_trans HBL.out.size hal.size
        have hcn : ∀ (j : Nat) u, [Value.string (stB (kindsB.getD y []))][j]? = some u → (wr.alloc (.cells #[.string (stB (kindsB.getD y []))] 9)).cell? ⟨wr.heap.size, j, none⟩ = some u := fun j u hj => by
          rw [cell_of_row _ _ _ _ _ _ (heap_alloc_new _ _), ← Array.getElem?_toList]
          exact hj
        have hon : ∀ u ∈ [Value.string (stB (kindsB.getD y []))], u.oneCell' = true := fun u hu => by rw [List.mem_singleton.1 hu]; rfl
        clear hal HBF
        generalize hkv : stB (kindsB.getD y []) = kv at *
        have HKV := Lib.hid hkv
        clear hkv
        go_wp2_with (at_builtin; refine wpList_append1 rfl (.tmp 21) (.tmp 25) 27 9 (.string ByteArray.empty) 1 16 rfl Tryz.underlying27 info_strA rfl (by decide) (by decide) W1.heap.size _ (k + 3) _ [.string kv] wr.heap.size 1 HOV.out (by omega) rfl hcn hon hbs (by simp [Act.eval]) (by simp [Act.eval]) ?_)
        intro ao9 cap9 w9 ho9 hk9
        have HB9 : Hid (Strs W1 w9 (.slice ao9 (k + 3 + 1) cap9) (fnB :: kindsB.getD q [] :: Lib.itoa pa :: (ls.take (k + 1)).map kindW)) := Lib.hid (by
          rw [HTK.out]
          refine ⟨?_, ?_⟩
          · rw [← strV_snoc, List.length_append, List.length_singleton, HLN.out, HKV.out]
            exact ho9
          · exact (HBL.out.trans (HAL.out.mono HBL.out.size)).trans (hk9.below hbs fun e _ he => (World.ownsRow.lt HOV.out e he).1))
        clear ho9 hk9 hcn hon hbs HOV HAL HO
        go_wp2_with fail
        go_roundw
        case rel => exact ⟨k + 1, by omega, by go_num, HB9.out⟩
        case measure => simp [intOf]; omega
      · obtain rfl : k = n := by omega
        have hls : ls.take k = ls := by rw [HN.out, List.take_length]
        rw [hls] at HBF ⊢
        have HHL : Hid (As.headL ⟨pa, ls, (q : Int), cs⟩ = fnB ++ spaced (kindsB.getD q [] :: Lib.itoa pa :: ls.map kindW)) := Lib.hid rfl
        have hhl := head_len HR.out
        rw [HHL.out] at hhl
        have HJ := Lib.hid (join_any _ _ _ W1 wr HBF.out (by omega) (by
          simp only [List.length_cons, List.length_map]
          have := HN.out
          omega))
        have hsz : ¬ 9223372036854775807 < (stB (fnB ++ spaced (kindsB.getD q [] :: Lib.itoa pa :: ls.map kindW))).size + (⟨#[10]⟩ : ByteArray).size := by
          rw [stB_size]
          show ¬ 9223372036854775807 < _ + 1
          omega
        have HE : Hid (stB (fnB ++ spaced (kindsB.getD q [] :: Lib.itoa pa :: ls.map kindW)) ++ (⟨#[10]⟩ : ByteArray) = stB (As.headL ⟨pa, ls, (q : Int), cs⟩ ++ [10])) := Lib.hid (by rw [H32.out.2, stB_append, HHL.out])
        have HBL := Lib.hid HBF.out.bel
        clear hhl HHL HX HKK hls
        generalize fnB :: kindsB.getD q [] :: Lib.itoa pa :: ls.map kindW = L at *
        generalize stB (fnB ++ spaced (kindsB.getD q [] :: Lib.itoa pa :: ls.map kindW)) = t at *
        go_wp2_with fail
        refine HJ.out.mono ?_
        rintro e w9 ⟨rfl, hb9⟩
        go_wp2_with fail
        go_ret
        exact ⟨by rw [HE.out]; rfl, by rw [hxb]; exact HX0.out _ (HBL.out.trans (hb9.mono HBL.out.size))⟩
end Go.Proofs.YtkeglkneobngnaaGreatDoor

namespace Go.Proofs.YtkeglkneobngnaaGreatDoor
open Go.RowKit

/-- Bytes as cells. -/
def cells8 (l : List Nat) : List Value := l.map fun b : Nat => Value.int .u8 (b : Int)
theorem cells8_snoc (l : List Nat) (b : Nat) : cells8 l ++ [.int .u8 (b : Int)] = cells8 (l ++ [b]) := by simp [cells8]
theorem owns_ge {w : World} {base : Nat} {e : TypeId} {size : Nat} {v : Value} {n : Nat} {xs : List Value} (h : w.ownsRow base e size v n xs) : ∀ k, v.ownBlock = some k → base ≤ k := by
  intro k hk
  rcases h.2 with ⟨rfl, _⟩ | ⟨g, cap, cur, rfl, hg, _⟩
  · cases hk
  · cases hk; exact hg
theorem RowAt.ofOwns {w : World} {base n : Nat} {v : Value} {l : List Nat} (h : w.ownsRow base 5 1 v n (cells8 l)) (h0 : 0 < n) :
    ∃ g cap, v = .slice (some ⟨g, 0, none⟩) n cap ∧ base ≤ g ∧ g < w.heap.size ∧ RowAt w g l ∧ l.length = n ∧ n ≤ cap := by
  have hl : l.length = n := by simpa [cells8] using h.1
  rcases h.2 with ⟨_, hn⟩ | ⟨g, cap, cur, rfl, hbg, hg, hnc, hcm, hcs, htake⟩
  · omega
  · refine ⟨g, cap, rfl, hbg, (Array.getElem?_eq_some_iff.1 hg).1, fun j hj => ⟨?_, frozen_of_row w g j cur 5 hg⟩, hl, hnc⟩
    rw [cell_of_row w g j cur 5 (0, 0) hg]
    have h2 : (cur.toList.take (n * 1))[j]? = (cells8 l)[j]? := by rw [htake]
    rw [List.getElem?_take, if_pos (by omega)] at h2
    simp [cells8, hj, List.getD_eq_getElem?_getD] at h2 ⊢
    exact h2
theorem make10 (w : World) : ∃ w', (Instr.makeSlice 56 (.int .i64 0) (.int .i64 10)).run Tryz.prog w = .ok (.slice (some ⟨w.heap.size, 0, none⟩) 0 10) w' ∧
    w'.ownsRow w.heap.size 5 1 (.slice (some ⟨w.heap.size, 0, none⟩) 0 10) 0 [] ∧ w.grownBy w' none := by
  obtain ⟨i0, hi, hz0, hz1, hz2⟩ := info_parts info_u8
  exact run_make_own (P := Tryz.prog) w w.heap.size 56 5 i0 (.int .u8 0) 1 Tryz.underlying56 hi hz0 hz1 .i64 .i64 10 (by rw [hz2]; decide) (by decide) (Nat.le_refl _)

/-- Where Num's loop stands. -/
def EncAt (N : Nat) (l : List Nat) (m : Nat) : Prop := Vy.enc N = l ++ Vy.enc m ∧ m ≤ N
theorem EncAt.step {N : Nat} {l : List Nat} {m : Nat} (h : EncAt N l m) (hm : ¬ m < 128) : EncAt N (l ++ [m % 128 + 128]) (m / 128) :=
  ⟨by rw [h.1, Vy.enc_big hm]; simp, by have := h.2; omega⟩
theorem EncAt.fin {N : Nat} {l : List Nat} {m : Nat} (h : EncAt N l m) (hm : m < 128) : l ++ [m] = Vy.enc N := by rw [h.1, Vy.enc_small hm]
theorem EncAt.len {N : Nat} {l : List Nat} {m : Nat} (h : EncAt N l m) (hN : N < 2 ^ 64) : l.length < 10 := by
  have h2 := Vy.enc_len10 N hN
  have := Vy.enc_len_pos m
  rw [h.1, List.length_append] at h2; omega

end Go.Proofs.YtkeglkneobngnaaGreatDoor

namespace Go.Proofs.YtkeglkneobngnaaGreatDoor
open Go.RowKit

theorem cells8_text (s : ByteArray) : cells8 (bs s) = Lib.strCells s := by
  unfold cells8 bs Lib.strCells; rw [List.map_map]; rfl
theorem cells8_append (a b : List Nat) : cells8 a ++ cells8 b = cells8 (a ++ b) := by simp [cells8]
theorem cells8_length (l : List Nat) : (cells8 l).length = l.length := by simp [cells8]
/-- A builder, in a block of the call's own, that holds the bytes l. -/
def Bld (B b : Nat) (l : List Nat) (w : World) : Prop := Lib.IsBuilder 109 5 B b (cells8 l) w

theorem bld_size : (Tryz.prog.info? 109).map (·.size) = some 2 := by kernel_rfl
theorem bld_lies : liesAt Tryz.prog Tryz.prog.depth 109 (2 / Tryz.prog.cellsOf 109) 0 109 1 = true := by kernel_rfl

set_option maxRecDepth 100000 in
set_option maxHeartbeats 1000000 in
theorem copyCheck_used (b : Nat) (w : World) (h0 : w.cell? ⟨b, 0, none⟩ = some (.pointer (some ⟨b, 0, none⟩))) :
    Calls Tryz.prog 93 #[.pointer (some ⟨b, 0, none⟩)] w fun e w' => e = .returned (.tuple #[]) ∧ w' = w := by
  obtain ⟨j, hj, _⟩ := Option.map_eq_some_iff.1 bld_size
  go_enter Tryz.func93, Tryz.ntmps93
  go_wp2
  rw [Lib.run_neq_ptr_same w _ Tryz.underlying107 hj]
  go_wp2
  go_end0
  exact ⟨rfl, rfl⟩

set_option maxRecDepth 100000 in
set_option maxHeartbeats 1000000 in
theorem copyCheck_fresh (b : Nat) (w : World) (h0 : w.cell? ⟨b, 0, none⟩ = some (.pointer none)) (hsh : w.shape? b = some (109, 2)) (hfz : w.frozen? ⟨b, 0, none⟩ = false) :
    Calls Tryz.prog 93 #[.pointer (some ⟨b, 0, none⟩)] w fun e w' => e = .returned (.tuple #[]) ∧ w' = w.setCell ⟨b, 0, none⟩ (.pointer (some ⟨b, 0, none⟩)) := by
  obtain ⟨j, hj, hjs⟩ := Option.map_eq_some_iff.1 bld_size
  go_enter Tryz.func93, Tryz.ntmps93
  go_wp2
  rw [Lib.run_to_unsafe w ⟨b, 0, none⟩ Tryz.underlying107 Tryz.underlying190 hj (by rw [hjs]; decide) hsh (Nat.zero_lt_succ 1)]
  simp only [Result.andThen]
  rw [Oper.upon_value]
  go_wp2
  rw [run_callFunc_extern Tryz.func123 (by kernel_rfl) (by kernel_rfl) (by kernel_rfl) (e := Extern.AbiNoEscape.same) (by kernel_rfl)]
  rw [Lib.run_noEscape]
  simp only [Result.andThen]
  rw [Oper.upon_value]
  go_wp2
  rw [Lib.run_from_unsafe w ⟨b, 0, none⟩ Tryz.underlying190 Tryz.underlying107 hj hsh bld_lies]
  simp only [Result.andThen]
  rw [Oper.upon_value]
  go_wp2
  go_end0
  exact ⟨rfl, rfl⟩
theorem copyCheck_any (B b : Nat) (l : List Nat) (w : World) (h : Bld B b l w) :
    Calls Tryz.prog 93 #[.pointer (some ⟨b, 0, none⟩)] w fun e w' => e = .returned (.tuple #[]) ∧ (Lib.BuilderAt 109 5 B b (.pointer (some ⟨b, 0, none⟩)) (cells8 l) w' ∧ Below B w w') := by
  rcases h with h | h
  · refine (copyCheck_fresh b w h.cell0 h.shape h.frozen0).mono ?_
    rintro e w' ⟨rfl, rfl⟩
    exact ⟨rfl, h.used _, (Below.refl B w).setCell (p := ⟨b, 0, none⟩) h.1 _⟩
  · refine (copyCheck_used b w h.cell0).mono ?_
    rintro e w' ⟨rfl, rfl⟩
    exact ⟨rfl, h, Below.refl B _⟩

set_option maxRecDepth 100000 in
set_option maxHeartbeats 1000000 in
theorem writeString_any (B b : Nat) (l : List Nat) (s : ByteArray) (w : World) (h : Bld B b l w) (hlen : l.length + s.size ≤ 1000000) (hBw : B ≤ w.heap.size) :
    Calls Tryz.prog 52 #[.pointer (some ⟨b, 0, none⟩), .string s] w fun e w' => e = .returned (.tuple #[.int .i64 s.size, .nilIface]) ∧ (Bld B b (l ++ bs s) w' ∧ Below B w w') := by
  obtain ⟨i0, hi, hz0, hz1, hz2⟩ := info_parts info_u8
  go_enter Tryz.func52, Tryz.ntmps52
  go_wp2_with fail
  refine (copyCheck_any B b l _ h).mono ?_
  rintro e w1 ⟨rfl, h1, hb1⟩
  obtain ⟨hB, v, hbk, hown, hne⟩ := h1
  have c0 : w1.cell? ⟨b, 0, none⟩ = some (.pointer (some ⟨b, 0, none⟩)) := by rw [Lib.cell_of_heap hbk]; rfl
  have c1 : w1.cell? ⟨b, 1, none⟩ = some v := by rw [Lib.cell_of_heap hbk]; rfl
  have hcl := cells8_length l
  go_wp2_with (at_builtin; refine Lib.wpList_append_own_string _ rfl _ _ 56 9 rfl B 5 i0 Tryz.underlying56 Tryz.underlying9 hi hz0 hz1 hz2 _ _ _ rfl hown s rfl ?c3 ?c4 ?c5 ?_)
  case c3 => unfold maxLen; omega
  case c4 => omega
  case c5 => have := hb1.size; omega
  intro v' w2 hown' hgrow _
  have hlt : b < w1.heap.size := by
    rcases Nat.lt_or_ge b w1.heap.size with h' | h'
    · exact h'
    · simp [Array.getElem?_eq_none h'] at hbk
  have hb2 : w2.heap[b]? = some (.cells #[.pointer (some ⟨b, 0, none⟩), v] 109 (0, 0)) := by
    rw [hgrow.block b hlt (fun e => hne e.symm)]
    exact hbk
  have d0 : w2.cell? ⟨b, 0, none⟩ = some (.pointer (some ⟨b, 0, none⟩)) := by rw [Lib.cell_of_heap hb2]; rfl
  have d1 : w2.cell? ⟨b, 1, none⟩ = some v := by rw [Lib.cell_of_heap hb2]; rfl
  have f1 : w2.frozen? ⟨b, 1, none⟩ = false := Lib.frozen_of_heap hb2 1
  obtain ⟨ao, n', cap, rfl⟩ : ∃ ao n' cap, v' = .slice ao n' cap := by
    rcases hown'.2 with ⟨hv, _⟩ | ⟨g, cap, cur, hv, _⟩
    · exact ⟨_, _, _, hv⟩
    · exact ⟨_, _, _, hv⟩
  have HO := Lib.hid hown'
  have HB3 := Lib.hid (hb1.grown hgrow (by have := hb1.size; omega) (fun k hk => (hown.lt k hk).1))
  clear hown' hgrow hown hbk c0 c1
  go_wp2
  go_ret2
  refine ⟨rfl, Or.inr ?_, HB3.out.setCell (p := ⟨b, 1, none⟩) hB _⟩
  have := Lib.BuilderAt.put (T := 109) (e := 5) hB hb2 (bs' := cells8 l ++ Lib.strCells s) (by simpa [Lib.strCells_length, cells8_length] using HO.out) (by decide)
  rwa [← cells8_text, cells8_append] at this

theorem toArray_txt (l : List Nat) (hl : Crc.Bytes l) : ∃ u : List UInt8, cells8 l = Lib.byteCells u ∧ (⟨u.toArray⟩ : ByteArray) = txt l := by
  refine ⟨(txt l).data.toList, ?_, ?_⟩
  · rw [← Lib.strCells_eq, ← cells8_text, bs_txt l hl]
  · apply ByteArray.ext; simp
theorem bldString_any (B b : Nat) (l : List Nat) (w : World) (h : Bld B b l w) (hl : Crc.Bytes l) (hBw : B ≤ w.heap.size) :
    Calls Tryz.prog 56 #[.pointer (some ⟨b, 0, none⟩)] w fun e w' => e = .returned (.string (txt l)) ∧ Below B w w' := by
  obtain ⟨u, hu, ht⟩ := toArray_txt l hl
  unfold Bld at h
  rw [hu] at h
  rw [← ht]
  exact Tryz.Builder_String_any B b u w h hBw
theorem bld_new (w : World) : Bld w.heap.size w.heap.size [] (w.alloc (.cells #[.pointer none, .slice none 0 0] 109)) := Lib.fresh_isBuilder _ _ w
theorem Bld.below {B b : Nat} {l : List Nat} {w w' : World} (h : Bld B b l w) (hb : Below w.heap.size w w') : Bld B b l w' := by
  have key : ∀ p, Lib.BuilderAt 109 5 B b p (cells8 l) w → Lib.BuilderAt 109 5 B b p (cells8 l) w' := by
    rintro p ⟨h1, v, h2, h3, h4⟩
    have hlt : b < w.heap.size := (Array.getElem?_eq_some_iff.1 h2).1
    refine ⟨h1, v, by rw [hb.block b hlt]; exact h2, ⟨h3.1, ?_⟩, h4⟩
    rcases h3.2 with h | ⟨g, cap, cur, g1, g2, g3, g4⟩
    · exact Or.inl h
    · exact Or.inr ⟨g, cap, cur, g1, g2, by rw [hb.block g (Array.getElem?_eq_some_iff.1 g3).1]; exact g3, g4⟩
  rcases h with h | h
  · exact Or.inl (key _ h)
  · exact Or.inr (key _ h)

end Go.Proofs.YtkeglkneobngnaaGreatDoor

namespace Go.Proofs.YtkeglkneobngnaaGreatDoor
open Go.RowKit

/-- Each block of other cells than bytes is as it was, but b. -/
def KeptX (b : Nat) (w w' : World) : Prop := ∀ x cs T, x ≠ b → T ≠ 5 → w.heap[x]? = some (.cells cs T (0, 0)) → w'.heap[x]? = some (.cells cs T (0, 0))
theorem KeptX.refl (b : Nat) (w : World) : KeptX b w w := fun _ _ _ _ _ h => h
theorem KeptX.trans {b : Nat} {w w' w2 : World} (h : KeptX b w w') (g : KeptX b w' w2) : KeptX b w w2 := fun x cs T h1 h2 h3 => g x cs T h1 h2 (h x cs T h1 h2 h3)
theorem KeptX.below {b : Nat} {w w' : World} (h : Below w.heap.size w w') : KeptX b w w' := fun x cs T _ _ h3 => by
  rw [h.block x (Array.getElem?_eq_some_iff.1 h3).1]; exact h3
theorem KeptX.cell {b x i : Nat} {w w' : World} {cs : Array Value} {T : TypeId} (h : KeptX b w w') (hx : x ≠ b) (hT : T ≠ 5) (hw : w.heap[x]? = some (.cells cs T (0, 0))) : w'.cell? ⟨x, i, none⟩ = w.cell? ⟨x, i, none⟩ := by
  rw [Lib.cell_of_heap hw, Lib.cell_of_heap (h x cs T hx hT hw)]
theorem copyCheckK_any (B b : Nat) (l : List Nat) (w : World) (h : Bld B b l w) :
    Calls Tryz.prog 93 #[.pointer (some ⟨b, 0, none⟩)] w fun e w' => e = .returned (.tuple #[]) ∧ (Lib.BuilderAt 109 5 B b (.pointer (some ⟨b, 0, none⟩)) (cells8 l) w' ∧ Below B w w' ∧ KeptX b w w') := by
  rcases h with h | h
  · refine (copyCheck_fresh b w h.cell0 h.shape h.frozen0).mono ?_
    rintro e w' ⟨rfl, rfl⟩
    exact ⟨rfl, h.used _, (Below.refl B w).setCell (p := ⟨b, 0, none⟩) h.1 _, fun x cs T hx _ hw => by rw [Below.heap_setCell _ _ _ _ hx]; exact hw⟩
  · refine (copyCheck_used b w h.cell0).mono ?_
    rintro e w' ⟨rfl, rfl⟩
    exact ⟨rfl, h, Below.refl B _, KeptX.refl _ _⟩

set_option maxRecDepth 100000 in
set_option maxHeartbeats 1000000 in
theorem writeStringK_any (B b : Nat) (l : List Nat) (s : ByteArray) (w : World) (h : Bld B b l w) (hlen : l.length + s.size ≤ 1000000) (hBw : B ≤ w.heap.size) :
    Calls Tryz.prog 52 #[.pointer (some ⟨b, 0, none⟩), .string s] w fun e w' => e = .returned (.tuple #[.int .i64 s.size, .nilIface]) ∧ (Bld B b (l ++ bs s) w' ∧ Below B w w' ∧ KeptX b w w') := by
  obtain ⟨i0, hi, hz0, hz1, hz2⟩ := info_parts info_u8
  go_enter Tryz.func52, Tryz.ntmps52
  go_wp2_with fail
  refine (copyCheckK_any B b l _ h).mono ?_
  rintro e w1 ⟨rfl, h1, hb1, hk1⟩
  obtain ⟨hB, v, hbk, hown, hne⟩ := h1
  have c0 : w1.cell? ⟨b, 0, none⟩ = some (.pointer (some ⟨b, 0, none⟩)) := by rw [Lib.cell_of_heap hbk]; rfl
  have c1 : w1.cell? ⟨b, 1, none⟩ = some v := by rw [Lib.cell_of_heap hbk]; rfl
  have hcl := cells8_length l
  have HKX := Lib.hid hk1
  clear hk1
  go_wp2_with (at_builtin; refine Lib.wpList_append_own_string _ rfl _ _ 56 9 rfl B 5 i0 Tryz.underlying56 Tryz.underlying9 hi hz0 hz1 hz2 _ _ _ rfl hown s rfl ?c3 ?c4 ?c5 ?_)
  case c3 => unfold maxLen; omega
  case c4 => omega
  case c5 => have := hb1.size; omega
  intro v' w2 hown' hgrow _
  have hlt : b < w1.heap.size := by
    rcases Nat.lt_or_ge b w1.heap.size with h' | h'
    · exact h'
    · simp [Array.getElem?_eq_none h'] at hbk
  have HK2 : Hid (KeptX b w1 w2) := Lib.hid fun x cs T hx hT hw => by
    have hxl : x < w1.heap.size := (Array.getElem?_eq_some_iff.1 hw).1
    rw [hgrow.block x hxl (fun e => by
      rcases hown.2 with ⟨hv, _⟩ | ⟨g, cap, cur, hv, _, hg, _⟩
      · rw [hv] at e; cases e
      · rw [hv] at e
        cases e
        rw [hg] at hw
        cases hw
        exact hT rfl)]
    exact hw
  have hb2 : w2.heap[b]? = some (.cells #[.pointer (some ⟨b, 0, none⟩), v] 109 (0, 0)) := by
    rw [hgrow.block b hlt (fun e => hne e.symm)]
    exact hbk
  have d0 : w2.cell? ⟨b, 0, none⟩ = some (.pointer (some ⟨b, 0, none⟩)) := by rw [Lib.cell_of_heap hb2]; rfl
  have d1 : w2.cell? ⟨b, 1, none⟩ = some v := by rw [Lib.cell_of_heap hb2]; rfl
  have f1 : w2.frozen? ⟨b, 1, none⟩ = false := Lib.frozen_of_heap hb2 1
  obtain ⟨ao, n', cap, rfl⟩ : ∃ ao n' cap, v' = .slice ao n' cap := by
    rcases hown'.2 with ⟨hv, _⟩ | ⟨g, cap, cur, hv, _⟩
    · exact ⟨_, _, _, hv⟩
    · exact ⟨_, _, _, hv⟩
  have HO := Lib.hid hown'
  have HB3 := Lib.hid (hb1.grown hgrow (by have := hb1.size; omega) (fun k hk => (hown.lt k hk).1))
  clear hown' hgrow hown hbk c0 c1
  go_wp2
  go_ret2
  refine ⟨rfl, Or.inr ?_, HB3.out.setCell (p := ⟨b, 1, none⟩) hB _, (HKX.out.trans HK2.out).trans fun x cs T hx _ hw => by rw [Below.heap_setCell _ _ _ _ hx]; exact hw⟩
  have := Lib.BuilderAt.put (T := 109) (e := 5) hB hb2 (bs' := cells8 l ++ Lib.strCells s) (by simpa [Lib.strCells_length, cells8_length] using HO.out) (by decide)
  rwa [← cells8_text, cells8_append] at this
end Go.Proofs.YtkeglkneobngnaaGreatDoor
