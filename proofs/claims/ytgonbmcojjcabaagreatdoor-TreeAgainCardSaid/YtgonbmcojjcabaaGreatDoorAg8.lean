/-
  Texts of one proof, in build order: tree.Parse, whole. | The printer's text: a strings.Builder that lies in a printer's block. | The printer's put. | How expressions are written, as functions of the tree; the printer's expr, by what is asked of bare. | The printer's expr, by what is asked of bare. | The printer's call: a name, and what lies in its brackets. | The printer: what stands for a sign, a number, a truth. | The printer's bare, a code at a time. | The printer's bare: ops of two, calls; all of them; expr. | The printer's bare and expr, of every expression. | The printer: an expression as a text; what is sent; kinds; what a case talks.
-/
import Derived.Test.YtgonbmcojjcabaaGreatDoorAg7
import Derived.Deep.RegionHeld3
import Derived.Lib.Builder
import Derived.Deep.RegionHeld
import Derived.Lib.AppendStr
import Derived.Lib.UnsafeStr
import Derived.Lib.ItoaNum
import Derived.Lib.LaidTab
namespace Go.Proofs.YtgonbmcojjcabaaGreatDoor
open Go.RowKit Lx Tr
variable {w w' : World} {rb n d dd : Nat} {tv : Value} {E : Env}

/-- What Parse wants of the tables. -/
structure TreeEnv (w : World) : Prop where
  lex : LexEnv w.heap.size w
  signs : Signs w
  kinds : KindsT w
  b1 : 0 < w.heap.size
  b2 : 2 < w.heap.size
def noSrc : Value := .agg #[.slice none 0 0, .slice none 0 0]
/-- What Parse answers. -/
def ParseSays (w w' : World) (s : ByteArray) (e : Ending) : Prop :=
  if 4000 < s.size then e = .returned (.tuple #[noSrc, .iface 27 (.int .i64 4)])
  else match lx s.data.toList 0 false with
    | (_, some (r, a)) => ∃ x, e = .returned (.tuple #[noSrc, x]) ∧ AtErr w' w.heap.size x r a
    | (ts, none) => ∃ r, Ev (fun f => Tr.program ⟨ts, s.size⟩ f ⟨[], []⟩ 0) r ∧ match r with
      | .ok src _ => ∃ gv fv, e = .returned (.tuple #[.agg #[gv, fv], .nilIface]) ∧ SrcO w' w.heap.size src gv fv
      | .bad k a => ∃ x, e = .returned (.tuple #[noSrc, x]) ∧ AtErr w' w.heap.size x k a
      | .out => False
theorem err_none (w : World) : (binOp BinOp.neq 33 .nilIface .nilIface).run Tryz.prog w = .ok (.bool false) w := by kernel_rfl
theorem err_at (p : Addr) (w : World) : (binOp BinOp.neq 33 (.iface 107 (.pointer (some p))) .nilIface).run Tryz.prog w = .ok (.bool true) w := by kernel_rfl
theorem err_no (k : Int) (w : World) : (binOp BinOp.neq 33 (.iface 27 (.int .i64 k)) .nilIface).run Tryz.prog w = .ok (.bool true) w := by kernel_rfl

/-- Parse, where Lex has an error. -/
theorem parse_err {tt : TypeId} {R : Value → World → World → Prop} (hx : ∀ xv a b, R xv a b → ∀ W, (binOp BinOp.neq 33 (.iface tt xv) .nilIface).run Tryz.prog W = .ok (.bool true) W) (s : ByteArray) (w : World)
    (hL : Calls Tryz.prog 29 #[.string s] ((w.alloc (.cells #[.slice none 0 0, .slice none 0 0] 26)).alloc (.cells #[.nilIface] 33)) fun e w' => ∃ xv, e = .returned (.tuple #[.slice none 0 0, .iface tt xv]) ∧ R xv ((w.alloc (.cells #[.slice none 0 0, .slice none 0 0] 26)).alloc (.cells #[.nilIface] 33)) w' ∧ Below (w.heap.size + 2) ((w.alloc (.cells #[.slice none 0 0, .slice none 0 0] 26)).alloc (.cells #[.nilIface] 33)) w') :
    Calls Tryz.prog 10 #[.string s] w fun e w' => ∃ xv, e = .returned (.tuple #[noSrc, .iface tt xv]) ∧ ∃ w1, R xv ((w.alloc (.cells #[.slice none 0 0, .slice none 0 0] 26)).alloc (.cells #[.nilIface] 33)) w1 ∧ Keeps (fun b => b = w.heap.size ∨ b = w.heap.size + 1) w1 w' ∧ Below w.heap.size w w' := by
  have HL := Lib.hid hL
  clear hL
  go_enter_defers Tryz.func10, Tryz.ntmps10
  go_wp2_with fail
  refine HL.out.mono ?_
  rintro e w1 ⟨xv, rfl, hR, hb⟩
  have hxx := hx xv _ _ hR
  clear hx
  have c0 : w1.cell? ⟨w.heap.size, 0, none⟩ = some (.slice none 0 0) := by
    rw [hb.cell (p := ⟨w.heap.size, 0, none⟩) (show w.heap.size < w.heap.size + 2 by omega)]; exact cell_more (cell_new _ _ _ 0 _ rfl rfl)
  have c1 : w1.cell? ⟨w.heap.size, 1, none⟩ = some (.slice none 0 0) := by
    rw [hb.cell (p := ⟨w.heap.size, 1, none⟩) (show w.heap.size < w.heap.size + 2 by omega)]; exact cell_more (cell_new _ _ _ 1 _ rfl rfl)
  have d0 : w1.cell? ⟨w.heap.size + 1, 0, none⟩ = some .nilIface := by
    rw [hb.cell (p := ⟨w.heap.size + 1, 0, none⟩) (show w.heap.size + 1 < w.heap.size + 2 by omega)]; exact cell_new _ _ _ 0 _ rfl (by simp)
  have z0 : w1.frozen? ⟨w.heap.size, 0, none⟩ = false := by
    rw [hb.frozen (p := ⟨w.heap.size, 0, none⟩) (show w.heap.size < w.heap.size + 2 by omega)]; exact frozen_more (by simp) (World.frozen?_alloc_new _ _ _ _)
  have z1 : w1.frozen? ⟨w.heap.size, 1, none⟩ = false := by
    rw [hb.frozen (p := ⟨w.heap.size, 1, none⟩) (show w.heap.size < w.heap.size + 2 by omega)]; exact frozen_more (by simp) (World.frozen?_alloc_new _ _ _ _)
  have y0 : w1.frozen? ⟨w.heap.size + 1, 0, none⟩ = false := by
    rw [hb.frozen (p := ⟨w.heap.size + 1, 0, none⟩) (show w.heap.size + 1 < w.heap.size + 2 by omega)]; exact World.frozen?_alloc_at _ _ _ _ (by simp)
  have HR := Lib.hid hR
  have HB := Lib.hid hb
  clear hR hb
  go_wp2_with fail
  have hk2 : Keeps (fun b => b = w.heap.size ∨ b = w.heap.size + 1) w1 (w1.setCell ⟨w.heap.size + 1, 0, none⟩ (.iface tt xv)) := (Keeps.refl (fun b => b = w.heap.size ∨ b = w.heap.size + 1) w1).setCell (p := ⟨w.heap.size + 1, 0, none⟩) (Or.inl (Or.inr rfl)) _
  have e0 : (w1.setCell ⟨w.heap.size + 1, 0, none⟩ (.iface tt xv)).cell? ⟨w.heap.size + 1, 0, none⟩ = some (.iface tt xv) := World.cell?_setCell_same _ _ _ d0
  have e1 : (w1.setCell ⟨w.heap.size + 1, 0, none⟩ (.iface tt xv)).cell? ⟨w.heap.size, 0, none⟩ = some (.slice none 0 0) := by rw [World.cell?_setCell_far _ _ _ _ (show w.heap.size + 1 ≠ w.heap.size by omega)]; exact c0
  have e2 : (w1.setCell ⟨w.heap.size + 1, 0, none⟩ (.iface tt xv)).cell? ⟨w.heap.size, 1, none⟩ = some (.slice none 0 0) := by rw [World.cell?_setCell_far _ _ _ _ (show w.heap.size + 1 ≠ w.heap.size by omega)]; exact c1
  have z02 : (w1.setCell ⟨w.heap.size + 1, 0, none⟩ (.iface tt xv)).frozen? ⟨w.heap.size, 0, none⟩ = false := by rw [World.frozen?_setCell]; exact z0
  have z12 : (w1.setCell ⟨w.heap.size + 1, 0, none⟩ (.iface tt xv)).frozen? ⟨w.heap.size, 1, none⟩ = false := by rw [World.frozen?_setCell]; exact z1
  have y02 : (w1.setCell ⟨w.heap.size + 1, 0, none⟩ (.iface tt xv)).frozen? ⟨w.heap.size + 1, 0, none⟩ = false := by rw [World.frozen?_setCell]; exact y0
  have HK2 := Lib.hid hk2
  clear c0 c1 d0 hk2 z0 z1 y0
  generalize w1.setCell ⟨w.heap.size + 1, 0, none⟩ (.iface tt xv) = w2 at *
  have hn1 : (⟨w.heap.size, 0, none⟩ : Addr).block ≠ (⟨w.heap.size + 1, 0, none⟩ : Addr).block := fun e => by have : w.heap.size = w.heap.size + 1 := e; omega
  refine wp_region_noPanic ?_
  refine wp_region_held_drew (S := fun W' => W'.cell? ⟨w.heap.size + 1, 0, none⟩ = some (.iface tt xv)) (by kernel_rfl) (by simp only [World.cell?_drew]; assumption) (fun hHeld => ?_)
  refine wpAnyH_take (i := 0) (oi := { dst := some 13, op := _, type := _, pos := _, after := _, guard := _ }) (v := .agg #[.slice none 0 0, .slice none 0 0]) rfl (by kernel_rfl) (by kernel_rfl) (by kernel_rfl) (fun _ _ _ h => h) (Or.inl ⟨by rfl, ?_⟩) hHeld ?_
  · intro W9 hSW
    (try dsimp only at hSW)
    go_simp
  try simp only [Act.put, List.setIfInBounds_toArray, List.set_cons_zero, List.set_cons_succ]
  refine wpAnyH_take (i := 1) (oi := { dst := some 14, op := _, type := _, pos := _, after := _, guard := _ }) (v := .iface tt xv) rfl (by kernel_rfl) (by kernel_rfl) (by kernel_rfl) (fun _ _ _ h => h) (Or.inl ⟨by rfl, ?_⟩) hHeld ?_
  · intro W9 hSW
    (try dsimp only at hSW)
    go_simp
  try simp only [Act.put, List.setIfInBounds_toArray, List.set_cons_zero, List.set_cons_succ]
  refine wpAnyH_ready (rs := [2]) (by kernel_rfl) (by simp) ?_
  refine AllReadyH.cons (o := { dst := none, op := _, type := _, pos := _, after := _, guard := _ }) rfl (fun K hK => ?_) AllReadyH.nil
  go_simp
  refine hK.out _ _ ?_ (fun hHeld => ?_)
  · simp only [World.cell?_drew]
    exact (own2 (w := w2) (sb := w.heap.size) (i := 0) (j := 1) (a := .slice none 0 0) (b := .slice none 0 0)).cell_of e0 (fun e => hn1 e.symm)
  clear hK K
  refine wpAnyH_ready (rs := [3]) (by kernel_rfl) (by simp) ?_
  refine AllReadyH.cons (o := { dst := none, op := _, type := _, pos := _, after := _, guard := _ }) rfl (fun K hK => ?_) AllReadyH.nil
  go_simp
  have hks : Keeps (fun b => b = w.heap.size ∨ b = w.heap.size + 1) w2 (((w2.setCell ⟨w.heap.size, 0, none⟩ (.slice none 0 0)).setCell ⟨w.heap.size, 1, none⟩ (.slice none 0 0)).setCell ⟨w.heap.size + 1, 0, none⟩ (.iface tt xv)).drew :=
    (((Keeps.refl (fun b => b = w.heap.size ∨ b = w.heap.size + 1) w2).setCell (S := fun b => b = w.heap.size ∨ b = w.heap.size + 1) (p := ⟨w.heap.size, 0, none⟩) (Or.inl (Or.inl rfl)) _).setCell (S := fun b => b = w.heap.size ∨ b = w.heap.size + 1) (p := ⟨w.heap.size, 1, none⟩) (Or.inl (Or.inl rfl)) _).setCell (S := fun b => b = w.heap.size ∨ b = w.heap.size + 1) (p := ⟨w.heap.size + 1, 0, none⟩) (Or.inl (Or.inr rfl)) _ |>.drew
  have e3 : (((w2.setCell ⟨w.heap.size, 0, none⟩ (.slice none 0 0)).setCell ⟨w.heap.size, 1, none⟩ (.slice none 0 0)).setCell ⟨w.heap.size + 1, 0, none⟩ (.iface tt xv)).cell? ⟨w.heap.size + 1, 0, none⟩ = some (.iface tt xv) := World.cell?_setCell_same _ _ _ ((own2 (w := w2) (sb := w.heap.size) (i := 0) (j := 1) (a := .slice none 0 0) (b := .slice none 0 0)).cell_of e0 (fun e => hn1 e.symm))
  have HKS := Lib.hid hks
  refine hK.out _ _ (by simp only [World.cell?_drew]; exact e3) (fun hHeld => ?_)
  clear hK K
  refine wpAnyH_done (by kernel_rfl) ?_ _
  refine NoPanic.normal ?_
  have hsz := HK2.out.size
  have hbz := HB.out.size
  go_wp2_with fail
  have hb0 : Below w.heap.size w w1 := (((Keeps.refl (fun _ => False) w).alloc _).alloc _ |>.below (Nat.le_refl _) (fun _ _ e => e.elim)).trans (HB.out.mono (by omega))
  have hk02 := HK2.out.trans HKS.out
  refine ⟨.tuple #[.agg #[.slice none 0 0, .slice none 0 0], .iface tt xv], by simp [results, Tryz.results10, go_sem, e0, e1, e2], xv, rfl, w1, HR.out, hk02, hb0.trans (hk02.below hb0.size (fun k _ e => by omega))⟩

set_option maxRecDepth 100000 in
set_option maxHeartbeats 12800000 in
theorem parse_ok {ts : List Tok} (s : ByteArray) (w : World) (hs : s.size ≤ 4000) (hts : lx s.data.toList 0 false = (ts, none)) (hE : TreeEnv w) :
    Calls Tryz.prog 10 #[.string s] w fun e w' => (∃ r, Ev (fun f => Tr.program ⟨ts, s.size⟩ f ⟨[], []⟩ 0) r ∧ match r with
      | .ok src _ => ∃ gv fv, e = .returned (.tuple #[.agg #[gv, fv], .nilIface]) ∧ SrcO w' w.heap.size src gv fv
      | .bad k a => ∃ x, e = .returned (.tuple #[noSrc, x]) ∧ AtErr w' w.heap.size x k a
      | .out => False) ∧ Below w.heap.size w w' := by
  obtain ⟨W0, hW0⟩ : ∃ W0, W0 = (w.alloc (.cells #[.slice none 0 0, .slice none 0 0] 26)).alloc (.cells #[.nilIface] 33) := ⟨_, rfl⟩
  have hsz0 : W0.heap.size = w.heap.size + 2 := by rw [hW0]; simp
  have hb0 : Below w.heap.size w W0 := by rw [hW0]; exact ((Keeps.refl (fun _ => False) w).alloc _).alloc _ |>.below (Nat.le_refl _) (fun _ _ e => e.elim)
  have hB0 : Blk W0 w.heap.size [.slice none 0 0, .slice none 0 0] := by rw [hW0]; exact (Blk.new' w [.slice none 0 0, .slice none 0 0] _ rfl).keeps (S := fun _ => False) ((Keeps.refl _ _).alloc _) id
  have hE0 : Blk W0 (w.heap.size + 1) [.nilIface] := by rw [hW0]; exact Blk.new' _ [.nilIface] _ (by simp)
  have hl := hE.lex.below hb0 (Nat.le_refl _)
  have hLx : LexEnv W0.heap.size W0 := ⟨hl.tabs, hl.errR, hl.sgs, by have := hl.b1; omega, by have := hl.b2; omega, by have := hl.b3; omega, by have := hl.b4; omega⟩
  have hL : Calls Tryz.prog 29 #[.string s] W0 fun e w' => (∃ v, e = .returned (.tuple #[v, .nilIface]) ∧ w'.ownsRow (W0.heap.size + 1) 100 3 v ts.length (cellsT ts)) ∧ Below W0.heap.size W0 w' := (lex_any s W0 hLx).mono fun e w' ⟨h, hb⟩ => by
    unfold LexSays at h
    rw [if_neg (by omega), hts] at h
    exact ⟨h, hb⟩
  obtain ⟨hlen, hnums⟩ := toks_ok _ _ _ _ hts
  have hsl : s.data.toList.length = s.size := by simp
  rw [hsl] at hlen hnums
  have HL := Lib.hid hL
  have HE := Lib.hid hE
  have HNUM : Hid (∀ t ∈ ts, t.kind = 3 → Lib.atoiAll t.text = .ok (numV t.text : Nat) ∧ t.text.length ≤ 4000) := Lib.hid fun t ht hk => ⟨(hnums t ht hk).1, by have := (hnums t ht hk).2; omega⟩
  have HLEN : Hid (ts.length ≤ 10000) := Lib.hid (by omega)
  have HB0 := Lib.hid hb0
  have HBLK := Lib.hid hB0
  have HEB := Lib.hid hE0
  have HSZ := Lib.hid hsz0
  have hmf : ∀ (fn : Fn) (first cap : Array Value) (w : World), (Instr.makeFunc fn first cap).run Tryz.prog w = .ok (.func fn first cap) w := fun _ _ _ _ => rfl
  have hen := err_none
  have hss : s.size ≤ 4000 := hs
  clear hE hb0 hB0 hE0 hl hLx hL hlen hnums hsl hts hsz0 hs
  go_enter_defers Tryz.func10, Tryz.ntmps10
  go_wp2_with fail
  rw [← hW0]
  clear hW0
  refine HL.out.mono ?_
  rintro e w1 ⟨⟨v, rfl, hown⟩, hb1⟩
  have hrow := rowT_own hown
  have hform : ∃ a c, v = .slice a ts.length c := by
    rcases hrow with ⟨e1, e2⟩ | ⟨g, cap, e1, _⟩
    · exact ⟨none, 0, by rw [e1, e2]; rfl⟩
    · exact ⟨_, _, e1⟩
  obtain ⟨va, vc, rfl⟩ := hform
  have hge : ∀ g m c, Value.slice va ts.length vc = .slice (some ⟨g, 0, none⟩) m c → W0.heap.size < g ∧ g < w1.heap.size := fun g m c e => by
    cases e
    have := own_ge hown g rfl
    omega
  have hblk := HBLK.out.fresh hb1
  have heb := HEB.out.fresh hb1
  have d0 := heb.at_ 0 _ rfl
  have y0 := heb.free 0
  have hk1 : Keeps (fun b => b = w.heap.size + 1) w1 (w1.setCell ⟨w.heap.size + 1, 0, none⟩ .nilIface) := own1
  have HROW := Lib.hid hrow
  have HGE := Lib.hid hge
  have HBK := Lib.hid hblk
  have HEK := Lib.hid heb
  have HB1 : Hid (Below w.heap.size w w1) := Lib.hid (HB0.out.trans (hb1.mono (by have := HSZ.out; omega)))
  have HW1 : Hid (w.heap.size + 2 ≤ w1.heap.size) := Lib.hid (by have := HSZ.out; have := hb1.size; omega)
  clear hown hrow hge hblk heb hb1 hk1 HL
  go_wp2_with fail
  have hkw : Keeps (fun b => b = w.heap.size + 1) w1 ((w1.setCell ⟨w.heap.size + 1, 0, none⟩ .nilIface).alloc (.cells #[.slice va ts.length vc, .int .i64 0, .int .i64 (s.size : Nat), .int .i64 0] 70)) := (own1 (w := w1)).alloc _
  have hszs : (w1.setCell ⟨w.heap.size + 1, 0, none⟩ .nilIface).heap.size = w1.heap.size := by simp [World.setCell]
  have hw1 := HW1.out
  have hbw : Below w.heap.size w ((w1.setCell ⟨w.heap.size + 1, 0, none⟩ .nilIface).alloc (.cells #[.slice va ts.length vc, .int .i64 0, .int .i64 (s.size : Nat), .int .i64 0] 70)) := HB1.out.trans (hkw.below (by omega) (fun k _ e => by omega))
  have hR : RdAt ((w1.setCell ⟨w.heap.size + 1, 0, none⟩ .nilIface).alloc (.cells #[.slice va ts.length vc, .int .i64 0, .int .i64 (s.size : Nat), .int .i64 0] 70)) w1.heap.size (.slice va ts.length vc) ⟨ts, s.size⟩ 0 0 :=
    ⟨cell_new _ _ _ 0 _ rfl hszs.symm, cell_new _ _ _ 1 _ rfl hszs.symm, cell_new _ _ _ 2 _ rfl hszs.symm, cell_new _ _ _ 3 _ rfl hszs.symm, World.frozen?_alloc_at _ _ _ _ hszs.symm, World.frozen?_alloc_at _ _ _ _ hszs.symm, HROW.out.keeps hkw (fun g m cap e e2 => by have := (HGE.out g m cap e).1; have := HSZ.out; have : g = w.heap.size + 1 := e2; omega), fun g m cap e => (HGE.out g m cap e).2, Nat.zero_le _, HLEN.out, Nat.zero_le _⟩
  have hb1 := HE.out.b1
  have hb2 := HE.out.b2
  have hT : TEnv w1.heap.size ⟨ts, s.size⟩ ((w1.setCell ⟨w.heap.size + 1, 0, none⟩ .nilIface).alloc (.cells #[.slice va ts.length vc, .int .i64 0, .int .i64 (s.size : Nat), .int .i64 0] 70)) :=
    ⟨fun k hk => by rw [hbw.cell (p := ⟨0, k, none⟩) hb1]; exact HE.out.signs k hk, fun k hk => by rw [hbw.cell (p := ⟨2, k, none⟩) hb2]; exact HE.out.kinds k hk, by omega, by omega, HNUM.out⟩
  have HPR := Lib.hid (program_any _ hR hT)
  have HKW := Lib.hid hkw
  have HBW := Lib.hid hbw
  have HSS := Lib.hid hszs
  clear hkw hszs hw1 hbw hR hb1 hb2 hT d0 y0
  refine HPR.out.mono ?_
  rintro e w3 ⟨r, hev, hsay⟩
  have HEV := Lib.hid hev
  clear hev
  have hw1 := HW1.out
  have hsz2 : w1.heap.size + 1 = ((w1.setCell ⟨w.heap.size + 1, 0, none⟩ .nilIface).alloc (.cells #[.slice va ts.length vc, .int .i64 0, .int .i64 (s.size : Nat), .int .i64 0] 70)).heap.size := by simp [World.setCell]
  have hbk2 := HBK.out.keeps HKW.out (fun e => by have : w.heap.size = w.heap.size + 1 := e; omega)
  have hek2 : Blk ((w1.setCell ⟨w.heap.size + 1, 0, none⟩ .nilIface).alloc (.cells #[.slice va ts.length vc, .int .i64 0, .int .i64 (s.size : Nat), .int .i64 0] 70)) (w.heap.size + 1) [.nilIface] := (HEK.out.set 0 .nilIface (by simp)).keeps (S := fun _ => False) ((Keeps.refl _ _).alloc _) id
  cases r with
  | out => exact hsay.elim
  | bad k a =>
    obtain ⟨b, rfl, hbb, hc0, hc1, hblw⟩ := hsay
    have hbk3 : Blk w3 w.heap.size [.slice none 0 0, .slice none 0 0] := ⟨fun j v hv => by rw [hblw.cell (p := ⟨w.heap.size, j, none⟩) (show w.heap.size < w1.heap.size by omega)]; exact hbk2.at_ j v hv, fun j => by rw [hblw.frozen (p := ⟨w.heap.size, j, none⟩) (show w.heap.size < w1.heap.size by omega)]; exact hbk2.free j, Nat.lt_of_lt_of_le hbk2.lt hblw.size⟩
    have hek3 : Blk w3 (w.heap.size + 1) [.nilIface] := ⟨fun j v hv => by rw [hblw.cell (p := ⟨w.heap.size + 1, j, none⟩) (show w.heap.size + 1 < w1.heap.size by omega)]; exact hek2.at_ j v hv, fun j => by rw [hblw.frozen (p := ⟨w.heap.size + 1, j, none⟩) (show w.heap.size + 1 < w1.heap.size by omega)]; exact hek2.free j, Nat.lt_of_lt_of_le hek2.lt hblw.size⟩
    have hbw3 := HBW.out.trans (hblw.mono (show w.heap.size ≤ w1.heap.size by omega))
    have hks : Keeps (fun b => b = w.heap.size ∨ b = w.heap.size + 1) w3 (((w3.setCell ⟨w.heap.size, 0, none⟩ (.slice none 0 0)).setCell ⟨w.heap.size, 1, none⟩ (.slice none 0 0)).setCell ⟨w.heap.size + 1, 0, none⟩ (.iface 107 (.pointer (some ⟨b, 0, none⟩)))) :=
      (((Keeps.refl (fun b => b = w.heap.size ∨ b = w.heap.size + 1) w3).setCell (S := fun b => b = w.heap.size ∨ b = w.heap.size + 1) (p := ⟨w.heap.size, 0, none⟩) (Or.inl (Or.inl rfl)) _).setCell (S := fun b => b = w.heap.size ∨ b = w.heap.size + 1) (p := ⟨w.heap.size, 1, none⟩) (Or.inl (Or.inl rfl)) _).setCell (S := fun b => b = w.heap.size ∨ b = w.heap.size + 1) (p := ⟨w.heap.size + 1, 0, none⟩) (Or.inl (Or.inr rfl)) _
    have c0 := hbk3.at_ 0 _ rfl
    have c1 := hbk3.at_ 1 _ rfl
    have d0 := hek3.at_ 0 _ rfl
    refine leaves_cons (f := 30) (args := #[.pointer (some ⟨w.heap.size, 0, none⟩), .pointer (some ⟨w.heap.size + 1, 0, none⟩)]) (by simp) (by simp [go_sem]) ?_
    refine (parseCatch w.heap.size (w.heap.size + 1) b _ _ _ [] w3 c0 c1 d0 (hbk3.free 0) (hbk3.free 1) (hek3.free 0) (by omega)).mono ?_
    rintro e u' w'' ⟨rfl, rfl, rfl⟩
    have hlt3 := hek3.lt
    refine ⟨.tuple #[.agg #[.slice none 0 0, .slice none 0 0], .iface 107 (.pointer (some ⟨b, 0, none⟩))], by simp [results, Tryz.results10, go_sem, c0, c1, d0], ⟨.bad k a, HEV.out, _, rfl, b, rfl, by omega, hks.cell_of hc0 (fun e => by have : b = w.heap.size ∨ b = w.heap.size + 1 := e; omega), hks.cell_of hc1 (fun e => by have : b = w.heap.size ∨ b = w.heap.size + 1 := e; omega)⟩, hbw3.trans (hks.below (B := w.heap.size) (by omega) (fun k _ e => by omega))⟩
  | ok src m =>
    obtain ⟨v3, rfl, ⟨gv, fv, rfl, hsf⟩, hr3, hk3⟩ := hsay
    obtain ⟨⟨ga, gl, gc, rfl⟩, fa, fl, fc, rfl⟩ := hsf.form
    have hbk3 := hbk2.keeps hk3 (fun e => by have : w.heap.size = w1.heap.size := e; omega)
    have hek3 := hek2.keeps hk3 (fun e => by have : w.heap.size + 1 = w1.heap.size := e; omega)
    have c0 := hbk3.at_ 0 _ rfl
    have c1 := hbk3.at_ 1 _ rfl
    have z0 := hbk3.free 0
    have z1 := hbk3.free 1
    have d0 := hek3.at_ 0 _ rfl
    have y0 := hek3.free 0
    have HSF := Lib.hid hsf
    have HK3 := Lib.hid hk3
    clear hbk2 hek2 hbk3 hek3 hsf hr3 hk3
    go_wp2_with fail
    have hks : Keeps (fun b => b = w.heap.size ∨ b = w.heap.size + 1) w3 (((w3.setCell ⟨w.heap.size, 0, none⟩ (.slice ga gl gc)).setCell ⟨w.heap.size, 1, none⟩ (.slice fa fl fc)).setCell ⟨w.heap.size + 1, 0, none⟩ .nilIface) :=
      (((Keeps.refl (fun b => b = w.heap.size ∨ b = w.heap.size + 1) w3).setCell (S := fun b => b = w.heap.size ∨ b = w.heap.size + 1) (p := ⟨w.heap.size, 0, none⟩) (Or.inl (Or.inl rfl)) _).setCell (S := fun b => b = w.heap.size ∨ b = w.heap.size + 1) (p := ⟨w.heap.size, 1, none⟩) (Or.inl (Or.inl rfl)) _).setCell (S := fun b => b = w.heap.size ∨ b = w.heap.size + 1) (p := ⟨w.heap.size + 1, 0, none⟩) (Or.inl (Or.inr rfl)) _
    refine leaves_cons (f := 30) (args := #[.pointer (some ⟨w.heap.size, 0, none⟩), .pointer (some ⟨w.heap.size + 1, 0, none⟩)]) (by simp) (by simp [go_sem]) ?_
    refine (parseIdle ⟨w.heap.size, 0, none⟩ ⟨w.heap.size + 1, 0, none⟩ _).mono ?_
    rintro e u' w'' ⟨rfl, rfl, rfl⟩
    have hsz3 := HK3.out.size
    have hbf := (HBW.out.trans (HK3.out.below (by omega) (fun k _ e => by have : k = w1.heap.size := e; omega))).trans (hks.below (B := w.heap.size) (by omega) (fun k _ e => by omega))
    refine ⟨.tuple #[.agg #[.slice ga gl gc, .slice fa fl fc], .nilIface], by simp [results, Tryz.results10, go_sem, c0, c1, d0], ⟨.ok src m, HEV.out, _, _, rfl, ?_⟩, hbf⟩
    exact SrcO.mono (by omega) (HSF.out.keeps hks (fun b e e2 => by omega))

theorem treeParse_any (s : ByteArray) (w : World) (hE : TreeEnv w) : Calls Tryz.prog 10 #[.string s] w fun e w' => ParseSays w w' s e ∧ Below w.heap.size w w' := by
  have hb0 : Below w.heap.size w ((w.alloc (.cells #[.slice none 0 0, .slice none 0 0] 26)).alloc (.cells #[.nilIface] 33)) := ((Keeps.refl (fun _ => False) w).alloc _).alloc _ |>.below (Nat.le_refl _) (fun _ _ e => e.elim)
  have hsz0 : ((w.alloc (.cells #[.slice none 0 0, .slice none 0 0] 26)).alloc (.cells #[.nilIface] 33)).heap.size = w.heap.size + 2 := by simp
  have hl := hE.lex.below hb0 (Nat.le_refl _)
  have hLx : LexEnv ((w.alloc (.cells #[.slice none 0 0, .slice none 0 0] 26)).alloc (.cells #[.nilIface] 33)).heap.size ((w.alloc (.cells #[.slice none 0 0, .slice none 0 0] 26)).alloc (.cells #[.nilIface] 33)) := ⟨hl.tabs, hl.errR, hl.sgs, by have := hl.b1; omega, by have := hl.b2; omega, by have := hl.b3; omega, by have := hl.b4; omega⟩
  have hL := lex_any s _ hLx
  by_cases hs : 4000 < s.size
  · refine (parse_err (tt := 27) (R := fun xv _ _ => xv = .int .i64 4) (fun xv _ _ h W => by rw [h]; exact err_no 4 W) s w (hL.mono fun e w' ⟨h, hb⟩ => ?_)).mono ?_
    · unfold LexSays at h
      rw [if_pos hs] at h
      exact ⟨_, h, rfl, by rw [hsz0] at hb; exact hb⟩
    · rintro e w' ⟨xv, rfl, w1, rfl, _, hb⟩
      refine ⟨?_, hb⟩
      unfold ParseSays
      rw [if_pos hs]
  · cases hq : lx s.data.toList 0 false with
    | mk ts o =>
      cases o with
      | none =>
        refine (parse_ok s w (by omega) hq hE).mono ?_
        rintro e w' ⟨h, hb⟩
        refine ⟨?_, hb⟩
        unfold ParseSays
        rw [if_neg hs, hq]
        exact h
      | some ra =>
        obtain ⟨r, a⟩ := ra
        refine (parse_err (tt := 107) (R := fun xv W w' => ∃ b, xv = .pointer (some ⟨b, 0, none⟩) ∧ W.heap.size < b ∧ w'.cell? ⟨b, 0, none⟩ = some (.int .i64 r) ∧ w'.cell? ⟨b, 1, none⟩ = some (.int .i64 a)) (fun xv _ _ ⟨b, h, _⟩ W => by rw [h]; exact err_at _ W) s w (hL.mono fun e w' ⟨h, hb⟩ => ?_)).mono ?_
        · unfold LexSays at h
          rw [if_neg hs, hq] at h
          obtain ⟨x, h1, b, rfl, h2, h3, h4⟩ := h
          exact ⟨_, h1, ⟨b, rfl, h2, h3, h4⟩, by rw [hsz0] at hb; exact hb⟩
        · rintro e w' ⟨xv, rfl, w1, ⟨b, rfl, h2, h3, h4⟩, hk, hb⟩
          refine ⟨?_, hb⟩
          unfold ParseSays
          rw [if_neg hs, hq]
          rw [hsz0] at h2
          exact ⟨_, rfl, b, rfl, by omega, hk.cell_of h3 (fun e => by have : b = w.heap.size ∨ b = w.heap.size + 1 := e; omega), hk.cell_of h4 (fun e => by have : b = w.heap.size ∨ b = w.heap.size + 1 := e; omega)⟩
end Go.Proofs.YtgonbmcojjcabaaGreatDoor

namespace Go.Proofs.YtgonbmcojjcabaaGreatDoor
open Go.RowKit

theorem info_byte : (Tryz.prog.info? 5).map (fun i => (i.zero, i.size, i.bytes)) = some (some (.int .u8 0), 1, 1) := by kernel_rfl
theorem bc_snoc (l : List UInt8) (s : ByteArray) : Lib.byteCells l ++ Lib.strCells s = Lib.byteCells (l ++ s.data.toList) := by
  rw [Lib.strCells_eq]; simp [Lib.byteCells]
/-- A builder, in a block of the call's own, that holds the bytes l. -/
def PB (B b : Nat) (l : List UInt8) (w : World) : Prop := Lib.IsBuilder 80 5 B b ((Lib.byteCells l)) w

/-- .. and whose buffer is nil as long as it holds none. -/
def PC (B b : Nat) (l : List UInt8) (w : World) : Prop := PB B b l w ∧ (l = [] → w.cell? ⟨b, 1, none⟩ = some (.slice none 0 0))
/-- Blocks of other things stay as they are. -/
def Others (b : Nat) (w w' : World) : Prop := ∀ (k : Nat) (xs : Array Value) (e : TypeId) (fz : Nat × Nat), k ≠ b → e ≠ 5 → w.heap[k]? = some (Obj.cells xs e fz) → w'.heap[k]? = some (Obj.cells xs e fz)
theorem Others.trans {b : Nat} {a w w' : World} (h : Others b a w) (k : Others b w w') : Others b a w' := fun i xs e fz h1 h2 h3 => k i xs e fz h1 h2 (h i xs e fz h1 h2 h3)
theorem Others.refl (b : Nat) (w : World) : Others b w w := fun _ _ _ _ _ _ h => h
theorem pb_size : (Tryz.prog.info? 78).map (·.size) = some 2 := by kernel_rfl
theorem pb_lies : liesAt Tryz.prog Tryz.prog.depth 80 (2 / Tryz.prog.cellsOf 80) 0 78 1 = true := by kernel_rfl

set_option maxRecDepth 100000 in
set_option maxHeartbeats 1000000 in
theorem pCheck_used (b : Nat) (w : World) (h0 : w.cell? ⟨b, 0, none⟩ = some (.pointer (some ⟨b, 0, none⟩))) :
    Calls Tryz.prog 124 #[.pointer (some ⟨b, 0, none⟩)] w fun e w' => e = .returned (.tuple #[]) ∧ w' = w := by
  obtain ⟨j, hj, _⟩ := Option.map_eq_some_iff.1 pb_size
  go_enter Tryz.func124, Tryz.ntmps124
  go_wp2
  rw [Lib.run_neq_ptr_same w _ Tryz.underlying75 hj]
  go_wp2
  go_end0
  exact ⟨rfl, rfl⟩

set_option maxRecDepth 100000 in
set_option maxHeartbeats 1000000 in
theorem pCheck_fresh (b : Nat) (w : World) (h0 : w.cell? ⟨b, 0, none⟩ = some (.pointer none)) (hsh : w.shape? b = some (80, 2)) (hfz : w.frozen? ⟨b, 0, none⟩ = false) :
    Calls Tryz.prog 124 #[.pointer (some ⟨b, 0, none⟩)] w fun e w' => e = .returned (.tuple #[]) ∧ w' = w.setCell ⟨b, 0, none⟩ (.pointer (some ⟨b, 0, none⟩)) := by
  obtain ⟨j, hj, hjs⟩ := Option.map_eq_some_iff.1 pb_size
  go_enter Tryz.func124, Tryz.ntmps124
  go_wp2
  rw [Lib.run_to_unsafe w ⟨b, 0, none⟩ Tryz.underlying75 Tryz.underlying125 hj (by rw [hjs]; decide) hsh (Nat.zero_lt_succ 1)]
  simp only [Result.andThen]
  rw [Oper.upon_value]
  go_wp2
  rw [run_callFunc_extern Tryz.func151 (by kernel_rfl) (by kernel_rfl) (by kernel_rfl) (e := Extern.AbiNoEscape.same) (by kernel_rfl)]
  rw [Lib.run_noEscape]
  simp only [Result.andThen]
  rw [Oper.upon_value]
  go_wp2
  rw [Lib.run_from_unsafe w ⟨b, 0, none⟩ Tryz.underlying125 Tryz.underlying75 hj hsh pb_lies]
  simp only [Result.andThen]
  rw [Oper.upon_value]
  go_wp2
  go_end0
  exact ⟨rfl, rfl⟩
theorem pCheck_any (B b : Nat) (l : List UInt8) (w : World) (h : PB B b l w) :
    Calls Tryz.prog 124 #[.pointer (some ⟨b, 0, none⟩)] w fun e w' => e = .returned (.tuple #[]) ∧ (Lib.BuilderAt 80 5 B b (.pointer (some ⟨b, 0, none⟩)) ((Lib.byteCells l)) w' ∧ Below B w w' ∧ w'.cell? ⟨b, 1, none⟩ = w.cell? ⟨b, 1, none⟩ ∧ ∀ k, k ≠ b → w'.heap[k]? = w.heap[k]?) := by
  rcases h with h | h
  · refine (pCheck_fresh b w h.cell0 h.shape h.frozen0).mono ?_
    rintro e w' ⟨rfl, rfl⟩
    exact ⟨rfl, h.used _, (Below.refl B w).setCell (p := ⟨b, 0, none⟩) h.1 _, World.cell?_setCell_other _ _ _ _ (off_neq (by decide) b), fun k hk => Below.heap_setCell _ _ _ _ hk⟩
  · refine (pCheck_used b w h.cell0).mono ?_
    rintro e w' ⟨rfl, rfl⟩
    exact ⟨rfl, h, Below.refl B _, rfl, fun _ _ => rfl⟩

set_option maxRecDepth 100000 in
set_option maxHeartbeats 1000000 in
theorem pWrite_any (B b : Nat) (l : List UInt8) (s : ByteArray) (w : World) (h : PC B b l w) (hlen : l.length + s.size ≤ 1000000) (hBw : B ≤ w.heap.size) :
    Calls Tryz.prog 96 #[.pointer (some ⟨b, 0, none⟩), .string s] w fun e w' => e = .returned (.tuple #[.int .i64 s.size, .nilIface]) ∧ (PC B b (l ++ s.data.toList) w' ∧ Below B w w' ∧ Others b w w') := by
  obtain ⟨i0, hi, hz0, hz1, hz2⟩ := tinfo info_byte
  go_enter Tryz.func96, Tryz.ntmps96
  go_wp2_with fail
  refine (pCheck_any B b l _ h.1).mono ?_
  rintro e w1 ⟨rfl, h1, hb1, hc1, hot⟩
  have HOT := Lib.hid hot
  clear hot
  have HC1 := Lib.hid hc1
  have HPC := Lib.hid h
  clear hc1 h
  obtain ⟨hB, v, hbk, hown, hne⟩ := h1
  have c0 : w1.cell? ⟨b, 0, none⟩ = some (.pointer (some ⟨b, 0, none⟩)) := by rw [Lib.cell_of_heap hbk]; rfl
  have c1 : w1.cell? ⟨b, 1, none⟩ = some v := by rw [Lib.cell_of_heap hbk]; rfl
  have hcl := Lib.byteCells_length l
  go_wp2_with (at_builtin; refine Lib.wpList_append_own_string _ rfl _ _ 76 9 rfl B 5 i0 Tryz.underlying76 Tryz.underlying9 hi hz0 hz1 hz2 _ _ _ rfl hown s rfl ?c3 ?c4 ?c5 ?_)
  case c3 => unfold maxLen; omega
  case c4 => omega
  case c5 => have := hb1.size; omega
  intro v' w2 hown' hgrow hiff
  have hnil : l ++ s.data.toList = [] → v' = .slice none 0 0 := fun e => by
    obtain ⟨e1, e2⟩ := List.append_eq_nil_iff.1 e
    refine hiff.2 ⟨?_, by have : s.data.toList.length = s.size := by simp
                          rw [e2] at this; simpa using this.symm⟩
    have h9 := HPC.out.2 e1
    rw [← HC1.out, c1] at h9
    exact Option.some.inj h9
  have HNIL := Lib.hid hnil
  have HOTH : Hid (∀ (k : Nat) (xs : Array Value) (e : TypeId) (fz : Nat × Nat), e ≠ 5 → w1.heap[k]? = some (Obj.cells xs e fz) → w2.heap[k]? = some (Obj.cells xs e fz)) := Lib.hid fun k xs e fz he hk => by
    rw [hgrow.block k (Array.getElem?_eq_some_iff.1 hk).1 (fun e2 => ?_)]
    · exact hk
    · rcases hown.2 with ⟨rfl, _⟩ | ⟨g, cap, cur, rfl, _, hg, _⟩
      · cases e2
      · have e3 : k = g := Option.some.inj e2
        rw [e3, hg] at hk
        have e4 := Option.some.inj hk
        injection e4 with _ e5 _
        exact he e5.symm
  clear hnil hiff
  have hlt : b < w1.heap.size := by
    rcases Nat.lt_or_ge b w1.heap.size with h' | h'
    · exact h'
    · simp [Array.getElem?_eq_none h'] at hbk
  have hb2 : w2.heap[b]? = some (.cells #[.pointer (some ⟨b, 0, none⟩), v] 80 (0, 0)) := by
    rw [hgrow.block b hlt (fun e => hne e.symm)]
    exact hbk
  have d0 : w2.cell? ⟨b, 0, none⟩ = some (.pointer (some ⟨b, 0, none⟩)) := by rw [Lib.cell_of_heap hb2]; rfl
  have d1 : w2.cell? ⟨b, 1, none⟩ = some v := by rw [Lib.cell_of_heap hb2]; rfl
  have f1 : w2.frozen? ⟨b, 1, none⟩ = false := Lib.frozen_of_heap hb2 1
  obtain ⟨ao, n', cap, rfl⟩ : ∃ ao n' cap, v' = .slice ao n' cap := by
    rcases hown'.2 with ⟨hv, _⟩ | ⟨g, cap, cur, hv, _⟩
    · exact ⟨_, _, _, hv⟩
    · exact ⟨_, _, _, hv⟩
  have HO := Lib.hid hown'
  have HB3 := Lib.hid (hb1.grown hgrow (by have := hb1.size; omega) (fun k hk => (hown.lt k hk).1))
  clear hown' hgrow hown hbk c0 c1
  go_wp2
  go_ret2
  refine ⟨rfl, ⟨Or.inr ?_, fun e => by rw [HNIL.out e]; exact World.cell?_setCell_same _ _ _ d1⟩, HB3.out.setCell (p := ⟨b, 1, none⟩) hB _, fun k xs e fz hk he hx => by
    rw [Below.heap_setCell _ _ _ _ hk]
    exact HOTH.out k xs e fz he (by rw [HOT.out k hk]; exact hx)⟩
  have := Lib.BuilderAt.put (T := 80) (e := 5) hB hb2 (bs' := (Lib.byteCells l) ++ Lib.strCells s) (by simpa [Lib.strCells_length, Lib.byteCells_length] using HO.out) (by decide)
  rwa [bc_snoc] at this


theorem keeps_freeze (w : World) (p : Addr) (n : Nat) : Keeps (fun k => k = p.block) w (w.freeze p n) := by
  unfold World.freeze
  split
  · exact Keeps.refl _ _
  · exact ⟨rfl, rfl, rfl, by simp, fun k hk hn => by
      simp only [Array.getElem?_modify]
      rw [if_neg (fun e => hn e.symm)]⟩
set_option maxRecDepth 100000 in
set_option maxHeartbeats 3200000 in
theorem pString_some (B b : Nat) (l : List UInt8) (w : World) (h : PB B b l w) (h0 : l ≠ []) :
    Calls Tryz.prog 37 #[.pointer (some ⟨b, 0, none⟩)] w fun e w' => e = .returned (.string ⟨l.toArray⟩) ∧ Below B w w' := by
  obtain ⟨p, hB, v, hbk, hown, hne⟩ : ∃ p, Lib.BuilderAt 80 5 B b p (Lib.byteCells l) w := by
    rcases h with h | h
    · exact ⟨_, h⟩
    · exact ⟨_, h⟩
  have hl0 : l.length ≠ 0 := by simpa using h0
  rw [Lib.byteCells_length] at hown
  have hcl := hown.1
  obtain ⟨g, cap, hv, hge, hcap, hcm, hsh⟩ : ∃ g cap, v = .slice (some ⟨g, 0, none⟩) l.length cap ∧ B ≤ g ∧ l.length ≤ cap ∧ cap ≤ maxLen ∧ w.shape? g = some (5, cap) := by
    rcases hown.2 with ⟨_, hz⟩ | ⟨g, cap, cur, hv, h1, h2, h3, h4, h5, _⟩
    · exact absurd hz hl0
    · exact ⟨g, cap, hv, h1, h3, h4, by simp [World.shape?, h2]; omega⟩
  subst hv
  have hbg : g ≠ b := fun e => hne (by rw [e]; rfl)
  have c1 : w.cell? ⟨b, 1, none⟩ = some (.slice (some ⟨g, 0, none⟩) l.length cap) := by rw [Lib.cell_of_heap hbk]; rfl
  have hSD : ∀ W, (Builtin.unsafeSliceData_ #[76] 121 #[.slice (some ⟨g, 0, none⟩) l.length cap]).run Tryz.prog W = .ok (.pointer (some ⟨g, 0, none⟩)) W := fun W => Lib.run_unsafeSliceData_row _ _ _ _ _ _ (by omega)
  have hcells : ∀ (j : Nat) (x : UInt8), l[j]? = some x → w.drew.cell? ((⟨g, 0, none⟩ : Addr).add j) = some (.int .u8 x.toNat) := fun j x hx => hown.cells (g := g) rfl j (.int .u8 x.toNat) (by simp [Lib.byteCells, hx])
  have hUS : (Builtin.unsafeString_ #[121, 3] 9 #[.pointer (some ⟨g, 0, none⟩), .int .i64 l.length]).run Tryz.prog w.drew = .ok (.string ⟨l.toArray⟩) (w.drew.freeze ⟨g, 0, none⟩ l.length) :=
    Lib.run_unsafeString_row w.drew 121 3 9 5 Tryz.underlying121 (by kernel_rfl) g cap hsh l h0 hcap (by unfold maxLen at hcm; omega) hcells
  clear hcells hown hbk h hsh
  go_enter Tryz.func37, Tryz.ntmps37
  go_wp2_with fail
  refine wp_region_held_drew (S := fun W' => W'.cell? ⟨b, 1, none⟩ = some (.slice (some ⟨g, 0, none⟩) l.length cap)) (by kernel_rfl) (by simp only [World.cell?_drew]; assumption) (fun hHeld => ?_)
  refine wpAnyH_take (i := 0) (oi := { dst := some 3, op := _, type := _, pos := _, after := _, guard := _ }) (v := .pointer (some ⟨b, 0, none⟩)) rfl (by kernel_rfl) (by kernel_rfl) (by kernel_rfl) (fun _ _ _ h => h) (Or.inl ⟨by rfl, ?_⟩) hHeld ?_
  · intro W9 hSW
    (try dsimp only at hSW)
    go_simp
  try simp only [Act.put, List.setIfInBounds_toArray, List.set_cons_zero, List.set_cons_succ]
  refine wpAnyH_take (i := 1) (oi := { dst := some 4, op := _, type := _, pos := _, after := _, guard := _ }) (v := .pointer (some ⟨b, 0, none⟩)) rfl (by kernel_rfl) (by kernel_rfl) (by kernel_rfl) (fun _ _ _ h => h) (Or.inl ⟨by rfl, ?_⟩) hHeld ?_
  · intro W9 hSW
    (try dsimp only at hSW)
    go_simp
  try simp only [Act.put, List.setIfInBounds_toArray, List.set_cons_zero, List.set_cons_succ]
  refine wpAnyH_take (i := 2) (oi := { dst := some 5, op := _, type := _, pos := _, after := _, guard := _ }) (v := .pointer (some ⟨b, 1, none⟩)) rfl (by kernel_rfl) (by kernel_rfl) (by kernel_rfl) (fun _ _ _ h => h) (Or.inl ⟨by rfl, ?_⟩) hHeld ?_
  · intro W9 hSW
    (try dsimp only at hSW)
    go_simp
  try simp only [Act.put, List.setIfInBounds_toArray, List.set_cons_zero, List.set_cons_succ]
  refine wpAnyH_take (i := 3) (oi := { dst := some 6, op := _, type := _, pos := _, after := _, guard := _ }) (v := .slice (some ⟨g, 0, none⟩) l.length cap) rfl (by kernel_rfl) (by kernel_rfl) (by kernel_rfl) (fun _ _ _ h => h) (Or.inl ⟨by rfl, ?_⟩) hHeld ?_
  · intro W9 hSW
    (try dsimp only at hSW)
    go_simp
  try simp only [Act.put, List.setIfInBounds_toArray, List.set_cons_zero, List.set_cons_succ]
  refine wpAnyH_take (i := 4) (oi := { dst := some 7, op := _, type := _, pos := _, after := _, guard := _ }) (v := .pointer (some ⟨g, 0, none⟩)) rfl (by kernel_rfl) (by kernel_rfl) (by kernel_rfl) (fun _ _ _ h => h) (Or.inl ⟨by rfl, ?_⟩) hHeld ?_
  · intro W9 hSW
    (try dsimp only at hSW)
    go_simp
  try simp only [Act.put, List.setIfInBounds_toArray, List.set_cons_zero, List.set_cons_succ]
  refine wpAnyH_take (i := 5) (oi := { dst := some 8, op := _, type := _, pos := _, after := _, guard := _ }) (v := .pointer (some ⟨b, 0, none⟩)) rfl (by kernel_rfl) (by kernel_rfl) (by kernel_rfl) (fun _ _ _ h => h) (Or.inl ⟨by rfl, ?_⟩) hHeld ?_
  · intro W9 hSW
    (try dsimp only at hSW)
    go_simp
  try simp only [Act.put, List.setIfInBounds_toArray, List.set_cons_zero, List.set_cons_succ]
  refine wpAnyH_take (i := 6) (oi := { dst := some 9, op := _, type := _, pos := _, after := _, guard := _ }) (v := .pointer (some ⟨b, 0, none⟩)) rfl (by kernel_rfl) (by kernel_rfl) (by kernel_rfl) (fun _ _ _ h => h) (Or.inl ⟨by rfl, ?_⟩) hHeld ?_
  · intro W9 hSW
    (try dsimp only at hSW)
    go_simp
  try simp only [Act.put, List.setIfInBounds_toArray, List.set_cons_zero, List.set_cons_succ]
  refine wpAnyH_take (i := 7) (oi := { dst := some 10, op := _, type := _, pos := _, after := _, guard := _ }) (v := .pointer (some ⟨b, 1, none⟩)) rfl (by kernel_rfl) (by kernel_rfl) (by kernel_rfl) (fun _ _ _ h => h) (Or.inl ⟨by rfl, ?_⟩) hHeld ?_
  · intro W9 hSW
    (try dsimp only at hSW)
    go_simp
  try simp only [Act.put, List.setIfInBounds_toArray, List.set_cons_zero, List.set_cons_succ]
  refine wpAnyH_take (i := 8) (oi := { dst := some 11, op := _, type := _, pos := _, after := _, guard := _ }) (v := .slice (some ⟨g, 0, none⟩) l.length cap) rfl (by kernel_rfl) (by kernel_rfl) (by kernel_rfl) (fun _ _ _ h => h) (Or.inl ⟨by rfl, ?_⟩) hHeld ?_
  · intro W9 hSW
    (try dsimp only at hSW)
    go_simp
  try simp only [Act.put, List.setIfInBounds_toArray, List.set_cons_zero, List.set_cons_succ]
  refine wpAnyH_take (i := 9) (oi := { dst := some 12, op := _, type := _, pos := _, after := _, guard := _ }) (v := .int .i64 (l.length : Nat)) rfl (by kernel_rfl) (by kernel_rfl) (by kernel_rfl) (fun _ _ _ h => h) (Or.inl ⟨by rfl, ?_⟩) hHeld ?_
  · intro W9 hSW
    (try dsimp only at hSW)
    go_simp
  try simp only [Act.put, List.setIfInBounds_toArray, List.set_cons_zero, List.set_cons_succ]
  refine wpAnyH_ready (rs := [10]) (by kernel_rfl) (by simp) ?_
  refine AllReadyH.cons (o := { dst := some 13, op := _, type := _, pos := _, after := _, guard := _ }) rfl (fun K hK => ?_) AllReadyH.nil
  go_simp
  have hkf : Keeps (fun k => k = g) w.drew (w.drew.freeze ⟨g, 0, none⟩ l.length) := keeps_freeze w.drew ⟨g, 0, none⟩ l.length
  refine hK.out _ _ (hkf.cell_of c1 (fun e => hbg e.symm)) (fun hHeld => ?_)
  clear hK K
  refine wpAnyH_take (i := 11) (oi := { dst := some 2, op := _, type := _, pos := _, after := _, guard := _ }) (v := .string ⟨l.toArray⟩) rfl (by kernel_rfl) (by kernel_rfl) (by kernel_rfl) (fun _ _ _ h => h) (Or.inl ⟨by rfl, ?_⟩) hHeld ?_
  · intro W9 hSW
    (try dsimp only at hSW)
    go_simp
  try simp only [Act.put, List.setIfInBounds_toArray, List.set_cons_zero, List.set_cons_succ]
  refine wpAnyH_done (by kernel_rfl) ?_ _
  go_wp2_with fail
  go_ret
  exact ⟨rfl, Lib.below_freeze (Below.drew (Below.refl B w)) (p := ⟨g, 0, none⟩) hge _⟩
set_option maxRecDepth 100000 in
set_option maxHeartbeats 3200000 in
theorem pString_none (B b : Nat) (w : World) (c1 : w.cell? ⟨b, 1, none⟩ = some (.slice none 0 0)) : Calls Tryz.prog 37 #[.pointer (some ⟨b, 0, none⟩)] w fun e w' => e = .returned (.string ⟨#[]⟩) ∧ Below B w w' := by
  have hSD : ∀ W, (Builtin.unsafeSliceData_ #[76] 121 #[.slice none 0 0]).run Tryz.prog W = .ok (.pointer none) W := fun W => by kernel_rfl
  have hUS : ∀ W, (Builtin.unsafeString_ #[121, 3] 9 #[.pointer none, .int .i64 0]).run Tryz.prog W = .ok (.string ⟨#[]⟩) W := fun W => by kernel_rfl
  go_enter Tryz.func37, Tryz.ntmps37
  go_wp2_with fail
  go_quiet (fail)
  go_wp2_with fail
  go_ret
  exact ⟨rfl, below_drewNs (Below.refl B w) _⟩
theorem pString_any (B b : Nat) (l : List UInt8) (w : World) (h : PC B b l w) : Calls Tryz.prog 37 #[.pointer (some ⟨b, 0, none⟩)] w fun e w' => e = .returned (.string ⟨l.toArray⟩) ∧ Below B w w' := by
  cases l with
  | nil => exact pString_none B b w (h.2 rfl)
  | cons x r => exact pString_some B b (x :: r) w h.1 (by simp)
end Go.Proofs.YtgonbmcojjcabaaGreatDoor

namespace Go.Proofs.YtgonbmcojjcabaaGreatDoor
open Go.RowKit Lx Tr

def catV : List ByteArray → List UInt8
  | [] => []
  | x :: xs => x.data.toList ++ catV xs
theorem catV_snoc : ∀ (l : List ByteArray) (x : ByteArray), catV (l ++ [x]) = catV l ++ x.data.toList
  | [], x => by simp [catV]
  | y :: l, x => by show y.data.toList ++ catV (l ++ [x]) = _; rw [catV_snoc l x, ← List.append_assoc]; rfl
theorem catV_take {ps : List ByteArray} {k : Nat} {x : ByteArray} (h : ps[k]? = some x) : catV (ps.take (k + 1)) = catV (ps.take k) ++ x.data.toList := by
  rw [List.take_add_one, h]
  exact catV_snoc _ _
theorem catV_le : ∀ (ps : List ByteArray) (k : Nat), (catV (ps.take k)).length ≤ (catV ps).length
  | [], k => by simp [catV]
  | x :: xs, 0 => Nat.zero_le _
  | x :: xs, k + 1 => by
    show (x.data.toList ++ catV (xs.take k)).length ≤ (x.data.toList ++ catV xs).length
    rw [List.length_append, List.length_append]
    exact Nat.add_le_add_left (catV_le xs k) _

set_option maxRecDepth 100000 in
set_option maxHeartbeats 6400000 in
theorem put_all (B b g cap : Nat) (l : List UInt8) (ps : List ByteArray) (xs : Array Value) (fz : Nat × Nat) (w : World) (h : PC B b l w) (hB : B ≤ w.heap.size) (hg : w.heap[g]? = some (Obj.cells xs 9 fz)) (hgb : g ≠ b) (hx : ∀ j x, ps[j]? = some x → w.cell? ⟨g, j, none⟩ = some (.string x)) (hlen : l.length + (catV ps).length ≤ 1000000) (hn : ps.length ≤ 10000) :
    Calls Tryz.prog 65 #[.pointer (some ⟨b, 0, none⟩), .slice (some ⟨g, 0, none⟩) ps.length cap] w fun e w' => e = .returned (.tuple #[]) ∧ PC B b (l ++ catV ps) w' ∧ Below B w w' ∧ Others b w w' := by
  have HI0 : Hid (PC B b (l ++ catV (ps.take 0)) w) := Lib.hid (by rw [List.take_zero]; show PC B b (l ++ []) w; rw [List.append_nil]; exact h)
  have HB := Lib.hid hB
  have HG := Lib.hid hg
  have HX := Lib.hid hx
  have HGB := Lib.hid hgb
  have HLEN := Lib.hid hlen
  clear h hB hg hgb hx hlen
  go_enter Tryz.func65, Tryz.ntmps65
  go_wp2_with fail
  go_loopw [8, 5] (fun i _ wr => ∃ k : Nat, k ≤ ps.length ∧ i = .int .i64 k ∧ PC B b (l ++ catV (ps.take k)) wr ∧ Below B w wr ∧ Others b w wr) (fun i _ _ => ps.length - (intOf i).toNat)
  case atStart => exact ⟨0, Nat.zero_le _, rfl, HI0.out, Below.refl _ _, Others.refl _ _⟩
  case round =>
    obtain ⟨k, hk, rfl, hp, hb, ho⟩ := hrel
    have HP := Lib.hid hp
    have HBL := Lib.hid hb
    have HO := Lib.hid ho
    clear hp hb ho
    by_cases hlt : k < ps.length
    · obtain ⟨x, hkx⟩ : ∃ x, ps[k]? = some x := ⟨_, List.getElem?_eq_getElem hlt⟩
      have hgw := HO.out g xs 9 fz HGB.out (by decide) HG.out
      have c0 : wr.cell? ⟨g, k, none⟩ = some (.string x) := by
        have := HX.out k x hkx
        rw [Lib.cell_of_heap HG.out] at this
        rw [Lib.cell_of_heap hgw]; exact this
      have hki : (k : Int) < (ps.length : Int) := by omega
      have hkii : (0 : Int) ≤ (k : Int) ∧ (k : Int) < (ps.length : Int) := by omega
      have hw : IntKind.i64.wrap ((k : Int) + 1) = (k : Int) + 1 := IntWalk.i64_in _ (by omega)
      have HKX := Lib.hid hkx
      have hlen2 : (l ++ catV (ps.take k)).length + x.size ≤ 1000000 := by
        have h1 := catV_le ps (k + 1)
        rw [catV_take hkx, List.length_append] at h1
        have h2 : x.data.toList.length = x.size := by simp
        rw [List.length_append]
        have := HLEN.out
        omega
      have HWR := Lib.hid (pWrite_any B b (l ++ catV (ps.take k)) x wr HP.out hlen2 (Nat.le_trans HB.out HBL.out.size))
      clear hgw hkx hlen2
      go_wp2_with fail
      refine HWR.out.mono ?_
      rintro e w2 ⟨rfl, hp2, hb2, ho2⟩
      have HP2 := Lib.hid hp2
      have HB2 := Lib.hid hb2
      have HO2 := Lib.hid ho2
      clear hp2 hb2 ho2
      go_wp2_with fail
      refine ⟨⟨k + 1, by omega, by simp, ?_, HBL.out.trans HB2.out, HO.out.trans HO2.out⟩, ?_⟩
      · rw [catV_take HKX.out, ← List.append_assoc]; exact HP2.out
      · simp [intOf]; omega
    · have hki : ¬ (k : Int) < (ps.length : Int) := by omega
      have hkk : k = ps.length := by omega
      have HKK := Lib.hid hkk
      clear hkk
      go_wp2_with fail
      go_end0
      refine ⟨rfl, ?_, HBL.out, HO.out⟩
      have h1 := HP.out
      rw [HKK.out, List.take_length] at h1
      exact h1
end Go.Proofs.YtgonbmcojjcabaaGreatDoor

namespace Go.Proofs.YtgonbmcojjcabaaGreatDoor
open Go.RowKit Lx Tr
variable {w w' : World}

/-- An op as it is written: of two; of one. -/
def sgV (op : Nat) : B := if op = 30 then [38, 38] else if op = 31 then [124, 124] else signL op
def sOfB (n : Nat) : B := Lib.itoa (n : Int)
/-- In brackets, if it is an op of two of less than this level. -/
def exW (least : Nat) (x : Ex) (bare : B) : B := match x with
  | .nil => []
  | .mk code _ _ op _ _ _ _ => if code = 5 ∧ levV op < least then [40] ++ (bare ++ [41]) else bare
mutual
def bareV : Ex → B
  | .nil => []
  | .mk code _ n op name l r args =>
    if code = 1 then sOfB n
    else if code = 2 then (if n = 0 then tFalse else tTrue)
    else if code = 3 then tNil
    else if code = 4 then name
    else if code = 5 then exW (levV op) l (bareV l) ++ ([32] ++ (sgV op ++ ([32] ++ exW (levV op + 1) r (bareV r))))
    else if code = 6 then signL op ++ exW 6 l (bareV l)
    else if code = 10 then tArrow ++ exW 6 l (bareV l)
    else if code = 8 then tMake ++ ([40] ++ (exW 1 l (bareV l) ++ [41]))
    else if code = 9 then tLen ++ ([40] ++ (exW 1 l (bareV l) ++ [41]))
    else if code = 7 then name ++ ([40] ++ (argV true args ++ [41]))
    else []
def argV : Bool → Exs → B
  | _, .nil => []
  | first, .cons x xs => (if first then [] else [44, 32]) ++ (exW 1 x (bareV x) ++ argV false xs)
end
def exV (least : Nat) (x : Ex) : B := exW least x (bareV x)

theorem PB.fresh {B b : Nat} {l : List UInt8} (h : PB B b l w) (hb : Below w.heap.size w w') : PB B b l w' := by
  have key : ∀ p, Lib.BuilderAt 80 5 B b p (Lib.byteCells l) w → Lib.BuilderAt 80 5 B b p (Lib.byteCells l) w' := fun p ⟨h1, v, h2, h3, h4⟩ =>
    ⟨h1, v, by rw [hb.block b (Array.getElem?_eq_some_iff.1 h2).1]; exact h2, (Keeps.of_new (S := fun _ => False) hb).row h3 (fun _ _ e => e), h4⟩
  exact h.imp (key _) (key _)
theorem PB.lt {B b : Nat} {l : List UInt8} (h : PB B b l w) : b < w.heap.size := by
  rcases h with ⟨_, v, h2, _⟩ | ⟨_, v, h2, _⟩ <;> exact (Array.getElem?_eq_some_iff.1 h2).1
theorem PC.fresh {B b : Nat} {l : List UInt8} (h : PC B b l w) (hb : Below w.heap.size w w') : PC B b l w' :=
  ⟨h.1.fresh hb, fun e => by rw [hb.cell (p := ⟨b, 1, none⟩) h.1.lt]; exact h.2 e⟩
theorem Others.of_new {b : Nat} (hb : Below w.heap.size w w') : Others b w w' := fun k xs e fz _ _ h => by rw [hb.block k (Array.getElem?_eq_some_iff.1 h).1]; exact h
/-- Texts that are written out are put. -/
theorem put_new (B b : Nat) (l : List UInt8) (ps : List ByteArray) (w : World) (h : PC B b l w) (hB : B ≤ w.heap.size) (hlen : l.length + (catV ps).length ≤ 1000000) (hn : ps.length ≤ 10000) :
    Calls Tryz.prog 65 #[.pointer (some ⟨b, 0, none⟩), .slice (some ⟨w.heap.size, 0, none⟩) ps.length ps.length] (w.alloc (.cells (ps.map Value.string).toArray 9)) fun e w' => e = .returned (.tuple #[]) ∧ PC B b (l ++ catV ps) w' ∧ Below B w w' ∧ Others b w w' := by
  have hb : Below w.heap.size w (w.alloc (.cells (ps.map Value.string).toArray 9)) := ((Keeps.refl (fun _ => False) w).alloc _).below (Nat.le_refl _) (fun _ _ e => e.elim)
  have hlt := h.1.lt
  refine (put_all B b w.heap.size ps.length l ps (ps.map Value.string).toArray (0, 0) _ (h.fresh hb) (Nat.le_trans hB hb.size) (heap_alloc_new w _) (by omega) (fun j x hj => cell_new _ _ _ j _ (by simp [hj]) rfl) hlen hn).mono ?_
  rintro e w' ⟨rfl, h1, h2, h3⟩
  exact ⟨rfl, h1, (hb.mono hB).trans h2, (Others.of_new hb).trans h3⟩
end Go.Proofs.YtgonbmcojjcabaaGreatDoor

namespace Go.Proofs.YtgonbmcojjcabaaGreatDoor
open Go.RowKit Lx Tr
variable {w w' : World}

/-- What is asked of a function that writes: behind what is written already, so much more. -/
def Writes (B b : Nat) (l out : List UInt8) (w : World) (f : FuncId) (args : Array Value) : Prop :=
  Calls Tryz.prog f args w fun e w' => e = .returned (.tuple #[]) ∧ PC B b (l ++ out) w' ∧ Below B w w' ∧ Others b w w'
/-- The library's table of powers of ten. -/
abbrev PowT (w : World) : Prop := Lib.TabIs Tryz.prog w "internal/strconv.uint64pow10" .u64 Lib.pow10Tab
theorem gPowT : Tryz.prog.globalNamed "internal/strconv.uint64pow10" = some 9 := by kernel_rfl
theorem PowT.below {B : Nat} (h : PowT w) (hB : 9 < B) (hb : Below B w w') : PowT w' := by
  unfold PowT Lib.TabIs World.var? at h ⊢
  rw [gPowT] at h ⊢
  simp only [Option.bind_some] at h ⊢
  rw [hb.block _ hB]
  exact h
/-- The tables that the printer looks at. -/
structure PEnv (B : Nat) (w : World) : Prop where
  signs : Signs w
  b1 : 0 < B
  pow : PowT w
  b2 : 9 < B
  kinds : KindsT w
  b3 : 2 < B
theorem PEnv.below {B : Nat} (h : PEnv B w) (hb : Below B w w') : PEnv B w' := ⟨fun k hk => by rw [hb.cell (p := ⟨0, k, none⟩) h.b1]; exact h.signs k hk, h.b1, h.pow.below h.b2 hb, h.b2, fun k hk => by rw [hb.cell (p := ⟨2, k, none⟩) h.b3]; exact h.kinds k hk, h.b3⟩
theorem PEnv.mono {B C : Nat} (h : PEnv B w) (hc : B ≤ C) : PEnv C w := ⟨h.signs, Nat.lt_of_lt_of_le h.b1 hc, h.pow, Nat.lt_of_lt_of_le h.b2 hc, h.kinds, Nat.lt_of_lt_of_le h.b3 hc⟩
def BareC (B b : Nat) (x : Ex) : Prop :=
  ∀ (l : List UInt8) (w : World) (v : Value), PC B b l w → B ≤ w.heap.size → PEnv B w → ExIn w (fun k => k < B) v x → l.length + (bareV x).length ≤ 1000000 → x ≠ .nil → Writes B b l (bareV x) w 105 #[.pointer (some ⟨b, 0, none⟩), v]
def PExprC (B b : Nat) (x : Ex) : Prop :=
  ∀ (least : Nat) (l : List UInt8) (w : World) (v : Value), PC B b l w → B ≤ w.heap.size → PEnv B w → ExIn w (fun k => k < B) v x → l.length + (exV least x).length ≤ 1000000 → Writes B b l (exV least x) w 73 #[.pointer (some ⟨b, 0, none⟩), v, .int .i64 (least : Nat)]
theorem ExIn.below {B : Nat} {v : Value} {x : Ex} (h : ExIn w (fun k => k < B) v x) (hb : Below B w w') : ExIn w' (fun k => k < B) v x :=
  ExIn.keeps h (Keeps.of_below (S := fun k => B ≤ k) hb (fun _ _ e => e)) (fun k hk e => by have h1 : k < B := hk; have h2 : B ≤ k := e; omega)

set_option maxRecDepth 100000 in
set_option maxHeartbeats 6400000 in
theorem pexpr_any {B b : Nat} {x : Ex} (hC : BareC B b x) : PExprC B b x := by
  intro least l w v h hB hP hx hlen
  unfold Writes
  cases x with
  | nil =>
    have hv : v = .pointer none := hx
    subst hv
    have hout : l ++ exV least .nil = l := List.append_nil l
    rw [hout]
    have H := Lib.hid h
    clear h hx hP hC hlen hout
    go_enter Tryz.func73, Tryz.ntmps73
    go_wp2_with fail
    try simp only [Exit.inBlock, Exit.then]
    refine bodyPost_ret (results_none rfl _ _ _) rfl ?_
    exact ⟨rfl, H.out, Below.refl _ _, Others.refl _ _⟩
  | mk code at_ n op name lx rx ar =>
    have hx' := hx
    obtain ⟨bk, lv, rv, av, rfl, hbk, c0, _, _, _, c4, _⟩ := hx'
    have HC := Lib.hid (hC l w _ h hB hP hx)
    have HL : Hid (∀ W, Calls Tryz.prog 104 #[.int .i64 (op : Nat)] W fun e w' => e = .returned (.int .i64 (levV op : Nat)) ∧ W = w') := Lib.hid fun W => level_any op W
    have H := Lib.hid h
    have HB := Lib.hid hB
    have HP := Lib.hid hP
    have HX := Lib.hid hx
    have HCC := Lib.hid hC
    by_cases hcond : code = 5 ∧ levV op < least
    · have hout : exV least (.mk code at_ n op name lx rx ar) = [40] ++ (bareV (.mk code at_ n op name lx rx ar) ++ [41]) := by unfold exV exW; exact if_pos hcond
      rw [hout] at hlen ⊢
      rw [List.length_append, List.length_append] at hlen
      have HLN : Hid (l.length + (1 + ((bareV (.mk code at_ n op name lx rx ar)).length + 1)) ≤ 1000000) := Lib.hid hlen
      have HPUT := Lib.hid (put_new B b l [⟨#[40]⟩] w h hB (by have := HLN.out; show l.length + 1 ≤ _; omega) (by decide))
      have e5 : ((code : Int) == 5) = true := by rw [hcond.1]; rfl
      have hlt : ((levV op : Nat) : Int) < (least : Int) := by omega
      clear h hx hP hC hlen hout HC hcond
      go_enter Tryz.func73, Tryz.ntmps73
      go_wp2_with (go_at_call 104; refine (HL.out _).mono ?_; rintro e w2 ⟨rfl, rfl⟩)
      refine HPUT.out.mono ?_
      rintro e w3 ⟨rfl, h3, hb3, ho3⟩
      have hB3 := Nat.le_trans HB.out hb3.size
      have HBA := Lib.hid (HCC.out (l ++ [40]) w3 _ h3 hB3 (HP.out.below hb3) (HX.out.below hb3) (by have := HLN.out; rw [List.length_append]; show l.length + 1 + _ ≤ _; omega) (fun e => by cases e))
      have HB3 := Lib.hid hb3
      have HO3 := Lib.hid ho3
      clear h3 hb3 hB3 ho3
      go_wp2_with fail
      refine HBA.out.mono ?_
      rintro e w4 ⟨rfl, h4, hb4, ho4⟩
      have hB4 := Nat.le_trans HB.out (HB3.out.trans hb4).size
      have HPUT2 := Lib.hid (put_new B b _ [⟨#[41]⟩] w4 h4 hB4 (by have := HLN.out; rw [List.length_append, List.length_append]; show l.length + 1 + _ + 1 ≤ _; omega) (by decide))
      have HB4 := Lib.hid (HB3.out.trans hb4)
      have HO4 := Lib.hid (HO3.out.trans ho4)
      clear h4 hb4 hB4 ho4
      go_wp2_with fail
      refine HPUT2.out.mono ?_
      rintro e w5 ⟨rfl, h5, hb5, ho5⟩
      have h5' : PC B b (l ++ ([40] ++ (bareV (.mk code at_ n op name lx rx ar) ++ [41]))) w5 := by
        have e : l ++ ([40] ++ (bareV (.mk code at_ n op name lx rx ar) ++ [41])) = l ++ [40] ++ bareV (.mk code at_ n op name lx rx ar) ++ catV [⟨#[41]⟩] := by
          simp only [List.append_assoc]; rfl
        rw [e]; exact h5
      have H5 := Lib.hid h5'
      have HB5 := Lib.hid (HB4.out.trans hb5)
      have HO5 := Lib.hid (HO4.out.trans ho5)
      clear h5 h5' hb5 ho5
      go_wp2_with fail
      try simp only [Exit.inBlock, Exit.then]
      refine bodyPost_ret (results_none rfl _ _ _) rfl ?_
      exact ⟨rfl, H5.out, HB5.out, HO5.out⟩
    · have hout : exV least (.mk code at_ n op name lx rx ar) = bareV (.mk code at_ n op name lx rx ar) := by unfold exV exW; exact if_neg hcond
      rw [hout] at hlen ⊢
      have HW := Lib.hid (HC.out hlen (fun e => by cases e))
      clear h hx hP hC hlen hout HC
      by_cases h5 : code = 5
      · have e5 : ((code : Int) == 5) = true := by rw [h5]; rfl
        have hlt : ¬ ((levV op : Nat) : Int) < (least : Int) := by omega
        clear hcond h5
        go_enter Tryz.func73, Tryz.ntmps73
        go_wp2_with (go_at_call 104; refine (HL.out _).mono ?_; rintro e w2 ⟨rfl, rfl⟩)
        refine HW.out.mono ?_
        rintro e w2 ⟨rfl, h2, hb2, ho2⟩
        have H2 := Lib.hid h2
        have HB2 := Lib.hid hb2
        have HO2 := Lib.hid ho2
        clear h2 hb2 ho2
        go_wp2_with fail
        go_end0
        exact ⟨rfl, H2.out, HB2.out, HO2.out⟩
      · have e5 : ((code : Int) == 5) = false := beq_eq_false_iff_ne.2 (by omega)
        clear hcond h5
        go_enter Tryz.func73, Tryz.ntmps73
        go_wp2_with fail
        refine HW.out.mono ?_
        rintro e w2 ⟨rfl, h2, hb2, ho2⟩
        have H2 := Lib.hid h2
        have HB2 := Lib.hid hb2
        have HO2 := Lib.hid ho2
        clear h2 hb2 ho2
        go_wp2_with fail
        go_end0
        exact ⟨rfl, H2.out, HB2.out, HO2.out⟩
end Go.Proofs.YtgonbmcojjcabaaGreatDoor

namespace Go.Proofs.YtgonbmcojjcabaaGreatDoor
open Go.RowKit Lx Tr
variable {w w' : World}

def argL : Bool → List Ex → B
  | _, [] => []
  | f, x :: xs => (if f then [] else [44, 32]) ++ (exV 1 x ++ argL false xs)
theorem argL_snoc : ∀ (l : List Ex) (f : Bool) (x : Ex), argL f (l ++ [x]) = argL f l ++ ((if f = true ∧ l = [] then [] else [44, 32]) ++ exV 1 x)
  | [], f, x => by
    show (if f then [] else [44, 32]) ++ (exV 1 x ++ []) = [] ++ _
    cases f <;> simp
  | y :: l, f, x => by
    show (if f then [] else [44, 32]) ++ (exV 1 y ++ argL false (l ++ [x])) = ((if f then [] else [44, 32]) ++ (exV 1 y ++ argL false l)) ++ _
    rw [argL_snoc l false x, if_neg (show ¬ (false = true ∧ l = []) from fun e => by cases e.1), if_neg (show ¬ (f = true ∧ y :: l = []) from fun e => by cases e.2)]
    simp only [List.append_assoc]
theorem argV_list : ∀ (xs : Exs) (f : Bool), argV f xs = argL f xs.toList
  | .nil, _ => rfl
  | .cons x xs, f => by
    show (if f then [] else [44, 32]) ++ (exW 1 x (bareV x) ++ argV false xs) = _
    rw [argV_list xs false]; rfl
theorem Exs.len_list : ∀ (xs : Exs), xs.toList.length = xs.len
  | .nil => rfl
  | .cons _ xs => congrArg (· + 1) (Exs.len_list xs)
theorem argL_le : ∀ (l : List Ex) (k : Nat) (f : Bool), (argL f (l.take k)).length ≤ (argL f l).length
  | [], k, f => by simp [argL]
  | x :: xs, 0, f => Nat.zero_le _
  | x :: xs, k + 1, f => by
    show ((if f then [] else [44, 32]) ++ (exV 1 x ++ argL false (xs.take k))).length ≤ ((if f then [] else [44, 32]) ++ (exV 1 x ++ argL false xs)).length
    have := argL_le xs k false
    simp only [List.length_append]
    omega
theorem argL_twoF : ∀ ys : List Ex, 2 * ys.length ≤ (argL false ys).length
  | [] => by simp
  | y :: ys => by
    have := argL_twoF ys
    show 2 * (ys.length + 1) ≤ ([44, 32] ++ (exV 1 y ++ argL false ys)).length
    simp only [List.length_append, List.length_cons, List.length_nil]
    omega
theorem argL_two (l : List Ex) (f : Bool) : 2 * l.length ≤ (argL f l).length + 2 := by
  cases l with
  | nil => simp
  | cons x xs =>
    have := argL_twoF xs
    show 2 * (xs.length + 1) ≤ ((if f then [] else [44, 32]) ++ (exV 1 x ++ argL false xs)).length + 2
    simp only [List.length_append]
    omega
/-- Arguments in memory that stay as they are while the printer writes. -/
def ArgsAt (B b : Nat) (w : World) (av : Value) (l : List Ex) : Prop :=
  (av = .slice none 0 0 ∧ l = []) ∨ ∃ g cap, av = .slice (some ⟨g, 0, none⟩) l.length cap ∧ (∀ w', Below B w w' → Others b w w' → ∀ i : Nat, w'.cell? ⟨g, i, none⟩ = w.cell? ⟨g, i, none⟩) ∧
    ∀ i x, l[i]? = some x → ∃ v, w.cell? ⟨g, i, none⟩ = some v ∧ ExIn w (fun k => k < B) v x

set_option maxRecDepth 100000 in
set_option maxHeartbeats 12800000 in
theorem pcall_any {B b : Nat} (name : Lx.B) (args : List Ex) (hA : ∀ x ∈ args, PExprC B b x) (l : List UInt8) (w : World) (av : Value) (h : PC B b l w) (hB : B ≤ w.heap.size) (hP : PEnv B w) (hx : ArgsAt B b w av args) (hlen : l.length + (name ++ ([40] ++ (argL true args ++ [41]))).length ≤ 1000000) :
    Writes B b l (name ++ ([40] ++ (argL true args ++ [41]))) w 137 #[.pointer (some ⟨b, 0, none⟩), .string (mkT name), av] := by
  unfold Writes
  obtain ⟨ao, cap, hav⟩ : ∃ ao cap, av = .slice ao args.length cap := by
    rcases hx with ⟨e1, e2⟩ | ⟨g, cap, e1, _⟩
    · exact ⟨none, 0, by rw [e1, e2]; rfl⟩
    · exact ⟨_, _, e1⟩
  subst hav
  have hl2 : (mkT name).data.toList = name := rfl
  have hn : args.length ≤ 1000000 := by
    have := argL_two args true
    simp only [List.length_append, List.length_singleton] at hlen
    omega
  simp only [List.length_append, List.length_singleton] at hlen
  have HPUT := Lib.hid (put_new B b l [mkT name, ⟨#[40]⟩] w h hB (by show l.length + (name ++ ([40] ++ [])).length ≤ _; simp only [List.length_append, List.length_singleton, List.length_nil]; omega) (by simp))
  have HA := Lib.hid hA
  have HB := Lib.hid hB
  have HP := Lib.hid hP
  have HX := Lib.hid hx
  have HLN : Hid (l.length + (name.length + (1 + ((argL true args).length + 1))) ≤ 1000000) := Lib.hid hlen
  clear hA h hB hP hx hlen hl2
  go_enter Tryz.func137, Tryz.ntmps137
  go_wp2_with fail
  refine HPUT.out.mono ?_
  rintro e w1 ⟨rfl, h1, hb1, ho1⟩
  have HI0 : Hid (PC B b (l ++ (name ++ ([40] ++ argL true (args.take 0)))) w1) := Lib.hid h1
  have HB1 := Lib.hid hb1
  have HO1 := Lib.hid ho1
  clear h1 hb1 ho1
  go_wp2_with fail
  go_loopw [14, 6, 7] (fun i _ _ wr => ∃ k : Nat, k ≤ args.length ∧ i = .int .i64 k ∧ PC B b (l ++ (name ++ ([40] ++ argL true (args.take k)))) wr ∧ Below B w wr ∧ Others b w wr) (fun i _ _ _ => args.length - (intOf i).toNat)
  case atStart => exact ⟨0, Nat.zero_le _, rfl, HI0.out, HB1.out, HO1.out⟩
  case round =>
    obtain ⟨k, hk, rfl, hp, hb, ho⟩ := hrel
    have HPP := Lib.hid hp
    have HBL := Lib.hid hb
    have HO := Lib.hid ho
    clear hp hb ho
    by_cases hlt : k < args.length
    · obtain ⟨x, hkx⟩ : ∃ x, args[k]? = some x := ⟨_, List.getElem?_eq_getElem hlt⟩
      obtain ⟨g, v, rfl, hcell, hxin⟩ : ∃ g v, ao = some ⟨g, 0, none⟩ ∧ wr.cell? ⟨g, k, none⟩ = some v ∧ ExIn w (fun k => k < B) v x := by
        rcases HX.out with ⟨_, e2⟩ | ⟨g, cap', e1, hst, hel⟩
        · rw [e2] at hlt; exact absurd hlt (Nat.not_lt_zero _)
        · injection e1 with e3 _ _
          obtain ⟨v, h1, h2⟩ := hel k x hkx
          exact ⟨g, v, e3, by rw [hst wr HBL.out HO.out k]; exact h1, h2⟩
      have hki : (k : Int) < (args.length : Int) := by omega
      have hkii : (0 : Int) ≤ (k : Int) ∧ (k : Int) < (args.length : Int) := by omega
      have hw : IntKind.i64.wrap ((k : Int) + 1) = (k : Int) + 1 := IntWalk.i64_in _ (by omega)
      have htk : args.take (k + 1) = args.take k ++ [x] := by rw [List.take_add_one, hkx]; rfl
      have hAT : argL true (args.take (k + 1)) = argL true (args.take k) ++ ((if k = 0 then [] else [44, 32]) ++ exV 1 x) := by
        rw [htk, argL_snoc]
        by_cases hk0 : k = 0
        · rw [if_pos hk0, if_pos ⟨rfl, by rw [hk0, List.take_zero]⟩]
        · rw [if_neg hk0, if_neg (fun e => hk0 (by have h7 := congrArg List.length e.2; rw [List.length_take] at h7; have h8 : min k args.length = 0 := h7; omega))]
      have hle := argL_le args (k + 1) true
      rw [hAT, List.length_append, List.length_append] at hle
      have hmem : x ∈ args := List.mem_of_getElem? hkx
      have HXW := Lib.hid (hxin.below HBL.out)
      have HEX := Lib.hid (HA.out x hmem)
      have HAT := Lib.hid hAT
      have HLE := Lib.hid hle
      clear hkx hxin htk hAT hle hmem
      by_cases hk0 : k = 0
      · subst hk0
        have HE := Lib.hid (HEX.out 1 _ wr v HPP.out (Nat.le_trans HB.out HBL.out.size) (HP.out.below HBL.out) HXW.out (by have := HLN.out; have h9 := HLE.out; rw [if_pos rfl] at h9; simp only [List.length_append, List.length_singleton, List.length_nil] at h9 ⊢; omega))
        go_wp2_with fail
        refine HE.out.mono ?_
        rintro e w3 ⟨rfl, h3, hb3, ho3⟩
        have h3' : PC B b (l ++ (name ++ ([40] ++ argL true (args.take (0 + 1))))) w3 := by
          have e : l ++ (name ++ ([40] ++ argL true (args.take (0 + 1)))) = l ++ (name ++ ([40] ++ argL true (args.take 0))) ++ exV 1 x := by
            rw [HAT.out]; simp only [List.append_assoc]; rfl
          rw [e]; exact h3
        have H3 := Lib.hid h3'
        have HB3 := Lib.hid (HBL.out.trans hb3)
        have HO3 := Lib.hid (HO.out.trans ho3)
        clear h3 h3' hb3 ho3
        go_wp2_with fail
        exact ⟨⟨0 + 1, by omega, by simp, H3.out, HB3.out, HO3.out⟩, by simp [intOf]; omega⟩
      · have hgt : (0 : Int) < (k : Int) := by omega
        have HK0 := Lib.hid hk0
        have HPUT2 := Lib.hid (put_new B b _ [⟨#[44, 32]⟩] wr HPP.out (Nat.le_trans HB.out HBL.out.size) (by have := HLN.out; have h9 := HLE.out; rw [if_neg HK0.out] at h9; simp only [List.length_append, List.length_nil, List.length_cons] at h9 ⊢; show _ + 2 ≤ _; omega) (by simp))
        clear hk0
        go_wp2_with fail
        refine HPUT2.out.mono ?_
        rintro e w2 ⟨rfl, h2, hb2, ho2⟩
        have HB2 := Lib.hid (HBL.out.trans hb2)
        have HO2 := Lib.hid (HO.out.trans ho2)
        have HE := Lib.hid (HEX.out 1 _ w2 v h2 (Nat.le_trans HB.out HB2.out.size) (HP.out.below HB2.out) (HXW.out.below hb2) (by have := HLN.out; have h9 := HLE.out; rw [if_neg HK0.out] at h9; simp only [List.length_append, List.length_nil, List.length_cons] at h9 ⊢; show _ + 2 + _ ≤ _; omega))
        clear h2 hb2 ho2
        go_wp2_with fail
        refine HE.out.mono ?_
        rintro e w3 ⟨rfl, h3, hb3, ho3⟩
        have h3' : PC B b (l ++ (name ++ ([40] ++ argL true (args.take (k + 1))))) w3 := by
          have e : l ++ (name ++ ([40] ++ argL true (args.take (k + 1)))) = l ++ (name ++ ([40] ++ argL true (args.take k))) ++ catV [⟨#[44, 32]⟩] ++ exV 1 x := by
            rw [HAT.out, if_neg HK0.out]; simp only [List.append_assoc]; rfl
          rw [e]; exact h3
        have H3 := Lib.hid h3'
        have HB3 := Lib.hid (HB2.out.trans hb3)
        have HO3 := Lib.hid (HO2.out.trans ho3)
        clear h3 h3' hb3 ho3
        go_wp2_with fail
        exact ⟨⟨k + 1, by omega, by simp, H3.out, HB3.out, HO3.out⟩, by simp [intOf]; omega⟩
    · have hki : ¬ (k : Int) < (args.length : Int) := by omega
      have hkk : k = args.length := by omega
      have HKK := Lib.hid hkk
      have h2 := HPP.out
      rw [hkk, List.take_length] at h2
      have HPUT2 := Lib.hid (put_new B b _ [⟨#[41]⟩] wr h2 (Nat.le_trans HB.out HBL.out.size) (by have := HLN.out; simp only [List.length_append, List.length_singleton]; show _ + 1 ≤ _; omega) (by decide))
      clear hkk h2
      go_wp2_with fail
      refine HPUT2.out.mono ?_
      rintro e w3 ⟨rfl, h3, hb3, ho3⟩
      have h3' : PC B b (l ++ (name ++ ([40] ++ (argL true args ++ [41])))) w3 := by
        have e : l ++ (name ++ ([40] ++ (argL true args ++ [41]))) = l ++ (name ++ ([40] ++ argL true args)) ++ catV [⟨#[41]⟩] := by
          simp only [List.append_assoc]; rfl
        rw [e]; exact h3
      have H3 := Lib.hid h3'
      have HB3 := Lib.hid (HBL.out.trans hb3)
      have HO3 := Lib.hid (HO.out.trans ho3)
      clear h3 h3' hb3 ho3
      go_wp2_with fail
      go_end0
      exact ⟨rfl, H3.out, HB3.out, HO3.out⟩
end Go.Proofs.YtgonbmcojjcabaaGreatDoor

namespace Go.Proofs.YtgonbmcojjcabaaGreatDoor
open Go.RowKit Lx Tr
variable {w w' : World}

theorem signV_nat (n : Nat) : signV (n : Int) = signL n := by
  unfold signV
  by_cases h : 1 ≤ (n : Int) ∧ (n : Int) ≤ 19
  · rw [if_pos h]; rfl
  · rw [if_neg h]
    by_cases h0 : n = 0
    · subst h0; rfl
    · unfold signL
      rw [List.getD_eq_getElem?_getD, List.getElem?_eq_none]
      · rfl
      · have : signsL.length = 20 := rfl
        omega
theorem tsign_any (op : Nat) (w : World) (hS : Signs w) : Calls Tryz.prog 136 #[.int .i64 op] w fun e w' => e = .returned (.string (mkT (sgV op))) ∧ w = w' := by
  by_cases h1 : op = 30
  · subst h1
    go_enter Tryz.func136, Tryz.ntmps136
    go_wp2_with fail
    try simp only [Exit.inBlock, Exit.then]
    go_ret
    exact ⟨rfl, rfl⟩
  · by_cases h2 : op = 31
    · subst h2
      go_enter Tryz.func136, Tryz.ntmps136
      go_wp2_with fail
      try simp only [Exit.inBlock, Exit.then]
      go_ret
      exact ⟨rfl, rfl⟩
    · have e1 : ((op : Int) == 30) = false := beq_eq_false_iff_ne.2 (by omega)
      have e2 : ((op : Int) == 31) = false := beq_eq_false_iff_ne.2 (by omega)
      have HC := Lib.hid (sign_any (op : Int) w hS)
      have HE : Hid (mkT (sgV op) = ⟨(signV (op : Int)).toArray⟩) := Lib.hid (by rw [signV_nat]; unfold sgV; rw [if_neg h1, if_neg h2]; rfl)
      clear hS h1 h2
      rw [HE.out]
      go_enter Tryz.func136, Tryz.ntmps136
      go_wp2_with fail
      refine HC.out.mono ?_
      rintro e w2 ⟨rfl, rfl⟩
      go_wp2_with fail
      try simp only [Exit.inBlock, Exit.then]
      go_ret
      exact ⟨rfl, rfl⟩
theorem boolB_any (c : Bool) (w : World) : Calls Tryz.prog 135 #[.bool c] w fun e w' => e = .returned (.string (mkT (if c then tTrue else tFalse))) ∧ w = w' := by
  refine (Tryz.strconv_FormatBool c w).mono ?_
  rintro e w' ⟨rfl, rfl⟩
  cases c <;> exact ⟨rfl, rfl⟩
theorem itoaP_any (n : Nat) (h1 : n ≤ 9223372036854775807) (w : World) (h : PowT w) : Calls Tryz.prog 134 #[.int .i64 (n : Nat)] w fun e w' => e = .returned (.string (mkT (sOfB n))) ∧ Below w.heap.size w w' := by
  refine (Tryz.strconv_Itoa (n : Int) (by omega) (by omega) w h).mono ?_
  rintro e w' ⟨rfl, k, os, rfl⟩
  refine ⟨rfl, ⟨rfl, rfl, rfl, by simp [Sort.grow, World.drewN], fun k hk => by simp [Sort.grow, World.drewN, Array.getElem?_append, hk]⟩⟩
mutual
/-- Numbers that a text can have. -/
def ExOk : Ex → Prop
  | .nil => True
  | .mk _ _ n _ _ l r args => n ≤ 9223372036854775807 ∧ ExOk l ∧ ExOk r ∧ ExsOk args
def ExsOk : Exs → Prop
  | .nil => True
  | .cons x xs => ExOk x ∧ ExsOk xs
end
end Go.Proofs.YtgonbmcojjcabaaGreatDoor

namespace Go.Proofs.YtgonbmcojjcabaaGreatDoor
open Go.RowKit Lx Tr
variable {w w' : World}

set_option maxRecDepth 100000 in
set_option maxHeartbeats 12800000 in
theorem bare_num {B b bk : Nat} {n : Nat} (l : List UInt8) (w : World) (h : PC B b l w) (hB : B ≤ w.heap.size) (hP : PEnv B w) (c0 : w.cell? ⟨bk, 0, none⟩ = some (.int .i64 1)) (c2 : w.cell? ⟨bk, 2, none⟩ = some (.int .i64 (n : Nat))) (hn : n ≤ 9223372036854775807) (hlen : l.length + (sOfB n).length ≤ 1000000) :
    Writes B b l (sOfB n) w 105 #[.pointer (some ⟨b, 0, none⟩), .pointer (some ⟨bk, 0, none⟩)] := by
  unfold Writes
  have HC := Lib.hid (itoaP_any n hn w hP.pow)
  have H := Lib.hid h
  have HB := Lib.hid hB
  have HL := Lib.hid hlen
  clear h hB hP hn hlen
  go_enter Tryz.func105, Tryz.ntmps105
  go_wp2_with fail
  refine HC.out.mono ?_
  rintro e w1 ⟨rfl, hb1⟩
  have HPUT := Lib.hid (put_new B b l [mkT (sOfB n)] w1 (H.out.fresh hb1) (Nat.le_trans HB.out hb1.size) (by have := HL.out; show l.length + (sOfB n ++ []).length ≤ _; rw [List.append_nil]; exact this) (by simp))
  have HB1 := Lib.hid (hb1.mono HB.out)
  have HO1 : Hid (Others b w w1) := Lib.hid (Others.of_new hb1)
  clear hb1
  go_wp2_with fail
  refine HPUT.out.mono ?_
  rintro e w2 ⟨rfl, h2, hb2, ho2⟩
  have h2' : PC B b (l ++ sOfB n) w2 := by
    have e : l ++ sOfB n = l ++ catV [mkT (sOfB n)] := by show _ = l ++ (sOfB n ++ []); rw [List.append_nil]
    rw [e]; exact h2
  have H2 := Lib.hid h2'
  have HB2 := Lib.hid (HB1.out.trans hb2)
  have HO2 := Lib.hid (HO1.out.trans ho2)
  clear h2 h2' hb2 ho2
  go_wp2_with fail
  try simp only [Exit.inBlock, Exit.then]
  go_end0
  exact ⟨rfl, H2.out, HB2.out, HO2.out⟩
set_option maxRecDepth 100000 in
set_option maxHeartbeats 12800000 in
theorem bare_bool {B b bk : Nat} {n : Nat} (l : List UInt8) (w : World) (h : PC B b l w) (hB : B ≤ w.heap.size) (c0 : w.cell? ⟨bk, 0, none⟩ = some (.int .i64 2)) (c2 : w.cell? ⟨bk, 2, none⟩ = some (.int .i64 (n : Nat))) (hlen : l.length + (if n = 0 then tFalse else tTrue).length ≤ 1000000) :
    Writes B b l (if n = 0 then tFalse else tTrue) w 105 #[.pointer (some ⟨b, 0, none⟩), .pointer (some ⟨bk, 0, none⟩)] := by
  unfold Writes
  obtain ⟨t, ht⟩ : ∃ t, t = (if n = 0 then tFalse else tTrue) := ⟨_, rfl⟩
  rw [← ht] at hlen ⊢
  have HC : Hid (∀ W, Calls Tryz.prog 135 #[.bool !((n : Int) == 0)] W fun e w' => e = .returned (.string (mkT t)) ∧ W = w') := Lib.hid fun W => by
    have := boolB_any (!((n : Int) == 0)) W
    have e : (if (!((n : Int) == 0)) then tTrue else tFalse) = t := by
      rw [ht]
      by_cases h0 : n = 0
      · subst h0; rfl
      · rw [if_neg h0, if_pos]
        simp; omega
    rw [e] at this
    exact this
  have H := Lib.hid (put_new B b l [mkT t] w h hB (by show l.length + (t ++ []).length ≤ _; rw [List.append_nil]; exact hlen) (by simp))
  clear h hB hlen ht
  go_enter Tryz.func105, Tryz.ntmps105
  go_wp2_with fail
  refine (HC.out _).mono ?_
  rintro e w1 ⟨rfl, rfl⟩
  go_wp2_with fail
  refine H.out.mono ?_
  rintro e w2 ⟨rfl, h2, hb2, ho2⟩
  have h2' : PC B b (l ++ t) w2 := by
    have e : l ++ t = l ++ catV [mkT t] := by show _ = l ++ (t ++ []); rw [List.append_nil]
    rw [e]; exact h2
  have H2 := Lib.hid h2'
  have HB2 := Lib.hid hb2
  have HO2 := Lib.hid ho2
  clear h2 h2' hb2 ho2
  go_wp2_with fail
  try simp only [Exit.inBlock, Exit.then]
  go_end0
  exact ⟨rfl, H2.out, HB2.out, HO2.out⟩
set_option maxRecDepth 100000 in
set_option maxHeartbeats 12800000 in
theorem bare_nil {B b bk : Nat}  (l : List UInt8) (w : World) (h : PC B b l w) (hB : B ≤ w.heap.size) (c0 : w.cell? ⟨bk, 0, none⟩ = some (.int .i64 3)) (hlen : l.length + (tNil).length ≤ 1000000) :
    Writes B b l (tNil) w 105 #[.pointer (some ⟨b, 0, none⟩), .pointer (some ⟨bk, 0, none⟩)] := by
  unfold Writes
  have H := Lib.hid (put_new B b l [mkT tNil] w h hB (by show l.length + (tNil ++ []).length ≤ _; rw [List.append_nil]; exact hlen) (by simp))
  clear h hB hlen
  go_enter Tryz.func105, Tryz.ntmps105
  go_wp2_with fail
  refine H.out.mono ?_
  rintro e w2 ⟨rfl, h2, hb2, ho2⟩
  have h2' : PC B b (l ++ tNil) w2 := by
    have e : l ++ tNil = l ++ catV [mkT tNil] := by show _ = l ++ (tNil ++ []); rw [List.append_nil]
    rw [e]; exact h2
  have H2 := Lib.hid h2'
  have HB2 := Lib.hid hb2
  have HO2 := Lib.hid ho2
  clear h2 h2' hb2 ho2
  go_wp2_with fail
  try simp only [Exit.inBlock, Exit.then]
  go_end0
  exact ⟨rfl, H2.out, HB2.out, HO2.out⟩
set_option maxRecDepth 100000 in
set_option maxHeartbeats 12800000 in
theorem bare_name {B b bk : Nat} {name : Lx.B} (l : List UInt8) (w : World) (h : PC B b l w) (hB : B ≤ w.heap.size) (c0 : w.cell? ⟨bk, 0, none⟩ = some (.int .i64 4)) (c3 : w.cell? ⟨bk, 3, none⟩ = some (.string (mkT name))) (hlen : l.length + (name).length ≤ 1000000) :
    Writes B b l (name) w 105 #[.pointer (some ⟨b, 0, none⟩), .pointer (some ⟨bk, 0, none⟩)] := by
  unfold Writes
  have H := Lib.hid (put_new B b l [mkT name] w h hB (by show l.length + (name ++ []).length ≤ _; rw [List.append_nil]; exact hlen) (by simp))
  clear h hB hlen
  go_enter Tryz.func105, Tryz.ntmps105
  go_wp2_with fail
  refine H.out.mono ?_
  rintro e w2 ⟨rfl, h2, hb2, ho2⟩
  have h2' : PC B b (l ++ name) w2 := by
    have e : l ++ name = l ++ catV [mkT name] := by show _ = l ++ (name ++ []); rw [List.append_nil]
    rw [e]; exact h2
  have H2 := Lib.hid h2'
  have HB2 := Lib.hid hb2
  have HO2 := Lib.hid ho2
  clear h2 h2' hb2 ho2
  go_wp2_with fail
  try simp only [Exit.inBlock, Exit.then]
  go_end0
  exact ⟨rfl, H2.out, HB2.out, HO2.out⟩
set_option maxRecDepth 100000 in
set_option maxHeartbeats 12800000 in
theorem bare_un {B b bk : Nat} {op : Nat} {x : Ex} {lv : Value} (l : List UInt8) (w : World) (h : PC B b l w) (hB : B ≤ w.heap.size) (hP : PEnv B w) (c0 : w.cell? ⟨bk, 0, none⟩ = some (.int .i64 6)) (c4 : w.cell? ⟨bk, 4, none⟩ = some (.int .i64 (op : Nat))) (c5 : w.cell? ⟨bk, 5, none⟩ = some lv) (hx : ExIn w (fun k => k < B) lv x) (hE : PExprC B b x) (hbk : bk < B) (hlen : l.length + (signL op ++ exV 6 x).length ≤ 1000000) :
    Writes B b l (signL op ++ exV 6 x) w 105 #[.pointer (some ⟨b, 0, none⟩), .pointer (some ⟨bk, 0, none⟩)] := by
  unfold Writes
  rw [List.length_append] at hlen
  have HL : Hid (l.length + (List.length (signL op) + (exV 6 x).length) ≤ 1000000) := Lib.hid hlen
  have HPUT := Lib.hid (put_new B b l [mkT (signL op)] w h hB (by have := HL.out; show l.length + (signL op ++ []).length ≤ _; rw [List.append_nil]; omega) (by simp))
  have HB := Lib.hid hB
  have HP := Lib.hid hP
  have HX := Lib.hid hx
  have HE := Lib.hid hE
  have HC5 : Hid (∀ W', Below B w W' → W'.cell? ⟨bk, 5, none⟩ = some lv) := Lib.hid fun W' hb => by rw [hb.cell (p := ⟨bk, 5, none⟩) hbk]; exact c5
  have HC0 : Hid (∀ W', Below B w W' → W'.cell? ⟨bk, 0, none⟩ = some (.int .i64 6)) := Lib.hid fun W' hb => by rw [hb.cell (p := ⟨bk, 0, none⟩) hbk]; exact c0
  have HS : Hid (Calls Tryz.prog 40 #[.int .i64 (op : Nat)] w fun e w' => e = .returned (.string (mkT (signL op))) ∧ w = w') := Lib.hid (by have := sign_any (op : Int) w hP.signs; rw [signV_nat] at this; exact this)
  clear h hB hP hx hE hlen hbk
  go_enter Tryz.func105, Tryz.ntmps105
  go_wp2_with fail
  refine HS.out.mono ?_
  rintro e w1 ⟨rfl, rfl⟩
  go_wp2_with fail
  refine HPUT.out.mono ?_
  rintro e w2 ⟨rfl, h2, hb2, ho2⟩
  have h2' : PC B b (l ++ signL op) w2 := by
    have e : l ++ signL op = l ++ catV [mkT (signL op)] := by show _ = l ++ (signL op ++ []); rw [List.append_nil]
    rw [e]; exact h2
  have d5 := HC5.out w2 hb2
  have HEX := Lib.hid (HE.out 6 _ w2 lv h2' (Nat.le_trans HB.out hb2.size) (HP.out.below hb2) (HX.out.below hb2) (by have := HL.out; rw [List.length_append]; omega))
  have HB2 := Lib.hid hb2
  have HO2 := Lib.hid ho2
  clear h2 h2' hb2 ho2 c5
  go_wp2_with fail
  refine HEX.out.mono ?_
  rintro e w3 ⟨rfl, h3, hb3, ho3⟩
  have H3 : Hid (PC B b (l ++ (signL op ++ exV 6 x)) w3) := Lib.hid (by rw [← List.append_assoc]; exact h3)
  have HB3 := Lib.hid (HB2.out.trans hb3)
  have HO3 := Lib.hid (HO2.out.trans ho3)
  clear h3 hb3 ho3
  go_wp2_with fail
  try simp only [Exit.inBlock, Exit.then]
  go_end0
  exact ⟨rfl, H3.out, HB3.out, HO3.out⟩
set_option maxRecDepth 100000 in
set_option maxHeartbeats 12800000 in
theorem bare_recv {B b bk : Nat} {x : Ex} {lv : Value} (l : List UInt8) (w : World) (h : PC B b l w) (hB : B ≤ w.heap.size) (hP : PEnv B w) (c0 : w.cell? ⟨bk, 0, none⟩ = some (.int .i64 10)) (c5 : w.cell? ⟨bk, 5, none⟩ = some lv) (hx : ExIn w (fun k => k < B) lv x) (hE : PExprC B b x) (hbk : bk < B) (hlen : l.length + (tArrow ++ exV 6 x).length ≤ 1000000) :
    Writes B b l (tArrow ++ exV 6 x) w 105 #[.pointer (some ⟨b, 0, none⟩), .pointer (some ⟨bk, 0, none⟩)] := by
  unfold Writes
  rw [List.length_append] at hlen
  have HL : Hid (l.length + (List.length (tArrow) + (exV 6 x).length) ≤ 1000000) := Lib.hid hlen
  have HPUT := Lib.hid (put_new B b l [mkT tArrow] w h hB (by have := HL.out; show l.length + (tArrow ++ []).length ≤ _; rw [List.append_nil]; omega) (by simp))
  have HB := Lib.hid hB
  have HP := Lib.hid hP
  have HX := Lib.hid hx
  have HE := Lib.hid hE
  have HC5 : Hid (∀ W', Below B w W' → W'.cell? ⟨bk, 5, none⟩ = some lv) := Lib.hid fun W' hb => by rw [hb.cell (p := ⟨bk, 5, none⟩) hbk]; exact c5
  have HC0 : Hid (∀ W', Below B w W' → W'.cell? ⟨bk, 0, none⟩ = some (.int .i64 10)) := Lib.hid fun W' hb => by rw [hb.cell (p := ⟨bk, 0, none⟩) hbk]; exact c0
  clear h hB hP hx hE hlen hbk
  go_enter Tryz.func105, Tryz.ntmps105
  go_wp2_with fail
  refine HPUT.out.mono ?_
  rintro e w2 ⟨rfl, h2, hb2, ho2⟩
  have h2' : PC B b (l ++ tArrow) w2 := by
    have e : l ++ tArrow = l ++ catV [mkT tArrow] := by show _ = l ++ (tArrow ++ []); rw [List.append_nil]
    rw [e]; exact h2
  have d5 := HC5.out w2 hb2
  have HEX := Lib.hid (HE.out 6 _ w2 lv h2' (Nat.le_trans HB.out hb2.size) (HP.out.below hb2) (HX.out.below hb2) (by have := HL.out; rw [List.length_append]; omega))
  have HB2 := Lib.hid hb2
  have HO2 := Lib.hid ho2
  clear h2 h2' hb2 ho2 c5
  go_wp2_with fail
  refine HEX.out.mono ?_
  rintro e w3 ⟨rfl, h3, hb3, ho3⟩
  have H3 : Hid (PC B b (l ++ (tArrow ++ exV 6 x)) w3) := Lib.hid (by rw [← List.append_assoc]; exact h3)
  have HB3 := Lib.hid (HB2.out.trans hb3)
  have HO3 := Lib.hid (HO2.out.trans ho3)
  clear h3 hb3 ho3
  go_wp2_with fail
  try simp only [Exit.inBlock, Exit.then]
  go_end0
  exact ⟨rfl, H3.out, HB3.out, HO3.out⟩
set_option maxRecDepth 100000 in
set_option maxHeartbeats 12800000 in
theorem bare_make {B b bk : Nat} {x : Ex} {q : Option Addr} (l : List UInt8) (w : World) (h : PC B b l w) (hB : B ≤ w.heap.size) (hP : PEnv B w) (c0 : w.cell? ⟨bk, 0, none⟩ = some (.int .i64 8)) (c5 : w.cell? ⟨bk, 5, none⟩ = some (.pointer q)) (hx : ExIn w (fun k => k < B) (.pointer q) x) (hE : PExprC B b x) (hlen : l.length + (tMake ++ ([40] ++ (exV 1 x ++ [41]))).length ≤ 1000000) :
    Writes B b l (tMake ++ ([40] ++ (exV 1 x ++ [41]))) w 105 #[.pointer (some ⟨b, 0, none⟩), .pointer (some ⟨bk, 0, none⟩)] := by
  unfold Writes
  have hb : Below w.heap.size w (w.alloc (.cells #[.pointer q] 46)) := ((Keeps.refl (fun _ => False) w).alloc _).below (Nat.le_refl _) (fun _ _ e => e.elim)
  have hcw : (w.alloc (.cells #[.pointer q] 46)).heap[w.heap.size]? = some (.cells #[.pointer q] 46 (0, 0)) := heap_alloc_new w _
  have hblt := h.1.lt
  have H := Lib.hid (pcall_any (B := B) (b := b) tMake [x] (fun y hy => by cases hy with | head => exact hE | tail _ h => cases h) l (w.alloc (.cells #[.pointer q] 46)) (.slice (some ⟨w.heap.size, 0, none⟩) 1 1) (h.fresh hb) (Nat.le_trans hB hb.size) (hP.below (hb.mono hB))
    (Or.inr ⟨w.heap.size, 1, rfl, fun W' _ ho i => by
        rw [Lib.cell_of_heap (ho w.heap.size _ _ _ (by omega) (by decide) hcw), Lib.cell_of_heap hcw], fun i y hy => by
        cases i with
        | zero => exact ⟨.pointer q, by rw [Lib.cell_of_heap hcw]; rfl, by cases hy; exact hx.below (hb.mono hB)⟩
        | succ i => simp at hy⟩)
    (by show l.length + (tMake ++ ([40] ++ ((exV 1 x ++ []) ++ [41]))).length ≤ _; rw [List.append_nil]; exact hlen))
  have HBW := Lib.hid (hb.mono hB)
  have HOW : Hid (Others b w (w.alloc (.cells #[.pointer q] 46))) := Lib.hid (Others.of_new hb)
  clear h hB hP hx hE hlen hb hcw hblt
  go_enter Tryz.func105, Tryz.ntmps105
  go_wp2_with fail
  refine H.out.mono ?_
  rintro e w2 ⟨rfl, h2, hb2, ho2⟩
  have H2 : Hid (PC B b (l ++ (tMake ++ ([40] ++ (exV 1 x ++ [41])))) w2) := Lib.hid (by
    have e : tMake ++ ([40] ++ (exV 1 x ++ [41])) = tMake ++ ([40] ++ (argL true [x] ++ [41])) := by show _ = tMake ++ ([40] ++ ((exV 1 x ++ []) ++ [41])); rw [List.append_nil]
    rw [e]; exact h2)
  have HB2 := Lib.hid (HBW.out.trans hb2)
  have HO2 := Lib.hid (HOW.out.trans ho2)
  clear h2 hb2 ho2
  go_wp2_with fail
  try simp only [Exit.inBlock, Exit.then]
  go_end0
  exact ⟨rfl, H2.out, HB2.out, HO2.out⟩
set_option maxRecDepth 100000 in
set_option maxHeartbeats 12800000 in
theorem bare_len {B b bk : Nat} {x : Ex} {q : Option Addr} (l : List UInt8) (w : World) (h : PC B b l w) (hB : B ≤ w.heap.size) (hP : PEnv B w) (c0 : w.cell? ⟨bk, 0, none⟩ = some (.int .i64 9)) (c5 : w.cell? ⟨bk, 5, none⟩ = some (.pointer q)) (hx : ExIn w (fun k => k < B) (.pointer q) x) (hE : PExprC B b x) (hlen : l.length + (tLen ++ ([40] ++ (exV 1 x ++ [41]))).length ≤ 1000000) :
    Writes B b l (tLen ++ ([40] ++ (exV 1 x ++ [41]))) w 105 #[.pointer (some ⟨b, 0, none⟩), .pointer (some ⟨bk, 0, none⟩)] := by
  unfold Writes
  have hb : Below w.heap.size w (w.alloc (.cells #[.pointer q] 46)) := ((Keeps.refl (fun _ => False) w).alloc _).below (Nat.le_refl _) (fun _ _ e => e.elim)
  have hcw : (w.alloc (.cells #[.pointer q] 46)).heap[w.heap.size]? = some (.cells #[.pointer q] 46 (0, 0)) := heap_alloc_new w _
  have hblt := h.1.lt
  have H := Lib.hid (pcall_any (B := B) (b := b) tLen [x] (fun y hy => by cases hy with | head => exact hE | tail _ h => cases h) l (w.alloc (.cells #[.pointer q] 46)) (.slice (some ⟨w.heap.size, 0, none⟩) 1 1) (h.fresh hb) (Nat.le_trans hB hb.size) (hP.below (hb.mono hB))
    (Or.inr ⟨w.heap.size, 1, rfl, fun W' _ ho i => by
        rw [Lib.cell_of_heap (ho w.heap.size _ _ _ (by omega) (by decide) hcw), Lib.cell_of_heap hcw], fun i y hy => by
        cases i with
        | zero => exact ⟨.pointer q, by rw [Lib.cell_of_heap hcw]; rfl, by cases hy; exact hx.below (hb.mono hB)⟩
        | succ i => simp at hy⟩)
    (by show l.length + (tLen ++ ([40] ++ ((exV 1 x ++ []) ++ [41]))).length ≤ _; rw [List.append_nil]; exact hlen))
  have HBW := Lib.hid (hb.mono hB)
  have HOW : Hid (Others b w (w.alloc (.cells #[.pointer q] 46))) := Lib.hid (Others.of_new hb)
  clear h hB hP hx hE hlen hb hcw hblt
  go_enter Tryz.func105, Tryz.ntmps105
  go_wp2_with fail
  refine H.out.mono ?_
  rintro e w2 ⟨rfl, h2, hb2, ho2⟩
  have H2 : Hid (PC B b (l ++ (tLen ++ ([40] ++ (exV 1 x ++ [41])))) w2) := Lib.hid (by
    have e : tLen ++ ([40] ++ (exV 1 x ++ [41])) = tLen ++ ([40] ++ (argL true [x] ++ [41])) := by show _ = tLen ++ ([40] ++ ((exV 1 x ++ []) ++ [41])); rw [List.append_nil]
    rw [e]; exact h2)
  have HB2 := Lib.hid (HBW.out.trans hb2)
  have HO2 := Lib.hid (HOW.out.trans ho2)
  clear h2 hb2 ho2
  go_wp2_with fail
  try simp only [Exit.inBlock, Exit.then]
  go_end0
  exact ⟨rfl, H2.out, HB2.out, HO2.out⟩
end Go.Proofs.YtgonbmcojjcabaaGreatDoor

namespace Go.Proofs.YtgonbmcojjcabaaGreatDoor
open Go.RowKit Lx Tr
variable {w w' : World}

theorem ArgsAt.drew {B b : Nat} {av : Value} {l : List Ex} (h : ArgsAt B b w av l) : ArgsAt B b w.drew av l := by
  rcases h with h | ⟨g, cap, e, h1, h2⟩
  · exact Or.inl h
  · exact Or.inr ⟨g, cap, e, fun W' hb ho i => h1 W' (Below.trans (Below.drew (Below.refl B w)) hb) (Others.trans (Others.of_new (Below.drew (Below.refl _ _))) ho) i, fun i x hi => by
      obtain ⟨v, a1, a2⟩ := h2 i x hi
      exact ⟨v, a1, a2.below (Below.drew (Below.refl B w))⟩⟩
set_option maxRecDepth 100000 in
set_option maxHeartbeats 12800000 in
theorem bare_bin {B b bk op : Nat} {x y : Ex} {q p : Option Addr} (l : List UInt8) (w : World) (h : PC B b l w) (hB : B ≤ w.heap.size) (hP : PEnv B w) (c0 : w.cell? ⟨bk, 0, none⟩ = some (.int .i64 5)) (c4 : w.cell? ⟨bk, 4, none⟩ = some (.int .i64 (op : Nat))) (c5 : w.cell? ⟨bk, 5, none⟩ = some (.pointer q)) (c6 : w.cell? ⟨bk, 6, none⟩ = some (.pointer p)) (hbk : bk < B)
    (hx : ExIn w (fun k => k < B) (.pointer q) x) (hy : ExIn w (fun k => k < B) (.pointer p) y) (hE : PExprC B b x) (hF : PExprC B b y) (hlen : l.length + (exV (levV op) x ++ ([32] ++ (sgV op ++ ([32] ++ exV (levV op + 1) y)))).length ≤ 1000000) :
    Writes B b l (exV (levV op) x ++ ([32] ++ (sgV op ++ ([32] ++ exV (levV op + 1) y)))) w 105 #[.pointer (some ⟨b, 0, none⟩), .pointer (some ⟨bk, 0, none⟩)] := by
  unfold Writes
  simp only [List.length_append] at hlen
  have HL : Hid (l.length + ((exV (levV op) x).length + (1 + (List.length (sgV op) + (1 + (exV (levV op + 1) y).length)))) ≤ 1000000) := Lib.hid hlen
  have HC : Hid (∀ W', Below B w W' → W'.cell? ⟨bk, 4, none⟩ = some (.int .i64 (op : Nat)) ∧ W'.cell? ⟨bk, 6, none⟩ = some (.pointer p)) := Lib.hid fun W' hb => ⟨by rw [hb.cell (p := ⟨bk, 4, none⟩) hbk]; exact c4, by rw [hb.cell (p := ⟨bk, 6, none⟩) hbk]; exact c6⟩
  have hbd : Below B w w.drew := Below.drew (Below.refl B w)
  have HC5 : Hid (∀ W', Below B w W' → W'.cell? ⟨bk, 5, none⟩ = some (.pointer q)) := Lib.hid fun W' hb => by rw [hb.cell (p := ⟨bk, 5, none⟩) hbk]; exact c5
  have HLV : Hid (∀ W, Calls Tryz.prog 104 #[.int .i64 (op : Nat)] W fun e w' => e = .returned (.int .i64 (levV op : Nat)) ∧ W = w') := Lib.hid fun W => level_any op W
  have HEX := Lib.hid (hE (levV op) l w.drew _ (h.fresh (Below.drew (Below.refl _ _))) hB (hP.below hbd) (hx.below hbd) (by have := HL.out; omega))
  have HB := Lib.hid hB
  have HP := Lib.hid hP
  have HY := Lib.hid hy
  have HF := Lib.hid hF
  have HBD := Lib.hid hbd
  clear h hB hP hx hy hE hF hlen hbk hbd
  go_enter Tryz.func105, Tryz.ntmps105
  go_wp2_with fail
  refine wp_region_held_drew (S := (fun W' : World => W'.cell? ⟨bk, 4, none⟩ = some (.int .i64 (op : Nat)) ∧ W'.cell? ⟨bk, 5, none⟩ = some (.pointer q))) (by kernel_rfl) ⟨by simp only [World.cell?_drew]; assumption, by simp only [World.cell?_drew]; assumption⟩ (fun hHeld => ?_)
  refine wpAnyH_take (i := 0) (oi := { dst := some 45, op := _, type := _, pos := _, after := _, guard := _ }) (v := .pointer (some ⟨b, 0, none⟩)) rfl (by kernel_rfl) (by kernel_rfl) (by kernel_rfl) (fun _ _ _ h => h) (Or.inl ⟨by rfl, ?_⟩) hHeld ?_
  · intro W9 hSW
    (try dsimp only at hSW)
    go_simp
  try simp only [Act.put, List.setIfInBounds_toArray, List.set_cons_zero, List.set_cons_succ]
  refine wpAnyH_take (i := 1) (oi := { dst := some 46, op := _, type := _, pos := _, after := _, guard := _ }) (v := .pointer (some ⟨bk, 0, none⟩)) rfl (by kernel_rfl) (by kernel_rfl) (by kernel_rfl) (fun _ _ _ h => h) (Or.inl ⟨by rfl, ?_⟩) hHeld ?_
  · intro W9 hSW
    (try dsimp only at hSW)
    go_simp
  try simp only [Act.put, List.setIfInBounds_toArray, List.set_cons_zero, List.set_cons_succ]
  refine wpAnyH_take (i := 2) (oi := { dst := some 47, op := _, type := _, pos := _, after := _, guard := _ }) (v := .pointer (some ⟨bk, 0, none⟩)) rfl (by kernel_rfl) (by kernel_rfl) (by kernel_rfl) (fun _ _ _ h => h) (Or.inl ⟨by rfl, ?_⟩) hHeld ?_
  · intro W9 hSW
    (try dsimp only at hSW)
    go_simp
  try simp only [Act.put, List.setIfInBounds_toArray, List.set_cons_zero, List.set_cons_succ]
  refine wpAnyH_take (i := 3) (oi := { dst := some 48, op := _, type := _, pos := _, after := _, guard := _ }) (v := .pointer (some ⟨bk, 5, none⟩)) rfl (by kernel_rfl) (by kernel_rfl) (by kernel_rfl) (fun _ _ _ h => h) (Or.inl ⟨by rfl, ?_⟩) hHeld ?_
  · intro W9 hSW
    (try dsimp only at hSW)
    go_simp
  try simp only [Act.put, List.setIfInBounds_toArray, List.set_cons_zero, List.set_cons_succ]
  refine wpAnyH_take (i := 4) (oi := { dst := some 49, op := _, type := _, pos := _, after := _, guard := _ }) (v := .pointer q) rfl (by kernel_rfl) (by kernel_rfl) (by kernel_rfl) (fun _ _ _ h => h) (Or.inl ⟨by rfl, ?_⟩) hHeld ?_
  · intro W9 hSW
    (try dsimp only at hSW)
    go_simp
  try simp only [Act.put, List.setIfInBounds_toArray, List.set_cons_zero, List.set_cons_succ]
  refine wpAnyH_take (i := 5) (oi := { dst := some 50, op := _, type := _, pos := _, after := _, guard := _ }) (v := .pointer (some ⟨bk, 0, none⟩)) rfl (by kernel_rfl) (by kernel_rfl) (by kernel_rfl) (fun _ _ _ h => h) (Or.inl ⟨by rfl, ?_⟩) hHeld ?_
  · intro W9 hSW
    (try dsimp only at hSW)
    go_simp
  try simp only [Act.put, List.setIfInBounds_toArray, List.set_cons_zero, List.set_cons_succ]
  refine wpAnyH_take (i := 6) (oi := { dst := some 51, op := _, type := _, pos := _, after := _, guard := _ }) (v := .pointer (some ⟨bk, 0, none⟩)) rfl (by kernel_rfl) (by kernel_rfl) (by kernel_rfl) (fun _ _ _ h => h) (Or.inl ⟨by rfl, ?_⟩) hHeld ?_
  · intro W9 hSW
    (try dsimp only at hSW)
    go_simp
  try simp only [Act.put, List.setIfInBounds_toArray, List.set_cons_zero, List.set_cons_succ]
  refine wpAnyH_take (i := 7) (oi := { dst := some 52, op := _, type := _, pos := _, after := _, guard := _ }) (v := .pointer (some ⟨bk, 4, none⟩)) rfl (by kernel_rfl) (by kernel_rfl) (by kernel_rfl) (fun _ _ _ h => h) (Or.inl ⟨by rfl, ?_⟩) hHeld ?_
  · intro W9 hSW
    (try dsimp only at hSW)
    go_simp
  try simp only [Act.put, List.setIfInBounds_toArray, List.set_cons_zero, List.set_cons_succ]
  refine wpAnyH_take (i := 8) (oi := { dst := some 53, op := _, type := _, pos := _, after := _, guard := _ }) (v := .int .i64 (op : Nat)) rfl (by kernel_rfl) (by kernel_rfl) (by kernel_rfl) (fun _ _ _ h => h) (Or.inl ⟨by rfl, ?_⟩) hHeld ?_
  · intro W9 hSW
    (try dsimp only at hSW)
    go_simp
  try simp only [Act.put, List.setIfInBounds_toArray, List.set_cons_zero, List.set_cons_succ]
  refine wpAnyH_ready (rs := [9]) (by kernel_rfl) (by simp) ?_
  refine AllReadyH.cons (o := { dst := some 54, op := _, type := _, pos := _, after := _, guard := _ }) rfl (fun K hK => ?_) AllReadyH.nil
  go_simp
  go_at_call 104
  refine (HLV.out _).mono ?_
  rintro e w1 ⟨rfl, rfl⟩
  refine hK.out _ _ hHeld (fun hHeld => ?_)
  clear hK K
  refine wpAnyH_ready (rs := [10]) (by kernel_rfl) (by simp) ?_
  refine AllReadyH.cons (o := { dst := some 55, op := _, type := _, pos := _, after := _, guard := _ }) rfl (fun K hK => ?_) AllReadyH.nil
  go_simp
  go_at_call 73
  refine HEX.out.mono ?_
  rintro e w2 ⟨rfl, h2, hb2, ho2⟩
  have HB2 := Lib.hid (HBD.out.trans hb2)
  have HO2 : Hid (Others b w w2) := Lib.hid ((Others.of_new (Below.drew (Below.refl _ _))).trans ho2)
  have H2 := Lib.hid h2
  have d4 := (HC.out w2 HB2.out).1
  have d6 := (HC.out w2 HB2.out).2
  have d5 : w2.cell? ⟨bk, 5, none⟩ = some (.pointer q) := HC5.out w2 HB2.out
  clear h2 hb2 ho2
  refine hK.out _ _ ⟨d4, d5⟩ (fun hHeld => ?_)
  clear hK K
  refine wpAnyH_done (by kernel_rfl) ?_ _
  have HSG := Lib.hid (tsign_any op w2 (HP.out.below HB2.out).signs)
  have HPUT := Lib.hid (put_new B b _ [⟨#[32]⟩, mkT (sgV op), ⟨#[32]⟩] w2 H2.out (Nat.le_trans HB.out HB2.out.size) (by have := HL.out; rw [List.length_append]; show l.length + _ + ([32] ++ (sgV op ++ ([32] ++ []))).length ≤ _; simp only [List.length_append, List.length_singleton, List.length_nil]; omega) (by simp))
  clear c4 c5 c6
  go_wp2_with fail
  refine HSG.out.mono ?_
  rintro e w3 ⟨rfl, rfl⟩
  go_wp2_with fail
  refine HPUT.out.mono ?_
  rintro e w4 ⟨rfl, h4, hb4, ho4⟩
  have HB4 := Lib.hid (HB2.out.trans hb4)
  have HO4 := Lib.hid (HO2.out.trans ho4)
  have hbd : Below B w w4.drew := HB4.out.trans (Below.drew (Below.refl B w4))
  have hcat : catV [⟨#[32]⟩, mkT (sgV op), ⟨#[32]⟩] = [32] ++ (sgV op ++ ([32] ++ [])) := rfl
  have HEY := Lib.hid (HF.out (levV op + 1) _ w4.drew _ (h4.fresh (Below.drew (Below.refl _ _))) (Nat.le_trans HB.out HB4.out.size) (HP.out.below hbd) (HY.out.below hbd) (by have := HL.out; rw [hcat]; simp only [List.length_append, List.length_singleton, List.length_nil]; omega))
  have d6 := (HC.out w4 HB4.out).2
  have d4 := (HC.out w4 HB4.out).1
  have HBD2 := Lib.hid hbd
  have hw : IntKind.i64.wrap ((levV op : Nat) + 1 : Int) = ((levV op + 1 : Nat) : Int) := by
    rw [IntWalk.i64_in _ (by have : levV op ≤ 5 := (by unfold levV; (repeat' split) <;> omega); omega)]; omega
  clear h4 hb4 ho4 hbd hcat
  go_wp2_with fail
  refine wp_region_held_drew (S := (fun W' : World => W'.cell? ⟨bk, 4, none⟩ = some (.int .i64 (op : Nat)) ∧ W'.cell? ⟨bk, 6, none⟩ = some (.pointer p))) (by kernel_rfl) ⟨by simp only [World.cell?_drew]; assumption, by simp only [World.cell?_drew]; assumption⟩ (fun hHeld => ?_)
  refine wpAnyH_take (i := 0) (oi := { dst := some 64, op := _, type := _, pos := _, after := _, guard := _ }) (v := .pointer (some ⟨b, 0, none⟩)) rfl (by kernel_rfl) (by kernel_rfl) (by kernel_rfl) (fun _ _ _ h => h) (Or.inl ⟨by rfl, ?_⟩) hHeld ?_
  · intro W9 hSW
    (try dsimp only at hSW)
    go_simp
  try simp only [Act.put, List.setIfInBounds_toArray, List.set_cons_zero, List.set_cons_succ]
  refine wpAnyH_take (i := 1) (oi := { dst := some 65, op := _, type := _, pos := _, after := _, guard := _ }) (v := .pointer (some ⟨bk, 0, none⟩)) rfl (by kernel_rfl) (by kernel_rfl) (by kernel_rfl) (fun _ _ _ h => h) (Or.inl ⟨by rfl, ?_⟩) hHeld ?_
  · intro W9 hSW
    (try dsimp only at hSW)
    go_simp
  try simp only [Act.put, List.setIfInBounds_toArray, List.set_cons_zero, List.set_cons_succ]
  refine wpAnyH_take (i := 2) (oi := { dst := some 66, op := _, type := _, pos := _, after := _, guard := _ }) (v := .pointer (some ⟨bk, 0, none⟩)) rfl (by kernel_rfl) (by kernel_rfl) (by kernel_rfl) (fun _ _ _ h => h) (Or.inl ⟨by rfl, ?_⟩) hHeld ?_
  · intro W9 hSW
    (try dsimp only at hSW)
    go_simp
  try simp only [Act.put, List.setIfInBounds_toArray, List.set_cons_zero, List.set_cons_succ]
  refine wpAnyH_take (i := 3) (oi := { dst := some 67, op := _, type := _, pos := _, after := _, guard := _ }) (v := .pointer (some ⟨bk, 6, none⟩)) rfl (by kernel_rfl) (by kernel_rfl) (by kernel_rfl) (fun _ _ _ h => h) (Or.inl ⟨by rfl, ?_⟩) hHeld ?_
  · intro W9 hSW
    (try dsimp only at hSW)
    go_simp
  try simp only [Act.put, List.setIfInBounds_toArray, List.set_cons_zero, List.set_cons_succ]
  refine wpAnyH_take (i := 4) (oi := { dst := some 68, op := _, type := _, pos := _, after := _, guard := _ }) (v := .pointer p) rfl (by kernel_rfl) (by kernel_rfl) (by kernel_rfl) (fun _ _ _ h => h) (Or.inl ⟨by rfl, ?_⟩) hHeld ?_
  · intro W9 hSW
    (try dsimp only at hSW)
    go_simp
  try simp only [Act.put, List.setIfInBounds_toArray, List.set_cons_zero, List.set_cons_succ]
  refine wpAnyH_take (i := 5) (oi := { dst := some 69, op := _, type := _, pos := _, after := _, guard := _ }) (v := .pointer (some ⟨bk, 0, none⟩)) rfl (by kernel_rfl) (by kernel_rfl) (by kernel_rfl) (fun _ _ _ h => h) (Or.inl ⟨by rfl, ?_⟩) hHeld ?_
  · intro W9 hSW
    (try dsimp only at hSW)
    go_simp
  try simp only [Act.put, List.setIfInBounds_toArray, List.set_cons_zero, List.set_cons_succ]
  refine wpAnyH_take (i := 6) (oi := { dst := some 70, op := _, type := _, pos := _, after := _, guard := _ }) (v := .pointer (some ⟨bk, 0, none⟩)) rfl (by kernel_rfl) (by kernel_rfl) (by kernel_rfl) (fun _ _ _ h => h) (Or.inl ⟨by rfl, ?_⟩) hHeld ?_
  · intro W9 hSW
    (try dsimp only at hSW)
    go_simp
  try simp only [Act.put, List.setIfInBounds_toArray, List.set_cons_zero, List.set_cons_succ]
  refine wpAnyH_take (i := 7) (oi := { dst := some 71, op := _, type := _, pos := _, after := _, guard := _ }) (v := .pointer (some ⟨bk, 4, none⟩)) rfl (by kernel_rfl) (by kernel_rfl) (by kernel_rfl) (fun _ _ _ h => h) (Or.inl ⟨by rfl, ?_⟩) hHeld ?_
  · intro W9 hSW
    (try dsimp only at hSW)
    go_simp
  try simp only [Act.put, List.setIfInBounds_toArray, List.set_cons_zero, List.set_cons_succ]
  refine wpAnyH_take (i := 8) (oi := { dst := some 72, op := _, type := _, pos := _, after := _, guard := _ }) (v := .int .i64 (op : Nat)) rfl (by kernel_rfl) (by kernel_rfl) (by kernel_rfl) (fun _ _ _ h => h) (Or.inl ⟨by rfl, ?_⟩) hHeld ?_
  · intro W9 hSW
    (try dsimp only at hSW)
    go_simp
  try simp only [Act.put, List.setIfInBounds_toArray, List.set_cons_zero, List.set_cons_succ]
  refine wpAnyH_ready (rs := [9]) (by kernel_rfl) (by simp) ?_
  refine AllReadyH.cons (o := { dst := some 73, op := _, type := _, pos := _, after := _, guard := _ }) rfl (fun K hK => ?_) AllReadyH.nil
  go_simp
  go_at_call 104
  refine (HLV.out _).mono ?_
  rintro e w5 ⟨rfl, rfl⟩
  refine hK.out _ _ hHeld (fun hHeld => ?_)
  clear hK K
  refine wpAnyH_take (i := 10) (oi := { dst := some 74, op := _, type := _, pos := _, after := _, guard := _ }) (v := .int .i64 ((levV op + 1 : Nat) : Int)) rfl (by kernel_rfl) (by kernel_rfl) (by kernel_rfl) (fun _ _ _ h => h) (Or.inl ⟨by rfl, ?_⟩) hHeld ?_
  · intro W9 hSW
    (try dsimp only at hSW)
    go_simp
  try simp only [Act.put, List.setIfInBounds_toArray, List.set_cons_zero, List.set_cons_succ]
  refine wpAnyH_ready (rs := [11]) (by kernel_rfl) (by simp) ?_
  refine AllReadyH.cons (o := { dst := some 75, op := _, type := _, pos := _, after := _, guard := _ }) rfl (fun K hK => ?_) AllReadyH.nil
  go_simp
  go_at_call 73
  refine HEY.out.mono ?_
  rintro e w6 ⟨rfl, h6, hb6, ho6⟩
  have HB6 := Lib.hid (HBD2.out.trans hb6)
  have HO6 : Hid (Others b w w6) := Lib.hid ((HO4.out.trans (Others.of_new (Below.drew (Below.refl _ _)))).trans ho6)
  have h6' : PC B b (l ++ (exV (levV op) x ++ ([32] ++ (sgV op ++ ([32] ++ exV (levV op + 1) y))))) w6 := by
    have e : l ++ (exV (levV op) x ++ ([32] ++ (sgV op ++ ([32] ++ exV (levV op + 1) y)))) = l ++ exV (levV op) x ++ catV [⟨#[32]⟩, mkT (sgV op), ⟨#[32]⟩] ++ exV (levV op + 1) y := by
      show _ = l ++ exV (levV op) x ++ ([32] ++ (sgV op ++ ([32] ++ []))) ++ exV (levV op + 1) y
      simp only [List.append_assoc, List.append_nil]
    rw [e]; exact h6
  have H6 := Lib.hid h6'
  have e4 := (HC.out w6 HB6.out).1
  have e6 := (HC.out w6 HB6.out).2
  clear h6 h6' hb6 ho6
  refine hK.out _ _ ⟨e4, e6⟩ (fun hHeld => ?_)
  clear hK K
  refine wpAnyH_done (by kernel_rfl) ?_ _
  go_wp2_with fail
  try simp only [Exit.inBlock, Exit.then]
  go_end0
  exact ⟨rfl, H6.out, HB6.out, HO6.out⟩

set_option maxRecDepth 100000 in
set_option maxHeartbeats 12800000 in
theorem bare_call {B b bk : Nat} {name : Lx.B} {ar : List Ex} {av : Value} (l : List UInt8) (w : World) (h : PC B b l w) (hB : B ≤ w.heap.size) (hP : PEnv B w) (c0 : w.cell? ⟨bk, 0, none⟩ = some (.int .i64 7)) (c3 : w.cell? ⟨bk, 3, none⟩ = some (.string (mkT name))) (c7 : w.cell? ⟨bk, 7, none⟩ = some av) (hbk : bk < B)
    (hx : ArgsAt B b w av ar) (hA : ∀ x ∈ ar, PExprC B b x) (hlen : l.length + (name ++ ([40] ++ (argL true ar ++ [41]))).length ≤ 1000000) :
    Writes B b l (name ++ ([40] ++ (argL true ar ++ [41]))) w 105 #[.pointer (some ⟨b, 0, none⟩), .pointer (some ⟨bk, 0, none⟩)] := by
  unfold Writes
  have hbd : Below B w w.drew := Below.drew (Below.refl B w)
  have hxd : ArgsAt B b w.drew av ar := hx.drew
  obtain ⟨ao, n, cap, rfl⟩ : ∃ ao n cap, av = .slice ao n cap := by
    rcases hx with ⟨e1, e2⟩ | ⟨g, cap, e1, _⟩
    · exact ⟨_, _, _, e1⟩
    · exact ⟨_, _, _, e1⟩
  have H := Lib.hid (pcall_any name ar hA l w.drew _ (h.fresh (Below.drew (Below.refl _ _))) hB (hP.below hbd) hxd hlen)
  have HC : Hid (∀ W', Below B w W' → W'.cell? ⟨bk, 3, none⟩ = some (.string (mkT name)) ∧ W'.cell? ⟨bk, 7, none⟩ = some (.slice ao n cap)) := Lib.hid fun W' hb => ⟨by rw [hb.cell (p := ⟨bk, 3, none⟩) hbk]; exact c3, by rw [hb.cell (p := ⟨bk, 7, none⟩) hbk]; exact c7⟩
  have HBD := Lib.hid hbd
  clear h hB hP hx hA hlen hbk hbd hxd
  go_enter Tryz.func105, Tryz.ntmps105
  go_wp2_with fail
  refine wp_region_held_drew (S := (fun W' : World => W'.cell? ⟨bk, 3, none⟩ = some (.string (mkT name)) ∧ W'.cell? ⟨bk, 7, none⟩ = some (.slice ao n cap))) (by kernel_rfl) ⟨by simp only [World.cell?_drew]; assumption, by simp only [World.cell?_drew]; assumption⟩ (fun hHeld => ?_)
  refine wpAnyH_take (i := 0) (oi := { dst := some 123, op := _, type := _, pos := _, after := _, guard := _ }) (v := .pointer (some ⟨b, 0, none⟩)) rfl (by kernel_rfl) (by kernel_rfl) (by kernel_rfl) (fun _ _ _ h => h) (Or.inl ⟨by rfl, ?_⟩) hHeld ?_
  · intro W9 hSW
    (try dsimp only at hSW)
    go_simp
  try simp only [Act.put, List.setIfInBounds_toArray, List.set_cons_zero, List.set_cons_succ]
  refine wpAnyH_take (i := 1) (oi := { dst := some 124, op := _, type := _, pos := _, after := _, guard := _ }) (v := .pointer (some ⟨bk, 0, none⟩)) rfl (by kernel_rfl) (by kernel_rfl) (by kernel_rfl) (fun _ _ _ h => h) (Or.inl ⟨by rfl, ?_⟩) hHeld ?_
  · intro W9 hSW
    (try dsimp only at hSW)
    go_simp
  try simp only [Act.put, List.setIfInBounds_toArray, List.set_cons_zero, List.set_cons_succ]
  refine wpAnyH_take (i := 2) (oi := { dst := some 125, op := _, type := _, pos := _, after := _, guard := _ }) (v := .pointer (some ⟨bk, 0, none⟩)) rfl (by kernel_rfl) (by kernel_rfl) (by kernel_rfl) (fun _ _ _ h => h) (Or.inl ⟨by rfl, ?_⟩) hHeld ?_
  · intro W9 hSW
    (try dsimp only at hSW)
    go_simp
  try simp only [Act.put, List.setIfInBounds_toArray, List.set_cons_zero, List.set_cons_succ]
  refine wpAnyH_take (i := 3) (oi := { dst := some 126, op := _, type := _, pos := _, after := _, guard := _ }) (v := .pointer (some ⟨bk, 3, none⟩)) rfl (by kernel_rfl) (by kernel_rfl) (by kernel_rfl) (fun _ _ _ h => h) (Or.inl ⟨by rfl, ?_⟩) hHeld ?_
  · intro W9 hSW
    (try dsimp only at hSW)
    go_simp
  try simp only [Act.put, List.setIfInBounds_toArray, List.set_cons_zero, List.set_cons_succ]
  refine wpAnyH_take (i := 4) (oi := { dst := some 127, op := _, type := _, pos := _, after := _, guard := _ }) (v := .string (mkT name)) rfl (by kernel_rfl) (by kernel_rfl) (by kernel_rfl) (fun _ _ _ h => h) (Or.inl ⟨by rfl, ?_⟩) hHeld ?_
  · intro W9 hSW
    (try dsimp only at hSW)
    go_simp
  try simp only [Act.put, List.setIfInBounds_toArray, List.set_cons_zero, List.set_cons_succ]
  refine wpAnyH_take (i := 5) (oi := { dst := some 128, op := _, type := _, pos := _, after := _, guard := _ }) (v := .pointer (some ⟨bk, 0, none⟩)) rfl (by kernel_rfl) (by kernel_rfl) (by kernel_rfl) (fun _ _ _ h => h) (Or.inl ⟨by rfl, ?_⟩) hHeld ?_
  · intro W9 hSW
    (try dsimp only at hSW)
    go_simp
  try simp only [Act.put, List.setIfInBounds_toArray, List.set_cons_zero, List.set_cons_succ]
  refine wpAnyH_take (i := 6) (oi := { dst := some 129, op := _, type := _, pos := _, after := _, guard := _ }) (v := .pointer (some ⟨bk, 0, none⟩)) rfl (by kernel_rfl) (by kernel_rfl) (by kernel_rfl) (fun _ _ _ h => h) (Or.inl ⟨by rfl, ?_⟩) hHeld ?_
  · intro W9 hSW
    (try dsimp only at hSW)
    go_simp
  try simp only [Act.put, List.setIfInBounds_toArray, List.set_cons_zero, List.set_cons_succ]
  refine wpAnyH_take (i := 7) (oi := { dst := some 130, op := _, type := _, pos := _, after := _, guard := _ }) (v := .pointer (some ⟨bk, 7, none⟩)) rfl (by kernel_rfl) (by kernel_rfl) (by kernel_rfl) (fun _ _ _ h => h) (Or.inl ⟨by rfl, ?_⟩) hHeld ?_
  · intro W9 hSW
    (try dsimp only at hSW)
    go_simp
  try simp only [Act.put, List.setIfInBounds_toArray, List.set_cons_zero, List.set_cons_succ]
  refine wpAnyH_take (i := 8) (oi := { dst := some 131, op := _, type := _, pos := _, after := _, guard := _ }) (v := .slice ao n cap) rfl (by kernel_rfl) (by kernel_rfl) (by kernel_rfl) (fun _ _ _ h => h) (Or.inl ⟨by rfl, ?_⟩) hHeld ?_
  · intro W9 hSW
    (try dsimp only at hSW)
    go_simp
  try simp only [Act.put, List.setIfInBounds_toArray, List.set_cons_zero, List.set_cons_succ]
  refine wpAnyH_ready (rs := [9]) (by kernel_rfl) (by simp) ?_
  refine AllReadyH.cons (o := { dst := some 132, op := _, type := _, pos := _, after := _, guard := _ }) rfl (fun K hK => ?_) AllReadyH.nil
  go_simp
  go_at_call 137
  refine H.out.mono ?_
  rintro e w2 ⟨rfl, h2, hb2, ho2⟩
  have HB2 := Lib.hid (HBD.out.trans hb2)
  have HO2 : Hid (Others b w w2) := Lib.hid ((Others.of_new (Below.drew (Below.refl _ _))).trans ho2)
  have H2 := Lib.hid h2
  clear h2 hb2 ho2
  refine hK.out _ _ (HC.out w2 HB2.out) (fun hHeld => ?_)
  clear hK K
  refine wpAnyH_done (by kernel_rfl) ?_ _
  go_wp2_with fail
  try simp only [Exit.inBlock, Exit.then]
  go_end0
  exact ⟨rfl, H2.out, HB2.out, HO2.out⟩
end Go.Proofs.YtgonbmcojjcabaaGreatDoor

namespace Go.Proofs.YtgonbmcojjcabaaGreatDoor
open Go.RowKit Lx Tr
variable {w w' : World}

set_option maxRecDepth 100000 in
set_option maxHeartbeats 6400000 in
theorem bare_other {B b bk code : Nat} (hc : code = 0 ∨ 10 < code) (l : List UInt8) (w : World) (h : PC B b l w) (c0 : w.cell? ⟨bk, 0, none⟩ = some (.int .i64 (code : Nat))) :
    Writes B b l [] w 105 #[.pointer (some ⟨b, 0, none⟩), .pointer (some ⟨bk, 0, none⟩)] := by
  unfold Writes
  rw [List.append_nil]
  have H := Lib.hid h
  have e1 : ((code : Int) == 1) = false := beq_eq_false_iff_ne.2 (by omega)
  have e2 : ((code : Int) == 2) = false := beq_eq_false_iff_ne.2 (by omega)
  have e3 : ((code : Int) == 3) = false := beq_eq_false_iff_ne.2 (by omega)
  have e4 : ((code : Int) == 4) = false := beq_eq_false_iff_ne.2 (by omega)
  have e5 : ((code : Int) == 5) = false := beq_eq_false_iff_ne.2 (by omega)
  have e6 : ((code : Int) == 6) = false := beq_eq_false_iff_ne.2 (by omega)
  have e7 : ((code : Int) == 7) = false := beq_eq_false_iff_ne.2 (by omega)
  have e8 : ((code : Int) == 8) = false := beq_eq_false_iff_ne.2 (by omega)
  have e9 : ((code : Int) == 9) = false := beq_eq_false_iff_ne.2 (by omega)
  have e10 : ((code : Int) == 10) = false := beq_eq_false_iff_ne.2 (by omega)
  clear h hc
  go_enter Tryz.func105, Tryz.ntmps105
  go_wp2_with fail
  try simp only [Exit.inBlock, Exit.then]
  go_end0
  exact ⟨rfl, H.out, Below.refl _ _, Others.refl _ _⟩
theorem exsIn_at {F : Nat → Prop} {g : Nat} : ∀ (xs : Exs) (i : Nat), ExsIn w F g i xs → ∀ (j : Nat) (x : Ex), xs.toList[j]? = some x → ∃ v, w.cell? ⟨g, (i + j : Nat), none⟩ = some v ∧ ExIn w F v x
  | .nil, _, _, j, x, h => by simp [Exs.toList] at h
  | .cons y ys, i, ⟨h1, h2⟩, 0, x, h => by
    obtain ⟨v, a1, a2⟩ := h1
    have e : y = x := by simpa [Exs.toList] using h
    subst e
    exact ⟨v, a1, a2⟩
  | .cons y ys, i, ⟨h1, h2⟩, j + 1, x, h => by
    obtain ⟨v, a1, a2⟩ := exsIn_at ys (i + 1) h2 j x (by simpa [Exs.toList] using h)
    exact ⟨v, by rw [show i + (j + 1) = i + 1 + j by omega]; exact a1, a2⟩
theorem argsAt_of {B b : Nat} {av : Value} {args : Exs} (ha : (av = .slice none 0 0 ∧ args.len = 0) ∨ ∃ g cap, av = .slice (some ⟨g, 0, none⟩) args.len cap ∧ args.len ≤ cap ∧ cap ≤ maxLen ∧ 0 < args.len ∧ g < B)
    (has : ∀ g n cap, av = .slice (some ⟨g, 0, none⟩) n cap → ExsIn w (fun k => k < B) g 0 args) : ArgsAt B b w av args.toList := by
  rcases ha with ⟨e1, e2⟩ | ⟨g, cap, e1, _, _, _, hg⟩
  · refine Or.inl ⟨e1, ?_⟩
    cases args with
    | nil => rfl
    | cons x xs => exact absurd e2 (by show xs.len + 1 ≠ 0; omega)
  · refine Or.inr ⟨g, cap, by rw [e1, Exs.len_list], fun W' hb _ i => hb.cell (p := ⟨g, i, none⟩) hg, fun i x hi => ?_⟩
    obtain ⟨v, a1, a2⟩ := exsIn_at args 0 (has g _ _ e1) i x hi
    rw [Nat.zero_add] at a1
    exact ⟨v, a1, a2⟩
theorem exIn_ptr {F : Nat → Prop} {v : Value} {x : Ex} (h : ExIn w F v x) : ∃ q, v = .pointer q := by
  cases x with
  | nil => exact ⟨none, h⟩
  | mk => obtain ⟨b, _, _, _, e, _⟩ := h; exact ⟨_, e⟩
theorem bare_any {B b : Nat} (code at_ n op : Nat) (name : Lx.B) (lx rx : Ex) (args : Exs) (hn : n ≤ 9223372036854775807) (hL : PExprC B b lx) (hR : PExprC B b rx) (hA : ∀ x ∈ args.toList, PExprC B b x) : BareC B b (.mk code at_ n op name lx rx args) := by
  intro l w v h hB hP hx hlen _
  obtain ⟨bk, lv, rv, av, rfl, hbk, c0, _, c2, c3, c4, c5, c6, c7, hl, hr, ha, has⟩ := hx
  obtain ⟨q, rfl⟩ := exIn_ptr hl
  obtain ⟨p, rfl⟩ := exIn_ptr hr
  by_cases h1 : code = 1
  · subst h1
    have e : bareV (.mk 1 at_ n op name lx rx args) = sOfB n := by rw [bareV]; rfl
    rw [e] at hlen ⊢
    exact bare_num l w h hB hP c0 c2 hn hlen
  by_cases h2 : code = 2
  · subst h2
    have e : bareV (.mk 2 at_ n op name lx rx args) = if n = 0 then tFalse else tTrue := by rw [bareV]; rfl
    rw [e] at hlen ⊢
    exact bare_bool l w h hB c0 c2 hlen
  by_cases h3 : code = 3
  · subst h3
    have e : bareV (.mk 3 at_ n op name lx rx args) = tNil := by rw [bareV]; rfl
    rw [e] at hlen ⊢
    exact bare_nil l w h hB c0 hlen
  by_cases h4 : code = 4
  · subst h4
    have e : bareV (.mk 4 at_ n op name lx rx args) = name := by rw [bareV]; rfl
    rw [e] at hlen ⊢
    exact bare_name l w h hB c0 c3 hlen
  by_cases h5 : code = 5
  · subst h5
    have e : bareV (.mk 5 at_ n op name lx rx args) = exV (levV op) lx ++ ([32] ++ (sgV op ++ ([32] ++ exV (levV op + 1) rx))) := by rw [bareV]; rfl
    rw [e] at hlen ⊢
    exact bare_bin l w h hB hP c0 c4 c5 c6 hbk hl hr hL hR hlen
  by_cases h6 : code = 6
  · subst h6
    have e : bareV (.mk 6 at_ n op name lx rx args) = signL op ++ exV 6 lx := by rw [bareV]; rfl
    rw [e] at hlen ⊢
    exact bare_un l w h hB hP c0 c4 c5 hl hL hbk hlen
  by_cases h7 : code = 7
  · subst h7
    have e : bareV (.mk 7 at_ n op name lx rx args) = name ++ ([40] ++ (argL true args.toList ++ [41])) := by rw [bareV, argV_list]; rfl
    rw [e] at hlen ⊢
    exact bare_call l w h hB hP c0 c3 c7 hbk (argsAt_of ha has) hA hlen
  by_cases h8 : code = 8
  · subst h8
    have e : bareV (.mk 8 at_ n op name lx rx args) = tMake ++ ([40] ++ (exV 1 lx ++ [41])) := by rw [bareV]; rfl
    rw [e] at hlen ⊢
    exact bare_make l w h hB hP c0 c5 hl hL hlen
  by_cases h9 : code = 9
  · subst h9
    have e : bareV (.mk 9 at_ n op name lx rx args) = tLen ++ ([40] ++ (exV 1 lx ++ [41])) := by rw [bareV]; rfl
    rw [e] at hlen ⊢
    exact bare_len l w h hB hP c0 c5 hl hL hlen
  by_cases h10 : code = 10
  · subst h10
    have e : bareV (.mk 10 at_ n op name lx rx args) = tArrow ++ exV 6 lx := by rw [bareV]; rfl
    rw [e] at hlen ⊢
    exact bare_recv l w h hB hP c0 c5 hl hL hbk hlen
  · have e : bareV (.mk code at_ n op name lx rx args) = [] := by rw [bareV, if_neg h1, if_neg h2, if_neg h3, if_neg h4, if_neg h5, if_neg h6, if_neg h10, if_neg h8, if_neg h9, if_neg h7]
    rw [e]
    exact bare_other (by omega) l w h c0
mutual
theorem pexpr_all {B b : Nat} : ∀ x : Ex, ExOk x → PExprC B b x
  | .nil, _ => pexpr_any (fun _ _ _ _ _ _ _ _ h => absurd rfl h)
  | .mk code at_ n op name lx rx args, h => pexpr_any (bare_any code at_ n op name lx rx args h.1 (pexpr_all lx h.2.1) (pexpr_all rx h.2.2.1) (pexprs_all args h.2.2.2))
theorem pexprs_all {B b : Nat} : ∀ xs : Exs, ExsOk xs → ∀ x ∈ xs.toList, PExprC B b x
  | .nil, _, x, hx => by cases hx
  | .cons y ys, h, x, hx => by
    rcases List.mem_cons.1 hx with e | e
    · rw [e]; exact pexpr_all y h.1
    · exact pexprs_all ys h.2 x e
end
end Go.Proofs.YtgonbmcojjcabaaGreatDoor

namespace Go.Proofs.YtgonbmcojjcabaaGreatDoor
open Go.RowKit Lx Tr
variable {w w' : World}

theorem mkT_app (a c : Lx.B) : mkT a ++ mkT c = mkT (a ++ c) := by
  apply ByteArray.ext
  rw [ByteArray.data_append]
  simp [mkT]
theorem fresh_alloc (w : World) (xs : Array Value) (e : TypeId) : Below w.heap.size w (w.alloc (.cells xs e)) := ((Keeps.refl (fun _ => False) w).alloc _).below (Nat.le_refl _) (fun _ _ e => e.elim)
theorem pc_new (w : World) : PC w.heap.size w.heap.size [] (w.alloc (.cells #[.pointer none, .slice none 0 0] 80)) :=
  ⟨Lib.fresh_isBuilder _ _ w, fun _ => by rw [Lib.cell_of_heap (heap_alloc_new w _)]; rfl⟩
/-- What a function that makes a text says. -/
def Tells (w : World) (f : FuncId) (args : Array Value) (t : List UInt8) : Prop := Calls Tryz.prog f args w fun e w' => e = .returned (.string (mkT t)) ∧ Below w.heap.size w w'

set_option maxRecDepth 100000 in
set_option maxHeartbeats 3200000 in
theorem written_ex {B : Nat} (x : Ex) (hok : ExOk x) (least : Nat) (w : World) (v : Value) (hB : B ≤ w.heap.size) (hP : PEnv B w) (hx : ExIn w (fun k => k < B) v x) (hlen : (exV least x).length ≤ 1000000) :
    Tells w 42 #[v, .int .i64 (least : Nat)] (exV least x) := by
  unfold Tells
  obtain ⟨q, rfl⟩ := exIn_ptr hx
  have hb := fresh_alloc w #[.pointer none, .slice none 0 0] 80
  have HE := Lib.hid (pexpr_all x hok least [] (w.alloc (.cells #[.pointer none, .slice none 0 0] 80)) (.pointer q) (pc_new w) hb.size ((hP.mono hB).below hb) ((ExIn.mono (fun k _ (hk : k < B) => Nat.lt_of_lt_of_le hk hB) _ _ hx).below hb) (by rw [List.length_nil, Nat.zero_add]; exact hlen))
  have HB := Lib.hid hb
  clear hB hP hx hlen hb hok
  go_enter Tryz.func42, Tryz.ntmps42
  go_wp2_with fail
  refine HE.out.mono ?_
  rintro e w2 ⟨rfl, h2, hb2, ho2⟩
  have HS := Lib.hid (pString_any _ _ _ _ h2)
  have HB2 := Lib.hid (HB.out.trans hb2)
  clear h2 hb2 ho2
  go_wp2_with fail
  refine HS.out.mono ?_
  rintro e w3 ⟨rfl, hb3⟩
  have HB3 := Lib.hid (HB2.out.trans hb3)
  clear hb3
  go_wp2_with fail
  try simp only [Exit.inBlock, Exit.then]
  go_ret
  exact ⟨rfl, HB3.out⟩
set_option maxRecDepth 100000 in
set_option maxHeartbeats 3200000 in
theorem text_ex {B : Nat} (x : Ex) (hok : ExOk x) (w : World) (v : Value) (hB : B ≤ w.heap.size) (hP : PEnv B w) (hx : ExIn w (fun k => k < B) v x) (hlen : (exV 1 x).length ≤ 1000000) :
    Tells w 20 #[v] (exV 1 x) := by
  unfold Tells
  obtain ⟨q, rfl⟩ := exIn_ptr hx
  have HC := Lib.hid (written_ex x hok 1 w _ hB hP hx hlen)
  clear hB hP hx hlen hok
  go_enter Tryz.func20, Tryz.ntmps20
  go_wp2_with fail
  refine HC.out.mono ?_
  rintro e w2 ⟨rfl, hb2⟩
  have HB2 := Lib.hid hb2
  clear hb2
  go_wp2_with fail
  try simp only [Exit.inBlock, Exit.then]
  go_ret
  exact ⟨rfl, HB2.out⟩

/-- What is written where a value is sent. -/
def sentV (x y : Ex) : Lx.B := exV 6 x ++ ([32, 60, 45, 32] ++ exV 1 y)
set_option maxRecDepth 100000 in
set_option maxHeartbeats 3200000 in
theorem sent_ex {B : Nat} (x y : Ex) (hokx : ExOk x) (hoky : ExOk y) (w : World) (v u : Value) (hB : B ≤ w.heap.size) (hP : PEnv B w) (hx : ExIn w (fun k => k < B) v x) (hy : ExIn w (fun k => k < B) u y) (hlen : (sentV x y).length ≤ 1000000) :
    Tells w 125 #[v, u] (sentV x y) := by
  unfold Tells
  have hl : (exV 6 x).length + (4 + (exV 1 y).length) ≤ 1000000 := by
    unfold sentV at hlen
    simpa only [List.length_append, List.length_cons, List.length_nil] using hlen
  obtain ⟨q, rfl⟩ := exIn_ptr hx
  obtain ⟨p, rfl⟩ := exIn_ptr hy
  have hs1 : ¬ 9223372036854775807 < (mkT (exV 6 x)).size + 4 := by rw [mkT_size]; omega
  have hs2 : ¬ 9223372036854775807 < (mkT (exV 6 x)).size + 4 + (mkT (exV 1 y)).size := by rw [mkT_size, mkT_size]; omega
  have HC := Lib.hid (written_ex x hokx 6 w _ hB hP hx (by omega))
  have HT : Hid (∀ W, Below w.heap.size w W → Tells W 20 #[.pointer p] (exV 1 y)) := Lib.hid fun W hb => text_ex y hoky W _ (Nat.le_trans hB hb.size) (hP.below (hb.mono hB)) (hy.below (hb.mono hB)) (by omega)
  clear hB hP hx hy hlen hokx hoky hl
  go_enter Tryz.func125, Tryz.ntmps125
  go_wp2_with fail
  refine HC.out.mono ?_
  rintro e w2 ⟨rfl, hb2⟩
  have HT2 := Lib.hid (HT.out w2 hb2)
  have HB2 := Lib.hid hb2
  clear hb2
  go_wp2_with fail
  refine HT2.out.mono ?_
  rintro e w3 ⟨rfl, hb3⟩
  have HB3 := Lib.hid (HB2.out.trans (hb3.mono HB2.out.size))
  clear hb3
  go_wp2_with fail
  try simp only [Exit.inBlock, Exit.then]
  go_ret
  refine ⟨?_, HB3.out⟩
  refine congrArg Ending.returned (congrArg Value.string ?_)
  rw [show (⟨#[32, 60, 45, 32]⟩ : ByteArray) = mkT [32, 60, 45, 32] from rfl, mkT_app, mkT_app, List.append_assoc]
  rfl
/-- A kind as it is written. -/
def kindB (k : Nat) : Lx.B := kindsL.getD k []
theorem kindText_any (k : Nat) (w : World) (hK : KindsT w) : Calls Tryz.prog 66 #[.int .i64 (k : Nat)] w fun e w' => e = .returned (.string (mkT (kindB k))) ∧ w = w' := by
  by_cases h : k < 4
  · have hc := hK k h
    have h1 : (k : Int) < 4 := by omega
    have h0 : decide ((k : Int) < 0) = false := by simp
    have h2 : 0 ≤ (k : Int) := by omega
    have h3 : decide (4 ≤ (k : Int)) = false := by simpa using h1
    have HE : Hid (mkT (kindB k) = ⟨(kindsL.getD k []).toArray⟩) := Lib.hid rfl
    rw [HE.out]
    clear hK h
    go_enter Tryz.func66, Tryz.ntmps66
    go_wp2_with fail
    try simp only [Exit.inBlock, Exit.then]
    go_ret
    exact ⟨rfl, rfl⟩
  · have h0 : decide ((k : Int) < 0) = false := by simp
    have h3 : decide (4 ≤ (k : Int)) = true := by simp; omega
    have HE : Hid (mkT (kindB k) = ⟨#[]⟩) := Lib.hid (by
      unfold kindB
      rw [List.getD_eq_getElem?_getD, List.getElem?_eq_none]
      · rfl
      · have : kindsL.length = 4 := rfl
        omega)
    rw [HE.out]
    clear hK h
    go_enter Tryz.func66, Tryz.ntmps66
    go_wp2_with fail
    try simp only [Exit.inBlock, Exit.then]
    go_ret
    exact ⟨rfl, rfl⟩
end Go.Proofs.YtgonbmcojjcabaaGreatDoor
