/-
  Texts of one proof, in build order: The laws' player begins a task: three appends and three stores in one region that draws its order. | The laws' player: the script it plays, to be read; what it notes of a pause.
-/
import Derived.Test.YtnjdmijcoadidaaGreatDoorR4
namespace Go.Proofs.YtnjdmijcoadidaaGreatDoor
open Go.RowKit Go.Maps Pp

theorem pickV_any (a : Int) (n : Nat) (w : World) (h0 : 0 < n) (hn : n ≤ 9223372036854775807) :
    Calls Tryz.prog 29 #[.int .i64 a, .int .i64 n] w fun e w' => e = .returned (.int .i64 (pickN a n : Nat)) ∧ w = w' := by
  go_enter Tryz.func29, Tryz.ntmps29
  go_wp2_with fail
  go_ret
  obtain ⟨e, hl⟩ := pick_val a n h0 hn
  exact ⟨by unfold pickN; rw [← e]; rfl, rfl⟩
theorem pickN_lt (a : Int) (n : Nat) (h0 : 0 < n) (hn : n ≤ 9223372036854775807) : pickN a n < n := (pick_val a n h0 hn).2
theorem info_boolR : (Tryz.prog.info? 4).map (fun i => (i.zero, i.size, i.bytes)) = some (some (.bool false), 1, 1) := by kernel_rfl
/-- Three rows, while they grow. -/
structure BegJ (w W : World) (pb : Nat) (F : Nat → Prop) (vf va vp : Value) (nf na np : Nat) (xf xa xp : List Value) : Prop where
  keep : Keeps F w W
  of : W.ownsRow 0 3 1 vf nf xf
  oa : W.ownsRow 0 3 1 va na xa
  op : W.ownsRow 0 4 1 vp np xp
  ff : ∀ b, vf.ownBlock = some b → (F b ∨ w.heap.size ≤ b) ∧ b ≠ pb
  fa : ∀ b, va.ownBlock = some b → (F b ∨ w.heap.size ≤ b) ∧ b ≠ pb
  fp : ∀ b, vp.ownBlock = some b → (F b ∨ w.heap.size ≤ b) ∧ b ≠ pb
  dis : ∀ b, vf.ownBlock = some b → ¬ va.ownBlock = some b
  pc : ∀ j, W.cell? ⟨pb, j, none⟩ = w.cell? ⟨pb, j, none⟩
  pz : ∀ j, W.frozen? ⟨pb, j, none⟩ = false
  pl : pb < w.heap.size
structure Blt (W : World) (b : Nat) (y : Value) (vf va vp : Value) : Prop where
  cell : W.cell? ⟨b, 0, none⟩ = some y
  lt : b < W.heap.size
  nf : ¬ vf.ownBlock = some b
  na : ¬ va.ownBlock = some b
  np : ¬ vp.ownBlock = some b
section
variable {w W W' : World} {pb b : Nat} {F : Nat → Prop} {vf va vp v' y y2 : Value} {nf na np : Nat} {xf xa xp : List Value}
theorem BegJ.new (h : BegJ w W pb F vf va vp nf na np xf xa xp) (hk : Keeps (fun _ => False) W W') : BegJ w W' pb F vf va vp nf na np xf xa xp := by
  have hl : pb < W.heap.size := Nat.lt_of_lt_of_le h.pl h.keep.size
  exact ⟨h.keep.trans (hk.mono fun _ _ e => e.elim), hk.row h.of fun _ _ => id, hk.row h.oa fun _ _ => id, hk.row h.op fun _ _ => id, h.ff, h.fa, h.fp, h.dis, fun j => (hk.cell (p := ⟨pb, j, none⟩) hl id).trans (h.pc j), fun j => (hk.frozen (p := ⟨pb, j, none⟩) hl id).trans (h.pz j), h.pl⟩
theorem Blt.new (h : Blt W b y vf va vp) (hk : Keeps (fun _ => False) W W') : Blt W' b y vf va vp := ⟨hk.cell_of h.cell id, Nat.lt_of_lt_of_le h.lt hk.size, h.nf, h.na, h.np⟩
theorem BegJ.built (h : BegJ w W pb F vf va vp nf na np xf xa xp) (y : Value) (t : TypeId) : Blt (W.alloc (.cells #[y] t)) W.heap.size y vf va vp :=
  ⟨by rw [World.cell?_alloc_at _ _ _ _ rfl]; rfl, by simp, fun e => by have := (World.ownsRow.lt h.of _ e).2; omega, fun e => by have := (World.ownsRow.lt h.oa _ e).2; omega, fun e => by have := (World.ownsRow.lt h.op _ e).2; omega⟩
theorem BegJ.appF (h : BegJ w W pb F vf va vp nf na np xf xa xp) (ho : W'.ownsRow 0 3 1 v' (nf + 1) (xf ++ [y])) (hk : Keeps (fun b => vf.ownBlock = some b) W W') (hn : ∀ k, v'.ownBlock = some k → vf.ownBlock = some k ∨ W.heap.size ≤ k) :
    BegJ w W' pb F v' va vp (nf + 1) (na) (np) (xf ++ [y]) xa xp := by
  have hl : pb < W.heap.size := Nat.lt_of_lt_of_le h.pl h.keep.size
  have hs := h.keep.size
  have hp : ¬ vf.ownBlock = some pb := fun e => (h.ff pb e).2 rfl
  have hnew : ∀ b, v'.ownBlock = some b → (F b ∨ w.heap.size ≤ b) ∧ b ≠ pb := fun b hb => by
    rcases hn b hb with h1 | h1
    · exact h.ff b h1
    · exact ⟨Or.inr (by omega), by omega⟩
  exact ⟨h.keep.trans' hk fun b hb e => (h.ff b e).1.elim id fun h1 => by omega, ho, hk.row h.oa fun b hb e => h.dis b e hb, hk.row h.op fun b hb e => own_apart h.op h.of (by decide) b hb e, hnew, h.fa, h.fp, fun b hb e => by
    rcases hn b hb with h1 | h1
    · exact h.dis b h1 e
    · have := (World.ownsRow.lt h.oa b e).2; omega, fun j => (hk.cell (p := ⟨pb, j, none⟩) hl hp).trans (h.pc j), fun j => (hk.frozen (p := ⟨pb, j, none⟩) hl hp).trans (h.pz j), h.pl⟩
theorem Blt.appF (h : Blt W b y2 vf va vp) (hk : Keeps (fun b => vf.ownBlock = some b) W W') (hn : ∀ k, v'.ownBlock = some k → vf.ownBlock = some k ∨ W.heap.size ≤ k) : Blt W' b y2 v' va vp := by
  have hl := h.lt
  have hx : ¬ v'.ownBlock = some b := fun e => by
    rcases hn b e with h1 | h1
    · exact h.nf h1
    · omega
  exact ⟨hk.cell_of h.cell h.nf, Nat.lt_of_lt_of_le hl hk.size, hx, h.na, h.np⟩
theorem BegJ.appA (h : BegJ w W pb F vf va vp nf na np xf xa xp) (ho : W'.ownsRow 0 3 1 v' (na + 1) (xa ++ [y])) (hk : Keeps (fun b => va.ownBlock = some b) W W') (hn : ∀ k, v'.ownBlock = some k → va.ownBlock = some k ∨ W.heap.size ≤ k) :
    BegJ w W' pb F vf v' vp (nf) (na + 1) (np) xf (xa ++ [y]) xp := by
  have hl : pb < W.heap.size := Nat.lt_of_lt_of_le h.pl h.keep.size
  have hs := h.keep.size
  have hp : ¬ va.ownBlock = some pb := fun e => (h.fa pb e).2 rfl
  have hnew : ∀ b, v'.ownBlock = some b → (F b ∨ w.heap.size ≤ b) ∧ b ≠ pb := fun b hb => by
    rcases hn b hb with h1 | h1
    · exact h.fa b h1
    · exact ⟨Or.inr (by omega), by omega⟩
  exact ⟨h.keep.trans' hk fun b hb e => (h.fa b e).1.elim id fun h1 => by omega, hk.row h.of fun b hb e => h.dis b hb e, ho, hk.row h.op fun b hb e => own_apart h.op h.oa (by decide) b hb e, h.ff, hnew, h.fp, fun b hb e => by
    rcases hn b e with h1 | h1
    · exact h.dis b hb h1
    · have := (World.ownsRow.lt h.of b hb).2; omega, fun j => (hk.cell (p := ⟨pb, j, none⟩) hl hp).trans (h.pc j), fun j => (hk.frozen (p := ⟨pb, j, none⟩) hl hp).trans (h.pz j), h.pl⟩
theorem Blt.appA (h : Blt W b y2 vf va vp) (hk : Keeps (fun b => va.ownBlock = some b) W W') (hn : ∀ k, v'.ownBlock = some k → va.ownBlock = some k ∨ W.heap.size ≤ k) : Blt W' b y2 vf v' vp := by
  have hl := h.lt
  have hx : ¬ v'.ownBlock = some b := fun e => by
    rcases hn b e with h1 | h1
    · exact h.na h1
    · omega
  exact ⟨hk.cell_of h.cell h.na, Nat.lt_of_lt_of_le hl hk.size, h.nf, hx, h.np⟩
theorem BegJ.appP (h : BegJ w W pb F vf va vp nf na np xf xa xp) (ho : W'.ownsRow 0 4 1 v' (np + 1) (xp ++ [y])) (hk : Keeps (fun b => vp.ownBlock = some b) W W') (hn : ∀ k, v'.ownBlock = some k → vp.ownBlock = some k ∨ W.heap.size ≤ k) :
    BegJ w W' pb F vf va v' (nf) (na) (np + 1) xf xa (xp ++ [y]) := by
  have hl : pb < W.heap.size := Nat.lt_of_lt_of_le h.pl h.keep.size
  have hs := h.keep.size
  have hp : ¬ vp.ownBlock = some pb := fun e => (h.fp pb e).2 rfl
  have hnew : ∀ b, v'.ownBlock = some b → (F b ∨ w.heap.size ≤ b) ∧ b ≠ pb := fun b hb => by
    rcases hn b hb with h1 | h1
    · exact h.fp b h1
    · exact ⟨Or.inr (by omega), by omega⟩
  exact ⟨h.keep.trans' hk fun b hb e => (h.fp b e).1.elim id fun h1 => by omega, hk.row h.of fun b hb e => own_apart h.of h.op (by decide) b hb e, hk.row h.oa fun b hb e => own_apart h.oa h.op (by decide) b hb e, ho, h.ff, h.fa, hnew, h.dis, fun j => (hk.cell (p := ⟨pb, j, none⟩) hl hp).trans (h.pc j), fun j => (hk.frozen (p := ⟨pb, j, none⟩) hl hp).trans (h.pz j), h.pl⟩
theorem Blt.appP (h : Blt W b y2 vf va vp) (hk : Keeps (fun b => vp.ownBlock = some b) W W') (hn : ∀ k, v'.ownBlock = some k → vp.ownBlock = some k ∨ W.heap.size ≤ k) : Blt W' b y2 vf va v' := by
  have hl := h.lt
  have hx : ¬ v'.ownBlock = some b := fun e => by
    rcases hn b e with h1 | h1
    · exact h.np h1
    · omega
  exact ⟨hk.cell_of h.cell h.np, Nat.lt_of_lt_of_le hl hk.size, h.nf, h.na, hx⟩
/-- Behind the three stores. -/
theorem BegJ.fin {Sc : List (List Rm.Ask)} {sv : Value} {d : Py} {r : Nat} (h : BegJ w W pb F vf va vp (d.fns.length + 1) (d.ats.length + 1) (d.paused.length + 1) (cellsN d.fns ++ [.int .i64 (r : Int)]) (cellsN d.ats ++ [.int .i64 0]) (d.paused.map .bool ++ [.bool false])) (h0 : PyAt Sc pb sv w F d) (hr : r < Sc.length)
    {k1 k2 k3 : Value} (c1 : W.cell? ⟨pb, 1, none⟩ = some k1) (c2 : W.cell? ⟨pb, 2, none⟩ = some k2) (c3 : W.cell? ⟨pb, 3, none⟩ = some k3) :
    ∃ F', PyAt Sc pb sv (((W.setCell ⟨pb, 1, none⟩ vf).setCell ⟨pb, 2, none⟩ va).setCell ⟨pb, 3, none⟩ vp) F' ⟨d.fns ++ [r], d.ats ++ [0], d.paused ++ [false], d.cnt + 1⟩ ∧ (∀ b, F' b → F b ∨ w.heap.size ≤ b) ∧ Keeps F w (((W.setCell ⟨pb, 1, none⟩ vf).setCell ⟨pb, 2, none⟩ va).setCell ⟨pb, 3, none⟩ vp) := by
  have hk : Keeps (fun b => b = pb) W (((W.setCell ⟨pb, 1, none⟩ vf).setCell ⟨pb, 2, none⟩ va).setCell ⟨pb, 3, none⟩ vp) := (((Keeps.refl (fun b => b = pb) W).setCell (p := ⟨pb, 1, none⟩) (Or.inl rfl) _).setCell (p := ⟨pb, 2, none⟩) (Or.inl rfl) _).setCell (p := ⟨pb, 3, none⟩) (Or.inl rfl) _
  have o : ∀ {W : World} {i j : Nat} {v : Value}, j ≠ i → (W.setCell ⟨pb, j, none⟩ v).cell? ⟨pb, i, none⟩ = W.cell? ⟨pb, i, none⟩ := fun h => cell_set_other (off_ne h pb)
  have e0 : (((W.setCell ⟨pb, 1, none⟩ vf).setCell ⟨pb, 2, none⟩ va).setCell ⟨pb, 3, none⟩ vp).cell? ⟨pb, 0, none⟩ = some sv := by rw [o (by decide), o (by decide), o (by decide), h.pc 0]; exact h0.c0
  have e1 : (((W.setCell ⟨pb, 1, none⟩ vf).setCell ⟨pb, 2, none⟩ va).setCell ⟨pb, 3, none⟩ vp).cell? ⟨pb, 1, none⟩ = some vf := by rw [o (by decide), o (by decide)]; exact cell_set_same c1
  have e2 : (((W.setCell ⟨pb, 1, none⟩ vf).setCell ⟨pb, 2, none⟩ va).setCell ⟨pb, 3, none⟩ vp).cell? ⟨pb, 2, none⟩ = some va := by rw [o (by decide)]; exact cell_set_same ((o (by decide)).trans c2)
  have e3 : (((W.setCell ⟨pb, 1, none⟩ vf).setCell ⟨pb, 2, none⟩ va).setCell ⟨pb, 3, none⟩ vp).cell? ⟨pb, 3, none⟩ = some vp := cell_set_same ((o (by decide)).trans ((o (by decide)).trans c3))
  have hz : ∀ j, (((W.setCell ⟨pb, 1, none⟩ vf).setCell ⟨pb, 2, none⟩ va).setCell ⟨pb, 3, none⟩ vp).frozen? ⟨pb, j, none⟩ = false := fun j => by rw [World.frozen?_setCell, World.frozen?_setCell, World.frozen?_setCell]; exact h.pz j
  have hsz : (((W.setCell ⟨pb, 1, none⟩ vf).setCell ⟨pb, 2, none⟩ va).setCell ⟨pb, 3, none⟩ vp).heap.size = W.heap.size := by rw [World.size_setCell, World.size_setCell, World.size_setCell]
  generalize ((W.setCell ⟨pb, 1, none⟩ vf).setCell ⟨pb, 2, none⟩ va).setCell ⟨pb, 3, none⟩ vp = W3 at *
  have hs := h.keep.size
  have hF : ∀ b, (F b ∨ w.heap.size ≤ b) → b < W.heap.size → F b ∨ (w.heap.size ≤ b ∧ b < W3.heap.size) := fun b h1 h2 => h1.imp id fun h3 => ⟨h3, by omega⟩
  refine ⟨fun b => F b ∨ (w.heap.size ≤ b ∧ b < W3.heap.size), ⟨e0, ⟨vf, va, vp, e1, e2, e3, ?_, ?_, ?_, fun b hb => ⟨hF b (h.ff b hb).1 (World.ownsRow.lt h.of b hb).2, (h.ff b hb).2⟩, fun b hb => ⟨hF b (h.fa b hb).1 (World.ownsRow.lt h.oa b hb).2, (h.fa b hb).2⟩, fun b hb => ⟨hF b (h.fp b hb).1 (World.ownsRow.lt h.op b hb).2, (h.fp b hb).2⟩, h.dis⟩, hz, Or.inl h0.fp, fun b hb => ?_, ?_, ?_, fun f hf => ?_, fun a ha => ?_⟩, fun b hb => hb.imp id And.left, h.keep.trans' hk fun b _ e => by rw [show b = pb from e]; exact h0.fp⟩
  · have h9 := hk.row h.of fun b hb e => (h.ff b hb).2 e
    rw [List.length_append, show cellsN (d.fns ++ [r]) = cellsN d.fns ++ [.int .i64 (r : Int)] by unfold cellsN; rw [List.map_append]; rfl]
    exact h9
  · have h9 := hk.row h.oa fun b hb e => (h.fa b hb).2 e
    rw [List.length_append, show cellsN (d.ats ++ [0]) = cellsN d.ats ++ [.int .i64 0] by unfold cellsN; rw [List.map_append]; rfl]
    exact h9
  · have h9 := hk.row h.op fun b hb e => (h.fp b hb).2 e
    rw [List.length_append, List.map_append]
    exact h9
  · rcases hb with e | e
    · have := h0.fl b e; omega
    · exact e.2
  · simp [h0.la]
  · simp [h0.lp]
  · rcases List.mem_append.1 hf with h1 | h1
    · exact h0.fn f h1
    · rw [List.mem_singleton.1 h1]; exact hr
  · rcases List.mem_append.1 ha with h1 | h1
    · exact Nat.le_succ_of_le (h0.le a h1)
    · rw [List.mem_singleton.1 h1]; exact Nat.zero_le _
end
theorem late_li {P : Program} {ops : Array Oper} {Q : Exit → Act → World → Prop} {md : Region.Mode} {S : World → Prop} {T : List Nat} {n : Nat} {li li' : Array Bool} {a : Act} {w : World} (h : li = li') (h' : anyLate P md ops Q S T n li' a w) : anyLate P md ops Q S T n li a w := by rw [h]; exact h'
/-- What stands behind all orders is shown once. -/
theorem late_fork {P : Program} {ops : Array Oper} {Q : Exit → Act → World → Prop} {md : Region.Mode} {S : World → Prop} {T : List Nat} {n : Nat} {li : Array Bool} {a : Act} {w : World} (A : Nat → Nat → Nat → Option Addr → Nat → Option Addr → Nat → Option Addr → Nat → Act) (hyp : World → Option Addr → Nat → Option Addr → Nat → Option Addr → Nat → Prop) (n' : Nat) (li' : Array Bool)
    (h1 : ∀ W b14 b20 b26 af kf aa ka ap kp, Hid (hyp W af kf aa ka ap kp) → anyLate P md ops Q S T n' li' (A b14 b20 b26 af kf aa ka ap kp) W)
    (h2 : Hid (∀ W b14 b20 b26 af kf aa ka ap kp, Hid (hyp W af kf aa ka ap kp) → anyLate P md ops Q S T n' li' (A b14 b20 b26 af kf aa ka ap kp) W) → anyLate P md ops Q S T n li a w) : anyLate P md ops Q S T n li a w := h2 (Lib.hid h1)
set_option maxRecDepth 100000 in
set_option maxHeartbeats 25600000 in
theorem pyBegin_any {Sc : List (List Rm.Ask)} {pb : Nat} {so : Option Addr} {scap : Nat} {w : World} {F : Nat → Prop} {d : Py} (h : PyAt Sc pb (.slice so Sc.length scap) w F d) (hs0 : 0 < Sc.length) (hs1 : Sc.length ≤ 1000) (fn : Int) (va : Value) (args : List Int) (hn : d.fns.length ≤ 100000) :
    Calls Tryz.prog 214 #[.pointer (some ⟨pb, 0, none⟩), .int .i64 fn, va] w fun e w' => e = .returned (.tuple #[]) ∧ ∃ F', PyAt Sc pb (.slice so Sc.length scap) w' F' (pyBegins Sc d fn args) ∧ (∀ b, F' b → F b ∨ w.heap.size ≤ b) ∧ Keeps F w w' := by
  obtain ⟨vf, va0, vp, c1, c2, c3, o1, o2, o3, f1, f2, f3, hd⟩ := id h.ex
  have c0 := h.c0
  have hkd : Keeps (fun _ => False) w w.drew := (Keeps.refl _ w).drew
  have hJ0 : BegJ w w pb F vf va0 vp d.fns.length d.ats.length d.paused.length (cellsN d.fns) (cellsN d.ats) (d.paused.map .bool) := ⟨Keeps.refl _ _, o1, o2, o3, fun b hb => ⟨Or.inl (f1 b hb).1, (f1 b hb).2⟩, fun b hb => ⟨Or.inl (f2 b hb).1, (f2 b hb).2⟩, fun b hb => ⟨Or.inl (f3 b hb).1, (f3 b hb).2⟩, hd, fun _ => rfl, h.z, h.lt⟩
  have J0 := Lib.hid (hJ0.new hkd)
  obtain ⟨r, hr⟩ : ∃ r, r = pickN fn Sc.length := ⟨_, rfl⟩
  have HR : Hid (r < Sc.length) := Lib.hid (by rw [hr]; exact pickN_lt _ _ hs0 (by omega))
  have HP : Hid (∀ W, Calls Tryz.prog 29 #[.int .i64 fn, .int .i64 Sc.length] W fun e w' => e = .returned (.int .i64 (r : Nat)) ∧ W = w') := Lib.hid fun W => by rw [hr]; exact pickV_any fn Sc.length W hs0 (by omega)
  have hb : pyBegins Sc d fn args = ⟨d.fns ++ [r], d.ats ++ [0], d.paused ++ [false], d.cnt + 1⟩ := by unfold pyBegins; rw [hr]
  rw [hb]
  have H0 := Lib.hid h
  have HLF : Hid (d.fns.length ≤ 1000000 ∧ d.ats.length ≤ 1000000 ∧ d.paused.length ≤ 1000000) := Lib.hid (by have := h.la; have := h.lp; omega)
  have HSI : Hid (∀ W, BegJ w W pb F vf va0 vp d.fns.length d.ats.length d.paused.length (cellsN d.fns) (cellsN d.ats) (d.paused.map .bool) → True) := Lib.hid fun _ _ => trivial
  have HS : Hid (∀ {W : World} {vf' va' vp' : Value} {nf na np : Nat} {xf xa xp : List Value}, BegJ w W pb F vf' va' vp' nf na np xf xa xp → W.cell? ⟨pb, 0, none⟩ = some (.slice so Sc.length scap) ∧ W.cell? ⟨pb, 1, none⟩ = some vf ∧ W.cell? ⟨pb, 2, none⟩ = some va0 ∧ W.cell? ⟨pb, 3, none⟩ = some vp) := Lib.hid fun hJ => ⟨(hJ.pc 0).trans c0, (hJ.pc 1).trans c1, (hJ.pc 2).trans c2, (hJ.pc 3).trans c3⟩
  clear h hJ0 hkd hr hb o1 o2 o3 f1 f2 f3 hd c0 c1 c2 c3 hn hs0 hs1 HSI
  go_enter Tryz.func214, Tryz.ntmps214
  go_upto_region 0 with fail
  refine wp_region_late (S := (fun W : World => W.cell? ⟨pb, 0, none⟩ = some (.slice so Sc.length scap) ∧ W.cell? ⟨pb, 1, none⟩ = some vf ∧ W.cell? ⟨pb, 2, none⟩ = some va0 ∧ W.cell? ⟨pb, 3, none⟩ = some vp)) (T := [30, 33, 36]) (by kernel_rfl) ?_
  have hHeld : (fun W : World => W.cell? ⟨pb, 0, none⟩ = some (.slice so Sc.length scap) ∧ W.cell? ⟨pb, 1, none⟩ = some vf ∧ W.cell? ⟨pb, 2, none⟩ = some va0 ∧ W.cell? ⟨pb, 3, none⟩ = some vp) w.drew := HS.out J0.out
  generalize hW0 : w.drew = W0 at *
  clear hW0
  refine late_take0 (i := 0) (oi := { dst := some 6, op := _, type := _, pos := _, after := _, guard := _ }) (v := .pointer (some ⟨pb, 0, none⟩)) rfl (by kernel_rfl) (by kernel_rfl) (by kernel_rfl) (fun _ _ _ h => h) (Or.inl ⟨by rfl, ?_⟩) ?_
  · intro W9 hSW
    (try dsimp only at hSW)
    go_simp
  try simp only [Act.put, List.setIfInBounds_toArray, List.set_cons_zero, List.set_cons_succ]
  refine late_take0 (i := 3) (oi := { dst := some 9, op := _, type := _, pos := _, after := _, guard := _ }) (v := .pointer (some ⟨pb, 0, none⟩)) rfl (by kernel_rfl) (by kernel_rfl) (by kernel_rfl) (fun _ _ _ h => h) (Or.inl ⟨by rfl, ?_⟩) ?_
  · intro W9 hSW
    (try dsimp only at hSW)
    go_simp
  try simp only [Act.put, List.setIfInBounds_toArray, List.set_cons_zero, List.set_cons_succ]
  refine late_take0 (i := 4) (oi := { dst := some 10, op := _, type := _, pos := _, after := _, guard := _ }) (v := .pointer (some ⟨pb, 0, none⟩)) rfl (by kernel_rfl) (by kernel_rfl) (by kernel_rfl) (fun _ _ _ h => h) (Or.inl ⟨by rfl, ?_⟩) ?_
  · intro W9 hSW
    (try dsimp only at hSW)
    go_simp
  try simp only [Act.put, List.setIfInBounds_toArray, List.set_cons_zero, List.set_cons_succ]
  refine late_take0 (i := 5) (oi := { dst := some 11, op := _, type := _, pos := _, after := _, guard := _ }) (v := .pointer (some ⟨pb, 1, none⟩)) rfl (by kernel_rfl) (by kernel_rfl) (by kernel_rfl) (fun _ _ _ h => h) (Or.inl ⟨by rfl, ?_⟩) ?_
  · intro W9 hSW
    (try dsimp only at hSW)
    go_simp
  try simp only [Act.put, List.setIfInBounds_toArray, List.set_cons_zero, List.set_cons_succ]
  refine late_take (i := 6) (oi := { dst := some 12, op := _, type := _, pos := _, after := _, guard := _ }) (v := vf) rfl (by kernel_rfl) (by kernel_rfl) (by kernel_rfl) (by kernel_rfl) (fun _ _ _ h => h) (Or.inl ⟨by rfl, ?_⟩) hHeld ?_
  · intro W9 hSW
    (try dsimp only at hSW)
    go_simp
  try simp only [Act.put, List.setIfInBounds_toArray, List.set_cons_zero, List.set_cons_succ]
  refine late_take0 (i := 7) (oi := { dst := some 13, op := _, type := _, pos := _, after := _, guard := _ }) (v := .int .i64 fn) rfl (by kernel_rfl) (by kernel_rfl) (by kernel_rfl) (fun _ _ _ h => h) (Or.inl ⟨by rfl, ?_⟩) ?_
  · intro W9 hSW
    (try dsimp only at hSW)
    go_simp
  try simp only [Act.put, List.setIfInBounds_toArray, List.set_cons_zero, List.set_cons_succ]
  refine late_take0 (i := 8) (oi := { dst := some 14, op := _, type := _, pos := _, after := _, guard := _ }) (v := .pointer (some ⟨pb, 0, none⟩)) rfl (by kernel_rfl) (by kernel_rfl) (by kernel_rfl) (fun _ _ _ h => h) (Or.inl ⟨by rfl, ?_⟩) ?_
  · intro W9 hSW
    (try dsimp only at hSW)
    go_simp
  try simp only [Act.put, List.setIfInBounds_toArray, List.set_cons_zero, List.set_cons_succ]
  refine late_take0 (i := 9) (oi := { dst := some 15, op := _, type := _, pos := _, after := _, guard := _ }) (v := .pointer (some ⟨pb, 0, none⟩)) rfl (by kernel_rfl) (by kernel_rfl) (by kernel_rfl) (fun _ _ _ h => h) (Or.inl ⟨by rfl, ?_⟩) ?_
  · intro W9 hSW
    (try dsimp only at hSW)
    go_simp
  try simp only [Act.put, List.setIfInBounds_toArray, List.set_cons_zero, List.set_cons_succ]
  refine late_take0 (i := 10) (oi := { dst := some 16, op := _, type := _, pos := _, after := _, guard := _ }) (v := .pointer (some ⟨pb, 0, none⟩)) rfl (by kernel_rfl) (by kernel_rfl) (by kernel_rfl) (fun _ _ _ h => h) (Or.inl ⟨by rfl, ?_⟩) ?_
  · intro W9 hSW
    (try dsimp only at hSW)
    go_simp
  try simp only [Act.put, List.setIfInBounds_toArray, List.set_cons_zero, List.set_cons_succ]
  refine late_take (i := 11) (oi := { dst := some 17, op := _, type := _, pos := _, after := _, guard := _ }) (v := .slice so Sc.length scap) rfl (by kernel_rfl) (by kernel_rfl) (by kernel_rfl) (by kernel_rfl) (fun _ _ _ h => h) (Or.inl ⟨by rfl, ?_⟩) hHeld ?_
  · intro W9 hSW
    (try dsimp only at hSW)
    go_simp
  try simp only [Act.put, List.setIfInBounds_toArray, List.set_cons_zero, List.set_cons_succ]
  refine late_take0 (i := 12) (oi := { dst := some 18, op := _, type := _, pos := _, after := _, guard := _ }) (v := .int .i64 Sc.length) rfl (by kernel_rfl) (by kernel_rfl) (by kernel_rfl) (fun _ _ _ h => h) (Or.inl ⟨by rfl, ?_⟩) ?_
  · intro W9 hSW
    (try dsimp only at hSW)
    go_simp
  try simp only [Act.put, List.setIfInBounds_toArray, List.set_cons_zero, List.set_cons_succ]
  refine late_take0 (i := 16) (oi := { dst := some 22, op := _, type := _, pos := _, after := _, guard := _ }) (v := .pointer (some ⟨pb, 0, none⟩)) rfl (by kernel_rfl) (by kernel_rfl) (by kernel_rfl) (fun _ _ _ h => h) (Or.inl ⟨by rfl, ?_⟩) ?_
  · intro W9 hSW
    (try dsimp only at hSW)
    go_simp
  try simp only [Act.put, List.setIfInBounds_toArray, List.set_cons_zero, List.set_cons_succ]
  refine late_take0 (i := 17) (oi := { dst := some 23, op := _, type := _, pos := _, after := _, guard := _ }) (v := .pointer (some ⟨pb, 0, none⟩)) rfl (by kernel_rfl) (by kernel_rfl) (by kernel_rfl) (fun _ _ _ h => h) (Or.inl ⟨by rfl, ?_⟩) ?_
  · intro W9 hSW
    (try dsimp only at hSW)
    go_simp
  try simp only [Act.put, List.setIfInBounds_toArray, List.set_cons_zero, List.set_cons_succ]
  refine late_take0 (i := 18) (oi := { dst := some 24, op := _, type := _, pos := _, after := _, guard := _ }) (v := .pointer (some ⟨pb, 2, none⟩)) rfl (by kernel_rfl) (by kernel_rfl) (by kernel_rfl) (fun _ _ _ h => h) (Or.inl ⟨by rfl, ?_⟩) ?_
  · intro W9 hSW
    (try dsimp only at hSW)
    go_simp
  try simp only [Act.put, List.setIfInBounds_toArray, List.set_cons_zero, List.set_cons_succ]
  refine late_take (i := 19) (oi := { dst := some 25, op := _, type := _, pos := _, after := _, guard := _ }) (v := va0) rfl (by kernel_rfl) (by kernel_rfl) (by kernel_rfl) (by kernel_rfl) (fun _ _ _ h => h) (Or.inl ⟨by rfl, ?_⟩) hHeld ?_
  · intro W9 hSW
    (try dsimp only at hSW)
    go_simp
  try simp only [Act.put, List.setIfInBounds_toArray, List.set_cons_zero, List.set_cons_succ]
  refine late_take0 (i := 22) (oi := { dst := some 28, op := _, type := _, pos := _, after := _, guard := _ }) (v := .pointer (some ⟨pb, 0, none⟩)) rfl (by kernel_rfl) (by kernel_rfl) (by kernel_rfl) (fun _ _ _ h => h) (Or.inl ⟨by rfl, ?_⟩) ?_
  · intro W9 hSW
    (try dsimp only at hSW)
    go_simp
  try simp only [Act.put, List.setIfInBounds_toArray, List.set_cons_zero, List.set_cons_succ]
  refine late_take0 (i := 23) (oi := { dst := some 29, op := _, type := _, pos := _, after := _, guard := _ }) (v := .pointer (some ⟨pb, 0, none⟩)) rfl (by kernel_rfl) (by kernel_rfl) (by kernel_rfl) (fun _ _ _ h => h) (Or.inl ⟨by rfl, ?_⟩) ?_
  · intro W9 hSW
    (try dsimp only at hSW)
    go_simp
  try simp only [Act.put, List.setIfInBounds_toArray, List.set_cons_zero, List.set_cons_succ]
  refine late_take0 (i := 24) (oi := { dst := some 30, op := _, type := _, pos := _, after := _, guard := _ }) (v := .pointer (some ⟨pb, 3, none⟩)) rfl (by kernel_rfl) (by kernel_rfl) (by kernel_rfl) (fun _ _ _ h => h) (Or.inl ⟨by rfl, ?_⟩) ?_
  · intro W9 hSW
    (try dsimp only at hSW)
    go_simp
  try simp only [Act.put, List.setIfInBounds_toArray, List.set_cons_zero, List.set_cons_succ]
  refine late_take (i := 25) (oi := { dst := some 31, op := _, type := _, pos := _, after := _, guard := _ }) (v := vp) rfl (by kernel_rfl) (by kernel_rfl) (by kernel_rfl) (by kernel_rfl) (fun _ _ _ h => h) (Or.inl ⟨by rfl, ?_⟩) hHeld ?_
  · intro W9 hSW
    (try dsimp only at hSW)
    go_simp
  try simp only [Act.put, List.setIfInBounds_toArray, List.set_cons_zero, List.set_cons_succ]
  refine late_take0 (i := 1) (oi := { dst := some 7, op := _, type := _, pos := _, after := _, guard := _ }) (v := .pointer (some ⟨pb, 0, none⟩)) rfl (by kernel_rfl) (by kernel_rfl) (by kernel_rfl) (fun _ _ _ h => h) (Or.inl ⟨by rfl, ?_⟩) ?_
  · intro W9 hSW
    (try dsimp only at hSW)
    go_simp
  try simp only [Act.put, List.setIfInBounds_toArray, List.set_cons_zero, List.set_cons_succ]
  refine late_take0 (i := 2) (oi := { dst := some 8, op := _, type := _, pos := _, after := _, guard := _ }) (v := .pointer (some ⟨pb, 0, none⟩)) rfl (by kernel_rfl) (by kernel_rfl) (by kernel_rfl) (fun _ _ _ h => h) (Or.inl ⟨by rfl, ?_⟩) ?_
  · intro W9 hSW
    (try dsimp only at hSW)
    go_simp
  try simp only [Act.put, List.setIfInBounds_toArray, List.set_cons_zero, List.set_cons_succ]
  refine late_fork (fun b14 b20 b26 af kf aa ka ap kp => { tmps := #[.pointer (some ⟨pb, 0, none⟩), .int .i64 fn, va, undef, undef, undef, .pointer (some ⟨pb, 0, none⟩), .pointer (some ⟨pb, 0, none⟩), .pointer (some ⟨pb, 0, none⟩), .pointer (some ⟨pb, 0, none⟩), .pointer (some ⟨pb, 0, none⟩), .pointer (some ⟨pb, 1, none⟩), vf, .int .i64 fn, .pointer (some ⟨pb, 0, none⟩), .pointer (some ⟨pb, 0, none⟩), .pointer (some ⟨pb, 0, none⟩), .slice so Sc.length scap, .int .i64 Sc.length, .int .i64 (r : Nat), .slice (some ⟨b14, 0, none⟩) 1 1, .slice af (d.fns.length + 1) kf, .pointer (some ⟨pb, 0, none⟩), .pointer (some ⟨pb, 0, none⟩), .pointer (some ⟨pb, 2, none⟩), va0, .slice (some ⟨b20, 0, none⟩) 1 1, .slice aa (d.ats.length + 1) ka, .pointer (some ⟨pb, 0, none⟩), .pointer (some ⟨pb, 0, none⟩), .pointer (some ⟨pb, 3, none⟩), vp, .slice (some ⟨b26, 0, none⟩) 1 1, .slice ap (d.paused.length + 1) kp, undef, undef, undef, undef, undef, undef], defers := [] }) (fun W af kf aa ka ap kp => BegJ w W pb F (.slice af (d.fns.length + 1) kf) (.slice aa (d.ats.length + 1) ka) (.slice ap (d.paused.length + 1) kp) (d.fns.length + 1) (d.ats.length + 1) (d.paused.length + 1) (cellsN d.fns ++ [.int .i64 (r : Int)]) (cellsN d.ats ++ [.int .i64 0]) (d.paused.map .bool ++ [.bool false])) 9 #[true, true, true, true, true, true, true, true, true, true, true, true, true, true, true, true, true, true, true, true, true, true, true, true, true, true, true, true, false, false, false, false, false, false, false, false, false] ?_ (fun HTAIL => ?_)
  · intro W b14 b20 b26 af kf aa ka ap kp JW
    have hHeld := HS.out JW.out
    have k1 : W.cell? ⟨pb, 1, none⟩ = some vf := hHeld.2.1
    have k2 : W.cell? ⟨pb, 2, none⟩ = some va0 := hHeld.2.2.1
    have k3 : W.cell? ⟨pb, 3, none⟩ = some vp := hHeld.2.2.2
    have z1 := JW.out.pz 1
    have z2 := JW.out.pz 2
    have z3 := JW.out.pz 3
    have k2' : (W.setCell ⟨pb, 1, none⟩ (.slice af (d.fns.length + 1) kf)).cell? ⟨pb, 2, none⟩ = some va0 := by rw [cell_set_other (off_ne (by decide) _)]; exact k2
    have k3' : ((W.setCell ⟨pb, 1, none⟩ (.slice af (d.fns.length + 1) kf)).setCell ⟨pb, 2, none⟩ (.slice aa (d.ats.length + 1) ka)).cell? ⟨pb, 3, none⟩ = some vp := by rw [cell_set_other (off_ne (by decide) _), cell_set_other (off_ne (by decide) _)]; exact k3
    have HFIN := Lib.hid (JW.out.fin H0.out HR.out k1 k2 k3)
    refine late_take0 (i := 28) (oi := { dst := some 34, op := _, type := _, pos := _, after := _, guard := _ }) (v := .pointer (some ⟨pb, 0, none⟩)) rfl (by kernel_rfl) (by kernel_rfl) (by kernel_rfl) (fun _ _ _ h => h) (Or.inl ⟨by rfl, ?_⟩) ?_
    · intro W9 hSW
      (try dsimp only at hSW)
      go_simp
    try simp only [Act.put, List.setIfInBounds_toArray, List.set_cons_zero, List.set_cons_succ]
    refine late_take0 (i := 29) (oi := { dst := some 35, op := _, type := _, pos := _, after := _, guard := _ }) (v := .pointer (some ⟨pb, 1, none⟩)) rfl (by kernel_rfl) (by kernel_rfl) (by kernel_rfl) (fun _ _ _ h => h) (Or.inl ⟨by rfl, ?_⟩) ?_
    · intro W9 hSW
      (try dsimp only at hSW)
      go_simp
    try simp only [Act.put, List.setIfInBounds_toArray, List.set_cons_zero, List.set_cons_succ]
    refine late_ready (rs := [30]) (by kernel_rfl) (by simp) ?_
    refine LateAll.cons (o := { dst := none, op := _, type := _, pos := _, after := _, guard := _ }) rfl (fun K hK => ?_) LateAll.nil
    go_simp
    refine hK.out _ _ (fun h => absurd (show (30 : Nat) ∈ [30, 33, 36] by decide) h) ?_
    clear hK K
    refine late_take0 (i := 31) (oi := { dst := some 36, op := _, type := _, pos := _, after := _, guard := _ }) (v := .pointer (some ⟨pb, 0, none⟩)) rfl (by kernel_rfl) (by kernel_rfl) (by kernel_rfl) (fun _ _ _ h => h) (Or.inl ⟨by rfl, ?_⟩) ?_
    · intro W9 hSW
      (try dsimp only at hSW)
      go_simp
    try simp only [Act.put, List.setIfInBounds_toArray, List.set_cons_zero, List.set_cons_succ]
    refine late_take0 (i := 32) (oi := { dst := some 37, op := _, type := _, pos := _, after := _, guard := _ }) (v := .pointer (some ⟨pb, 2, none⟩)) rfl (by kernel_rfl) (by kernel_rfl) (by kernel_rfl) (fun _ _ _ h => h) (Or.inl ⟨by rfl, ?_⟩) ?_
    · intro W9 hSW
      (try dsimp only at hSW)
      go_simp
    try simp only [Act.put, List.setIfInBounds_toArray, List.set_cons_zero, List.set_cons_succ]
    refine late_ready (rs := [33]) (by kernel_rfl) (by simp) ?_
    refine LateAll.cons (o := { dst := none, op := _, type := _, pos := _, after := _, guard := _ }) rfl (fun K hK => ?_) LateAll.nil
    go_simp
    refine hK.out _ _ (fun h => absurd (show (33 : Nat) ∈ [30, 33, 36] by decide) h) ?_
    clear hK K
    refine late_take0 (i := 34) (oi := { dst := some 38, op := _, type := _, pos := _, after := _, guard := _ }) (v := .pointer (some ⟨pb, 0, none⟩)) rfl (by kernel_rfl) (by kernel_rfl) (by kernel_rfl) (fun _ _ _ h => h) (Or.inl ⟨by rfl, ?_⟩) ?_
    · intro W9 hSW
      (try dsimp only at hSW)
      go_simp
    try simp only [Act.put, List.setIfInBounds_toArray, List.set_cons_zero, List.set_cons_succ]
    refine late_take0 (i := 35) (oi := { dst := some 39, op := _, type := _, pos := _, after := _, guard := _ }) (v := .pointer (some ⟨pb, 3, none⟩)) rfl (by kernel_rfl) (by kernel_rfl) (by kernel_rfl) (fun _ _ _ h => h) (Or.inl ⟨by rfl, ?_⟩) ?_
    · intro W9 hSW
      (try dsimp only at hSW)
      go_simp
    try simp only [Act.put, List.setIfInBounds_toArray, List.set_cons_zero, List.set_cons_succ]
    refine late_ready (rs := [36]) (by kernel_rfl) (by simp) ?_
    refine LateAll.cons (o := { dst := none, op := _, type := _, pos := _, after := _, guard := _ }) rfl (fun K hK => ?_) LateAll.nil
    go_simp
    refine hK.out _ _ (fun h => absurd (show (36 : Nat) ∈ [30, 33, 36] by decide) h) ?_
    clear hK K
    refine late_done (by kernel_rfl) ?_ _
    go_wp2_with fail
    go_end0
    exact ⟨rfl, HFIN.out⟩
  refine late_ready (rs := [13, 20, 26]) (by kernel_rfl) (by simp) ?_
  refine LateAll.cons (o := { dst := some 19, op := _, type := _, pos := _, after := _, guard := _ }) rfl (fun K hK => ?_) (LateAll.cons (o := { dst := some 26, op := _, type := _, pos := _, after := _, guard := _ }) rfl (fun K hK => ?_) (LateAll.cons (o := { dst := some 32, op := _, type := _, pos := _, after := _, guard := _ }) rfl (fun K hK => ?_) LateAll.nil))
  · go_simp
    refine (HP.out _).mono ?_
    rintro e W9 ⟨rfl, rfl⟩
    refine hK.out _ _ (fun _ => hHeld) ?_
    clear hK K
    refine late_ready (rs := [14, 20, 26]) (by kernel_rfl) (by simp) ?_
    refine LateAll.cons (o := { dst := some 20, op := _, type := _, pos := _, after := _, guard := _ }) rfl (fun K hK => ?_) (LateAll.cons (o := { dst := some 26, op := _, type := _, pos := _, after := _, guard := _ }) rfl (fun K hK => ?_) (LateAll.cons (o := { dst := some 32, op := _, type := _, pos := _, after := _, guard := _ }) rfl (fun K hK => ?_) LateAll.nil))
    · go_simp
      have hk9 : Keeps (fun _ => False) W0 (W0.alloc (.cells #[(.int .i64 (r : Int))] 3)) := (Keeps.refl (fun _ => False) W0).alloc _
      have JW1 := Lib.hid (J0.out.new hk9)
      have B14W1 := Lib.hid (J0.out.built (.int .i64 (r : Int)) 3)
      clear hk9
      generalize hqW1 : W0.alloc (.cells #[(.int .i64 (r : Int))] 3) = W1 at *
      generalize hbW1 : W0.heap.size = b14 at *
      clear hqW1 hbW1
      have hHeld2 := HS.out JW1.out
      refine hK.out _ _ (fun _ => hHeld2) ?_
      clear hK K hHeld
      have hHeld := hHeld2
      clear hHeld2
      refine late_ready (rs := [15, 20, 26]) (by kernel_rfl) (by simp) ?_
      refine LateAll.cons (o := { dst := some 21, op := _, type := _, pos := _, after := _, guard := _ }) rfl (fun K hK => ?_) (LateAll.cons (o := { dst := some 26, op := _, type := _, pos := _, after := _, guard := _ }) rfl (fun K hK => ?_) (LateAll.cons (o := { dst := some 32, op := _, type := _, pos := _, after := _, guard := _ }) rfl (fun K hK => ?_) LateAll.nil))
      · refine step_append1 rfl (.tmp 12) (.tmp 20) 26 3 rfl Tryz.underlying26 info_int rfl (by decide) JW1.out.of HLF.out.1 B14W1.out.cell rfl (by simp [Act.eval]) (by simp [Act.eval]) ?_
        intro af kf W2 ho9 hk9 hn9
        have JW2 := Lib.hid (JW1.out.appF ho9 hk9 hn9)
        clear ho9 hk9 hn9
        have hHeld2 := HS.out JW2.out
        try simp only [Act.put, List.setIfInBounds_toArray, List.set_cons_zero, List.set_cons_succ]
        refine hK.out _ _ (fun _ => hHeld2) ?_
        clear hK K hHeld
        have hHeld := hHeld2
        clear hHeld2
        refine late_ready (rs := [20, 26]) (by kernel_rfl) (by simp) ?_
        refine LateAll.cons (o := { dst := some 26, op := _, type := _, pos := _, after := _, guard := _ }) rfl (fun K hK => ?_) (LateAll.cons (o := { dst := some 32, op := _, type := _, pos := _, after := _, guard := _ }) rfl (fun K hK => ?_) LateAll.nil)
        · go_simp
          have hk9 : Keeps (fun _ => False) W2 (W2.alloc (.cells #[(.int .i64 0)] 3)) := (Keeps.refl (fun _ => False) W2).alloc _
          have JW3 := Lib.hid (JW2.out.new hk9)
          have B20W3 := Lib.hid (JW2.out.built (.int .i64 0) 3)
          clear hk9
          generalize hqW3 : W2.alloc (.cells #[(.int .i64 0)] 3) = W3 at *
          generalize hbW3 : W2.heap.size = b20 at *
          clear hqW3 hbW3
          have hHeld2 := HS.out JW3.out
          refine hK.out _ _ (fun _ => hHeld2) ?_
          clear hK K hHeld
          have hHeld := hHeld2
          clear hHeld2
          refine late_ready (rs := [21, 26]) (by kernel_rfl) (by simp) ?_
          refine LateAll.cons (o := { dst := some 27, op := _, type := _, pos := _, after := _, guard := _ }) rfl (fun K hK => ?_) (LateAll.cons (o := { dst := some 32, op := _, type := _, pos := _, after := _, guard := _ }) rfl (fun K hK => ?_) LateAll.nil)
          · refine step_append1 rfl (.tmp 25) (.tmp 26) 26 3 rfl Tryz.underlying26 info_int rfl (by decide) JW3.out.oa HLF.out.2.1 B20W3.out.cell rfl (by simp [Act.eval]) (by simp [Act.eval]) ?_
            intro aa ka W4 ho9 hk9 hn9
            have JW4 := Lib.hid (JW3.out.appA ho9 hk9 hn9)
            clear ho9 hk9 hn9
            have hHeld2 := HS.out JW4.out
            try simp only [Act.put, List.setIfInBounds_toArray, List.set_cons_zero, List.set_cons_succ]
            refine hK.out _ _ (fun _ => hHeld2) ?_
            clear hK K hHeld
            have hHeld := hHeld2
            clear hHeld2
            refine late_ready (rs := [26]) (by kernel_rfl) (by simp) ?_
            refine LateAll.cons (o := { dst := some 32, op := _, type := _, pos := _, after := _, guard := _ }) rfl (fun K hK => ?_) LateAll.nil
            go_simp
            have hk9 : Keeps (fun _ => False) W4 (W4.alloc (.cells #[(.bool false)] 4)) := (Keeps.refl (fun _ => False) W4).alloc _
            have JW5 := Lib.hid (JW4.out.new hk9)
            have B26W5 := Lib.hid (JW4.out.built (.bool false) 4)
            clear hk9
            generalize hqW5 : W4.alloc (.cells #[(.bool false)] 4) = W5 at *
            generalize hbW5 : W4.heap.size = b26 at *
            clear hqW5 hbW5
            have hHeld2 := HS.out JW5.out
            refine hK.out _ _ (fun _ => hHeld2) ?_
            clear hK K hHeld
            have hHeld := hHeld2
            clear hHeld2
            refine late_ready (rs := [27]) (by kernel_rfl) (by simp) ?_
            refine LateAll.cons (o := { dst := some 33, op := _, type := _, pos := _, after := _, guard := _ }) rfl (fun K hK => ?_) LateAll.nil
            refine step_append1 rfl (.tmp 31) (.tmp 32) 27 4 rfl Tryz.underlying27 info_boolR rfl (by decide) JW5.out.op HLF.out.2.2 B26W5.out.cell rfl (by simp [Act.eval]) (by simp [Act.eval]) ?_
            intro ap kp W6 ho9 hk9 hn9
            have JW6 := Lib.hid (JW5.out.appP ho9 hk9 hn9)
            clear ho9 hk9 hn9
            have hHeld2 := HS.out JW6.out
            try simp only [Act.put, List.setIfInBounds_toArray, List.set_cons_zero, List.set_cons_succ]
            refine hK.out _ _ (fun _ => hHeld2) ?_
            clear hK K hHeld
            have hHeld := hHeld2
            clear hHeld2
            exact late_li (by kernel_rfl) (HTAIL.out W6 _ _ _ _ _ _ _ _ _ JW6)
          · go_simp
            have hk9 : Keeps (fun _ => False) W3 (W3.alloc (.cells #[(.bool false)] 4)) := (Keeps.refl (fun _ => False) W3).alloc _
            have JW7 := Lib.hid (JW3.out.new hk9)
            have B26W7 := Lib.hid (JW3.out.built (.bool false) 4)
            have B20W7 := Lib.hid (B20W3.out.new hk9)
            clear hk9
            generalize hqW7 : W3.alloc (.cells #[(.bool false)] 4) = W7 at *
            generalize hbW7 : W3.heap.size = b26 at *
            clear hqW7 hbW7
            have hHeld2 := HS.out JW7.out
            refine hK.out _ _ (fun _ => hHeld2) ?_
            clear hK K hHeld
            have hHeld := hHeld2
            clear hHeld2
            refine late_ready (rs := [21]) (by kernel_rfl) (by simp) ?_
            refine LateAll.cons (o := { dst := some 27, op := _, type := _, pos := _, after := _, guard := _ }) rfl (fun K hK => ?_) LateAll.nil
            refine step_append1 rfl (.tmp 25) (.tmp 26) 26 3 rfl Tryz.underlying26 info_int rfl (by decide) JW7.out.oa HLF.out.2.1 B20W7.out.cell rfl (by simp [Act.eval]) (by simp [Act.eval]) ?_
            intro aa ka W8 ho9 hk9 hn9
            have JW8 := Lib.hid (JW7.out.appA ho9 hk9 hn9)
            have B26W8 := Lib.hid (B26W7.out.appA hk9 hn9)
            clear ho9 hk9 hn9
            have hHeld2 := HS.out JW8.out
            try simp only [Act.put, List.setIfInBounds_toArray, List.set_cons_zero, List.set_cons_succ]
            refine hK.out _ _ (fun _ => hHeld2) ?_
            clear hK K hHeld
            have hHeld := hHeld2
            clear hHeld2
            refine late_ready (rs := [27]) (by kernel_rfl) (by simp) ?_
            refine LateAll.cons (o := { dst := some 33, op := _, type := _, pos := _, after := _, guard := _ }) rfl (fun K hK => ?_) LateAll.nil
            refine step_append1 rfl (.tmp 31) (.tmp 32) 27 4 rfl Tryz.underlying27 info_boolR rfl (by decide) JW8.out.op HLF.out.2.2 B26W8.out.cell rfl (by simp [Act.eval]) (by simp [Act.eval]) ?_
            intro ap kp W9 ho9 hk9 hn9
            have JW9 := Lib.hid (JW8.out.appP ho9 hk9 hn9)
            clear ho9 hk9 hn9
            have hHeld2 := HS.out JW9.out
            try simp only [Act.put, List.setIfInBounds_toArray, List.set_cons_zero, List.set_cons_succ]
            refine hK.out _ _ (fun _ => hHeld2) ?_
            clear hK K hHeld
            have hHeld := hHeld2
            clear hHeld2
            exact late_li (by kernel_rfl) (HTAIL.out W9 _ _ _ _ _ _ _ _ _ JW9)
        · go_simp
          have hk9 : Keeps (fun _ => False) W2 (W2.alloc (.cells #[(.bool false)] 4)) := (Keeps.refl (fun _ => False) W2).alloc _
          have JW10 := Lib.hid (JW2.out.new hk9)
          have B26W10 := Lib.hid (JW2.out.built (.bool false) 4)
          clear hk9
          generalize hqW10 : W2.alloc (.cells #[(.bool false)] 4) = W10 at *
          generalize hbW10 : W2.heap.size = b26 at *
          clear hqW10 hbW10
          have hHeld2 := HS.out JW10.out
          refine hK.out _ _ (fun _ => hHeld2) ?_
          clear hK K hHeld
          have hHeld := hHeld2
          clear hHeld2
          refine late_ready (rs := [20]) (by kernel_rfl) (by simp) ?_
          refine LateAll.cons (o := { dst := some 26, op := _, type := _, pos := _, after := _, guard := _ }) rfl (fun K hK => ?_) LateAll.nil
          go_simp
          have hk9 : Keeps (fun _ => False) W10 (W10.alloc (.cells #[(.int .i64 0)] 3)) := (Keeps.refl (fun _ => False) W10).alloc _
          have JW11 := Lib.hid (JW10.out.new hk9)
          have B20W11 := Lib.hid (JW10.out.built (.int .i64 0) 3)
          have B26W11 := Lib.hid (B26W10.out.new hk9)
          clear hk9
          generalize hqW11 : W10.alloc (.cells #[(.int .i64 0)] 3) = W11 at *
          generalize hbW11 : W10.heap.size = b20 at *
          clear hqW11 hbW11
          have hHeld2 := HS.out JW11.out
          refine hK.out _ _ (fun _ => hHeld2) ?_
          clear hK K hHeld
          have hHeld := hHeld2
          clear hHeld2
          refine late_ready (rs := [21]) (by kernel_rfl) (by simp) ?_
          refine LateAll.cons (o := { dst := some 27, op := _, type := _, pos := _, after := _, guard := _ }) rfl (fun K hK => ?_) LateAll.nil
          refine step_append1 rfl (.tmp 25) (.tmp 26) 26 3 rfl Tryz.underlying26 info_int rfl (by decide) JW11.out.oa HLF.out.2.1 B20W11.out.cell rfl (by simp [Act.eval]) (by simp [Act.eval]) ?_
          intro aa ka W12 ho9 hk9 hn9
          have JW12 := Lib.hid (JW11.out.appA ho9 hk9 hn9)
          have B26W12 := Lib.hid (B26W11.out.appA hk9 hn9)
          clear ho9 hk9 hn9
          have hHeld2 := HS.out JW12.out
          try simp only [Act.put, List.setIfInBounds_toArray, List.set_cons_zero, List.set_cons_succ]
          refine hK.out _ _ (fun _ => hHeld2) ?_
          clear hK K hHeld
          have hHeld := hHeld2
          clear hHeld2
          refine late_ready (rs := [27]) (by kernel_rfl) (by simp) ?_
          refine LateAll.cons (o := { dst := some 33, op := _, type := _, pos := _, after := _, guard := _ }) rfl (fun K hK => ?_) LateAll.nil
          refine step_append1 rfl (.tmp 31) (.tmp 32) 27 4 rfl Tryz.underlying27 info_boolR rfl (by decide) JW12.out.op HLF.out.2.2 B26W12.out.cell rfl (by simp [Act.eval]) (by simp [Act.eval]) ?_
          intro ap kp W13 ho9 hk9 hn9
          have JW13 := Lib.hid (JW12.out.appP ho9 hk9 hn9)
          clear ho9 hk9 hn9
          have hHeld2 := HS.out JW13.out
          try simp only [Act.put, List.setIfInBounds_toArray, List.set_cons_zero, List.set_cons_succ]
          refine hK.out _ _ (fun _ => hHeld2) ?_
          clear hK K hHeld
          have hHeld := hHeld2
          clear hHeld2
          exact late_li (by kernel_rfl) (HTAIL.out W13 _ _ _ _ _ _ _ _ _ JW13)
      · go_simp
        have hk9 : Keeps (fun _ => False) W1 (W1.alloc (.cells #[(.int .i64 0)] 3)) := (Keeps.refl (fun _ => False) W1).alloc _
        have JW14 := Lib.hid (JW1.out.new hk9)
        have B20W14 := Lib.hid (JW1.out.built (.int .i64 0) 3)
        have B14W14 := Lib.hid (B14W1.out.new hk9)
        clear hk9
        generalize hqW14 : W1.alloc (.cells #[(.int .i64 0)] 3) = W14 at *
        generalize hbW14 : W1.heap.size = b20 at *
        clear hqW14 hbW14
        have hHeld2 := HS.out JW14.out
        refine hK.out _ _ (fun _ => hHeld2) ?_
        clear hK K hHeld
        have hHeld := hHeld2
        clear hHeld2
        refine late_ready (rs := [15, 26]) (by kernel_rfl) (by simp) ?_
        refine LateAll.cons (o := { dst := some 21, op := _, type := _, pos := _, after := _, guard := _ }) rfl (fun K hK => ?_) (LateAll.cons (o := { dst := some 32, op := _, type := _, pos := _, after := _, guard := _ }) rfl (fun K hK => ?_) LateAll.nil)
        · refine step_append1 rfl (.tmp 12) (.tmp 20) 26 3 rfl Tryz.underlying26 info_int rfl (by decide) JW14.out.of HLF.out.1 B14W14.out.cell rfl (by simp [Act.eval]) (by simp [Act.eval]) ?_
          intro af kf W15 ho9 hk9 hn9
          have JW15 := Lib.hid (JW14.out.appF ho9 hk9 hn9)
          have B20W15 := Lib.hid (B20W14.out.appF hk9 hn9)
          clear ho9 hk9 hn9
          have hHeld2 := HS.out JW15.out
          try simp only [Act.put, List.setIfInBounds_toArray, List.set_cons_zero, List.set_cons_succ]
          refine hK.out _ _ (fun _ => hHeld2) ?_
          clear hK K hHeld
          have hHeld := hHeld2
          clear hHeld2
          refine late_ready (rs := [21, 26]) (by kernel_rfl) (by simp) ?_
          refine LateAll.cons (o := { dst := some 27, op := _, type := _, pos := _, after := _, guard := _ }) rfl (fun K hK => ?_) (LateAll.cons (o := { dst := some 32, op := _, type := _, pos := _, after := _, guard := _ }) rfl (fun K hK => ?_) LateAll.nil)
          · refine step_append1 rfl (.tmp 25) (.tmp 26) 26 3 rfl Tryz.underlying26 info_int rfl (by decide) JW15.out.oa HLF.out.2.1 B20W15.out.cell rfl (by simp [Act.eval]) (by simp [Act.eval]) ?_
            intro aa ka W16 ho9 hk9 hn9
            have JW16 := Lib.hid (JW15.out.appA ho9 hk9 hn9)
            clear ho9 hk9 hn9
            have hHeld2 := HS.out JW16.out
            try simp only [Act.put, List.setIfInBounds_toArray, List.set_cons_zero, List.set_cons_succ]
            refine hK.out _ _ (fun _ => hHeld2) ?_
            clear hK K hHeld
            have hHeld := hHeld2
            clear hHeld2
            refine late_ready (rs := [26]) (by kernel_rfl) (by simp) ?_
            refine LateAll.cons (o := { dst := some 32, op := _, type := _, pos := _, after := _, guard := _ }) rfl (fun K hK => ?_) LateAll.nil
            go_simp
            have hk9 : Keeps (fun _ => False) W16 (W16.alloc (.cells #[(.bool false)] 4)) := (Keeps.refl (fun _ => False) W16).alloc _
            have JW17 := Lib.hid (JW16.out.new hk9)
            have B26W17 := Lib.hid (JW16.out.built (.bool false) 4)
            clear hk9
            generalize hqW17 : W16.alloc (.cells #[(.bool false)] 4) = W17 at *
            generalize hbW17 : W16.heap.size = b26 at *
            clear hqW17 hbW17
            have hHeld2 := HS.out JW17.out
            refine hK.out _ _ (fun _ => hHeld2) ?_
            clear hK K hHeld
            have hHeld := hHeld2
            clear hHeld2
            refine late_ready (rs := [27]) (by kernel_rfl) (by simp) ?_
            refine LateAll.cons (o := { dst := some 33, op := _, type := _, pos := _, after := _, guard := _ }) rfl (fun K hK => ?_) LateAll.nil
            refine step_append1 rfl (.tmp 31) (.tmp 32) 27 4 rfl Tryz.underlying27 info_boolR rfl (by decide) JW17.out.op HLF.out.2.2 B26W17.out.cell rfl (by simp [Act.eval]) (by simp [Act.eval]) ?_
            intro ap kp W18 ho9 hk9 hn9
            have JW18 := Lib.hid (JW17.out.appP ho9 hk9 hn9)
            clear ho9 hk9 hn9
            have hHeld2 := HS.out JW18.out
            try simp only [Act.put, List.setIfInBounds_toArray, List.set_cons_zero, List.set_cons_succ]
            refine hK.out _ _ (fun _ => hHeld2) ?_
            clear hK K hHeld
            have hHeld := hHeld2
            clear hHeld2
            exact late_li (by kernel_rfl) (HTAIL.out W18 _ _ _ _ _ _ _ _ _ JW18)
          · go_simp
            have hk9 : Keeps (fun _ => False) W15 (W15.alloc (.cells #[(.bool false)] 4)) := (Keeps.refl (fun _ => False) W15).alloc _
            have JW19 := Lib.hid (JW15.out.new hk9)
            have B26W19 := Lib.hid (JW15.out.built (.bool false) 4)
            have B20W19 := Lib.hid (B20W15.out.new hk9)
            clear hk9
            generalize hqW19 : W15.alloc (.cells #[(.bool false)] 4) = W19 at *
            generalize hbW19 : W15.heap.size = b26 at *
            clear hqW19 hbW19
            have hHeld2 := HS.out JW19.out
            refine hK.out _ _ (fun _ => hHeld2) ?_
            clear hK K hHeld
            have hHeld := hHeld2
            clear hHeld2
            refine late_ready (rs := [21]) (by kernel_rfl) (by simp) ?_
            refine LateAll.cons (o := { dst := some 27, op := _, type := _, pos := _, after := _, guard := _ }) rfl (fun K hK => ?_) LateAll.nil
            refine step_append1 rfl (.tmp 25) (.tmp 26) 26 3 rfl Tryz.underlying26 info_int rfl (by decide) JW19.out.oa HLF.out.2.1 B20W19.out.cell rfl (by simp [Act.eval]) (by simp [Act.eval]) ?_
            intro aa ka W20 ho9 hk9 hn9
            have JW20 := Lib.hid (JW19.out.appA ho9 hk9 hn9)
            have B26W20 := Lib.hid (B26W19.out.appA hk9 hn9)
            clear ho9 hk9 hn9
            have hHeld2 := HS.out JW20.out
            try simp only [Act.put, List.setIfInBounds_toArray, List.set_cons_zero, List.set_cons_succ]
            refine hK.out _ _ (fun _ => hHeld2) ?_
            clear hK K hHeld
            have hHeld := hHeld2
            clear hHeld2
            refine late_ready (rs := [27]) (by kernel_rfl) (by simp) ?_
            refine LateAll.cons (o := { dst := some 33, op := _, type := _, pos := _, after := _, guard := _ }) rfl (fun K hK => ?_) LateAll.nil
            refine step_append1 rfl (.tmp 31) (.tmp 32) 27 4 rfl Tryz.underlying27 info_boolR rfl (by decide) JW20.out.op HLF.out.2.2 B26W20.out.cell rfl (by simp [Act.eval]) (by simp [Act.eval]) ?_
            intro ap kp W21 ho9 hk9 hn9
            have JW21 := Lib.hid (JW20.out.appP ho9 hk9 hn9)
            clear ho9 hk9 hn9
            have hHeld2 := HS.out JW21.out
            try simp only [Act.put, List.setIfInBounds_toArray, List.set_cons_zero, List.set_cons_succ]
            refine hK.out _ _ (fun _ => hHeld2) ?_
            clear hK K hHeld
            have hHeld := hHeld2
            clear hHeld2
            exact late_li (by kernel_rfl) (HTAIL.out W21 _ _ _ _ _ _ _ _ _ JW21)
        · go_simp
          have hk9 : Keeps (fun _ => False) W14 (W14.alloc (.cells #[(.bool false)] 4)) := (Keeps.refl (fun _ => False) W14).alloc _
          have JW22 := Lib.hid (JW14.out.new hk9)
          have B26W22 := Lib.hid (JW14.out.built (.bool false) 4)
          have B14W22 := Lib.hid (B14W14.out.new hk9)
          have B20W22 := Lib.hid (B20W14.out.new hk9)
          clear hk9
          generalize hqW22 : W14.alloc (.cells #[(.bool false)] 4) = W22 at *
          generalize hbW22 : W14.heap.size = b26 at *
          clear hqW22 hbW22
          have hHeld2 := HS.out JW22.out
          refine hK.out _ _ (fun _ => hHeld2) ?_
          clear hK K hHeld
          have hHeld := hHeld2
          clear hHeld2
          refine late_ready (rs := [15]) (by kernel_rfl) (by simp) ?_
          refine LateAll.cons (o := { dst := some 21, op := _, type := _, pos := _, after := _, guard := _ }) rfl (fun K hK => ?_) LateAll.nil
          refine step_append1 rfl (.tmp 12) (.tmp 20) 26 3 rfl Tryz.underlying26 info_int rfl (by decide) JW22.out.of HLF.out.1 B14W22.out.cell rfl (by simp [Act.eval]) (by simp [Act.eval]) ?_
          intro af kf W23 ho9 hk9 hn9
          have JW23 := Lib.hid (JW22.out.appF ho9 hk9 hn9)
          have B20W23 := Lib.hid (B20W22.out.appF hk9 hn9)
          have B26W23 := Lib.hid (B26W22.out.appF hk9 hn9)
          clear ho9 hk9 hn9
          have hHeld2 := HS.out JW23.out
          try simp only [Act.put, List.setIfInBounds_toArray, List.set_cons_zero, List.set_cons_succ]
          refine hK.out _ _ (fun _ => hHeld2) ?_
          clear hK K hHeld
          have hHeld := hHeld2
          clear hHeld2
          refine late_ready (rs := [21]) (by kernel_rfl) (by simp) ?_
          refine LateAll.cons (o := { dst := some 27, op := _, type := _, pos := _, after := _, guard := _ }) rfl (fun K hK => ?_) LateAll.nil
          refine step_append1 rfl (.tmp 25) (.tmp 26) 26 3 rfl Tryz.underlying26 info_int rfl (by decide) JW23.out.oa HLF.out.2.1 B20W23.out.cell rfl (by simp [Act.eval]) (by simp [Act.eval]) ?_
          intro aa ka W24 ho9 hk9 hn9
          have JW24 := Lib.hid (JW23.out.appA ho9 hk9 hn9)
          have B26W24 := Lib.hid (B26W23.out.appA hk9 hn9)
          clear ho9 hk9 hn9
          have hHeld2 := HS.out JW24.out
          try simp only [Act.put, List.setIfInBounds_toArray, List.set_cons_zero, List.set_cons_succ]
          refine hK.out _ _ (fun _ => hHeld2) ?_
          clear hK K hHeld
          have hHeld := hHeld2
          clear hHeld2
          refine late_ready (rs := [27]) (by kernel_rfl) (by simp) ?_
          refine LateAll.cons (o := { dst := some 33, op := _, type := _, pos := _, after := _, guard := _ }) rfl (fun K hK => ?_) LateAll.nil
          refine step_append1 rfl (.tmp 31) (.tmp 32) 27 4 rfl Tryz.underlying27 info_boolR rfl (by decide) JW24.out.op HLF.out.2.2 B26W24.out.cell rfl (by simp [Act.eval]) (by simp [Act.eval]) ?_
          intro ap kp W25 ho9 hk9 hn9
          have JW25 := Lib.hid (JW24.out.appP ho9 hk9 hn9)
          clear ho9 hk9 hn9
          have hHeld2 := HS.out JW25.out
          try simp only [Act.put, List.setIfInBounds_toArray, List.set_cons_zero, List.set_cons_succ]
          refine hK.out _ _ (fun _ => hHeld2) ?_
          clear hK K hHeld
          have hHeld := hHeld2
          clear hHeld2
          exact late_li (by kernel_rfl) (HTAIL.out W25 _ _ _ _ _ _ _ _ _ JW25)
      · go_simp
        have hk9 : Keeps (fun _ => False) W1 (W1.alloc (.cells #[(.bool false)] 4)) := (Keeps.refl (fun _ => False) W1).alloc _
        have JW26 := Lib.hid (JW1.out.new hk9)
        have B26W26 := Lib.hid (JW1.out.built (.bool false) 4)
        have B14W26 := Lib.hid (B14W1.out.new hk9)
        clear hk9
        generalize hqW26 : W1.alloc (.cells #[(.bool false)] 4) = W26 at *
        generalize hbW26 : W1.heap.size = b26 at *
        clear hqW26 hbW26
        have hHeld2 := HS.out JW26.out
        refine hK.out _ _ (fun _ => hHeld2) ?_
        clear hK K hHeld
        have hHeld := hHeld2
        clear hHeld2
        refine late_ready (rs := [15, 20]) (by kernel_rfl) (by simp) ?_
        refine LateAll.cons (o := { dst := some 21, op := _, type := _, pos := _, after := _, guard := _ }) rfl (fun K hK => ?_) (LateAll.cons (o := { dst := some 26, op := _, type := _, pos := _, after := _, guard := _ }) rfl (fun K hK => ?_) LateAll.nil)
        · refine step_append1 rfl (.tmp 12) (.tmp 20) 26 3 rfl Tryz.underlying26 info_int rfl (by decide) JW26.out.of HLF.out.1 B14W26.out.cell rfl (by simp [Act.eval]) (by simp [Act.eval]) ?_
          intro af kf W27 ho9 hk9 hn9
          have JW27 := Lib.hid (JW26.out.appF ho9 hk9 hn9)
          have B26W27 := Lib.hid (B26W26.out.appF hk9 hn9)
          clear ho9 hk9 hn9
          have hHeld2 := HS.out JW27.out
          try simp only [Act.put, List.setIfInBounds_toArray, List.set_cons_zero, List.set_cons_succ]
          refine hK.out _ _ (fun _ => hHeld2) ?_
          clear hK K hHeld
          have hHeld := hHeld2
          clear hHeld2
          refine late_ready (rs := [20]) (by kernel_rfl) (by simp) ?_
          refine LateAll.cons (o := { dst := some 26, op := _, type := _, pos := _, after := _, guard := _ }) rfl (fun K hK => ?_) LateAll.nil
          go_simp
          have hk9 : Keeps (fun _ => False) W27 (W27.alloc (.cells #[(.int .i64 0)] 3)) := (Keeps.refl (fun _ => False) W27).alloc _
          have JW28 := Lib.hid (JW27.out.new hk9)
          have B20W28 := Lib.hid (JW27.out.built (.int .i64 0) 3)
          have B26W28 := Lib.hid (B26W27.out.new hk9)
          clear hk9
          generalize hqW28 : W27.alloc (.cells #[(.int .i64 0)] 3) = W28 at *
          generalize hbW28 : W27.heap.size = b20 at *
          clear hqW28 hbW28
          have hHeld2 := HS.out JW28.out
          refine hK.out _ _ (fun _ => hHeld2) ?_
          clear hK K hHeld
          have hHeld := hHeld2
          clear hHeld2
          refine late_ready (rs := [21]) (by kernel_rfl) (by simp) ?_
          refine LateAll.cons (o := { dst := some 27, op := _, type := _, pos := _, after := _, guard := _ }) rfl (fun K hK => ?_) LateAll.nil
          refine step_append1 rfl (.tmp 25) (.tmp 26) 26 3 rfl Tryz.underlying26 info_int rfl (by decide) JW28.out.oa HLF.out.2.1 B20W28.out.cell rfl (by simp [Act.eval]) (by simp [Act.eval]) ?_
          intro aa ka W29 ho9 hk9 hn9
          have JW29 := Lib.hid (JW28.out.appA ho9 hk9 hn9)
          have B26W29 := Lib.hid (B26W28.out.appA hk9 hn9)
          clear ho9 hk9 hn9
          have hHeld2 := HS.out JW29.out
          try simp only [Act.put, List.setIfInBounds_toArray, List.set_cons_zero, List.set_cons_succ]
          refine hK.out _ _ (fun _ => hHeld2) ?_
          clear hK K hHeld
          have hHeld := hHeld2
          clear hHeld2
          refine late_ready (rs := [27]) (by kernel_rfl) (by simp) ?_
          refine LateAll.cons (o := { dst := some 33, op := _, type := _, pos := _, after := _, guard := _ }) rfl (fun K hK => ?_) LateAll.nil
          refine step_append1 rfl (.tmp 31) (.tmp 32) 27 4 rfl Tryz.underlying27 info_boolR rfl (by decide) JW29.out.op HLF.out.2.2 B26W29.out.cell rfl (by simp [Act.eval]) (by simp [Act.eval]) ?_
          intro ap kp W30 ho9 hk9 hn9
          have JW30 := Lib.hid (JW29.out.appP ho9 hk9 hn9)
          clear ho9 hk9 hn9
          have hHeld2 := HS.out JW30.out
          try simp only [Act.put, List.setIfInBounds_toArray, List.set_cons_zero, List.set_cons_succ]
          refine hK.out _ _ (fun _ => hHeld2) ?_
          clear hK K hHeld
          have hHeld := hHeld2
          clear hHeld2
          exact late_li (by kernel_rfl) (HTAIL.out W30 _ _ _ _ _ _ _ _ _ JW30)
        · go_simp
          have hk9 : Keeps (fun _ => False) W26 (W26.alloc (.cells #[(.int .i64 0)] 3)) := (Keeps.refl (fun _ => False) W26).alloc _
          have JW31 := Lib.hid (JW26.out.new hk9)
          have B20W31 := Lib.hid (JW26.out.built (.int .i64 0) 3)
          have B14W31 := Lib.hid (B14W26.out.new hk9)
          have B26W31 := Lib.hid (B26W26.out.new hk9)
          clear hk9
          generalize hqW31 : W26.alloc (.cells #[(.int .i64 0)] 3) = W31 at *
          generalize hbW31 : W26.heap.size = b20 at *
          clear hqW31 hbW31
          have hHeld2 := HS.out JW31.out
          refine hK.out _ _ (fun _ => hHeld2) ?_
          clear hK K hHeld
          have hHeld := hHeld2
          clear hHeld2
          refine late_ready (rs := [15]) (by kernel_rfl) (by simp) ?_
          refine LateAll.cons (o := { dst := some 21, op := _, type := _, pos := _, after := _, guard := _ }) rfl (fun K hK => ?_) LateAll.nil
          refine step_append1 rfl (.tmp 12) (.tmp 20) 26 3 rfl Tryz.underlying26 info_int rfl (by decide) JW31.out.of HLF.out.1 B14W31.out.cell rfl (by simp [Act.eval]) (by simp [Act.eval]) ?_
          intro af kf W32 ho9 hk9 hn9
          have JW32 := Lib.hid (JW31.out.appF ho9 hk9 hn9)
          have B26W32 := Lib.hid (B26W31.out.appF hk9 hn9)
          have B20W32 := Lib.hid (B20W31.out.appF hk9 hn9)
          clear ho9 hk9 hn9
          have hHeld2 := HS.out JW32.out
          try simp only [Act.put, List.setIfInBounds_toArray, List.set_cons_zero, List.set_cons_succ]
          refine hK.out _ _ (fun _ => hHeld2) ?_
          clear hK K hHeld
          have hHeld := hHeld2
          clear hHeld2
          refine late_ready (rs := [21]) (by kernel_rfl) (by simp) ?_
          refine LateAll.cons (o := { dst := some 27, op := _, type := _, pos := _, after := _, guard := _ }) rfl (fun K hK => ?_) LateAll.nil
          refine step_append1 rfl (.tmp 25) (.tmp 26) 26 3 rfl Tryz.underlying26 info_int rfl (by decide) JW32.out.oa HLF.out.2.1 B20W32.out.cell rfl (by simp [Act.eval]) (by simp [Act.eval]) ?_
          intro aa ka W33 ho9 hk9 hn9
          have JW33 := Lib.hid (JW32.out.appA ho9 hk9 hn9)
          have B26W33 := Lib.hid (B26W32.out.appA hk9 hn9)
          clear ho9 hk9 hn9
          have hHeld2 := HS.out JW33.out
          try simp only [Act.put, List.setIfInBounds_toArray, List.set_cons_zero, List.set_cons_succ]
          refine hK.out _ _ (fun _ => hHeld2) ?_
          clear hK K hHeld
          have hHeld := hHeld2
          clear hHeld2
          refine late_ready (rs := [27]) (by kernel_rfl) (by simp) ?_
          refine LateAll.cons (o := { dst := some 33, op := _, type := _, pos := _, after := _, guard := _ }) rfl (fun K hK => ?_) LateAll.nil
          refine step_append1 rfl (.tmp 31) (.tmp 32) 27 4 rfl Tryz.underlying27 info_boolR rfl (by decide) JW33.out.op HLF.out.2.2 B26W33.out.cell rfl (by simp [Act.eval]) (by simp [Act.eval]) ?_
          intro ap kp W34 ho9 hk9 hn9
          have JW34 := Lib.hid (JW33.out.appP ho9 hk9 hn9)
          clear ho9 hk9 hn9
          have hHeld2 := HS.out JW34.out
          try simp only [Act.put, List.setIfInBounds_toArray, List.set_cons_zero, List.set_cons_succ]
          refine hK.out _ _ (fun _ => hHeld2) ?_
          clear hK K hHeld
          have hHeld := hHeld2
          clear hHeld2
          exact late_li (by kernel_rfl) (HTAIL.out W34 _ _ _ _ _ _ _ _ _ JW34)
    · go_simp
      have hk9 : Keeps (fun _ => False) W0 (W0.alloc (.cells #[(.int .i64 0)] 3)) := (Keeps.refl (fun _ => False) W0).alloc _
      have JW35 := Lib.hid (J0.out.new hk9)
      have B20W35 := Lib.hid (J0.out.built (.int .i64 0) 3)
      clear hk9
      generalize hqW35 : W0.alloc (.cells #[(.int .i64 0)] 3) = W35 at *
      generalize hbW35 : W0.heap.size = b20 at *
      clear hqW35 hbW35
      have hHeld2 := HS.out JW35.out
      refine hK.out _ _ (fun _ => hHeld2) ?_
      clear hK K hHeld
      have hHeld := hHeld2
      clear hHeld2
      refine late_ready (rs := [14, 26]) (by kernel_rfl) (by simp) ?_
      refine LateAll.cons (o := { dst := some 20, op := _, type := _, pos := _, after := _, guard := _ }) rfl (fun K hK => ?_) (LateAll.cons (o := { dst := some 32, op := _, type := _, pos := _, after := _, guard := _ }) rfl (fun K hK => ?_) LateAll.nil)
      · go_simp
        have hk9 : Keeps (fun _ => False) W35 (W35.alloc (.cells #[(.int .i64 (r : Int))] 3)) := (Keeps.refl (fun _ => False) W35).alloc _
        have JW36 := Lib.hid (JW35.out.new hk9)
        have B14W36 := Lib.hid (JW35.out.built (.int .i64 (r : Int)) 3)
        have B20W36 := Lib.hid (B20W35.out.new hk9)
        clear hk9
        generalize hqW36 : W35.alloc (.cells #[(.int .i64 (r : Int))] 3) = W36 at *
        generalize hbW36 : W35.heap.size = b14 at *
        clear hqW36 hbW36
        have hHeld2 := HS.out JW36.out
        refine hK.out _ _ (fun _ => hHeld2) ?_
        clear hK K hHeld
        have hHeld := hHeld2
        clear hHeld2
        refine late_ready (rs := [15, 26]) (by kernel_rfl) (by simp) ?_
        refine LateAll.cons (o := { dst := some 21, op := _, type := _, pos := _, after := _, guard := _ }) rfl (fun K hK => ?_) (LateAll.cons (o := { dst := some 32, op := _, type := _, pos := _, after := _, guard := _ }) rfl (fun K hK => ?_) LateAll.nil)
        · refine step_append1 rfl (.tmp 12) (.tmp 20) 26 3 rfl Tryz.underlying26 info_int rfl (by decide) JW36.out.of HLF.out.1 B14W36.out.cell rfl (by simp [Act.eval]) (by simp [Act.eval]) ?_
          intro af kf W37 ho9 hk9 hn9
          have JW37 := Lib.hid (JW36.out.appF ho9 hk9 hn9)
          have B20W37 := Lib.hid (B20W36.out.appF hk9 hn9)
          clear ho9 hk9 hn9
          have hHeld2 := HS.out JW37.out
          try simp only [Act.put, List.setIfInBounds_toArray, List.set_cons_zero, List.set_cons_succ]
          refine hK.out _ _ (fun _ => hHeld2) ?_
          clear hK K hHeld
          have hHeld := hHeld2
          clear hHeld2
          refine late_ready (rs := [21, 26]) (by kernel_rfl) (by simp) ?_
          refine LateAll.cons (o := { dst := some 27, op := _, type := _, pos := _, after := _, guard := _ }) rfl (fun K hK => ?_) (LateAll.cons (o := { dst := some 32, op := _, type := _, pos := _, after := _, guard := _ }) rfl (fun K hK => ?_) LateAll.nil)
          · refine step_append1 rfl (.tmp 25) (.tmp 26) 26 3 rfl Tryz.underlying26 info_int rfl (by decide) JW37.out.oa HLF.out.2.1 B20W37.out.cell rfl (by simp [Act.eval]) (by simp [Act.eval]) ?_
            intro aa ka W38 ho9 hk9 hn9
            have JW38 := Lib.hid (JW37.out.appA ho9 hk9 hn9)
            clear ho9 hk9 hn9
            have hHeld2 := HS.out JW38.out
            try simp only [Act.put, List.setIfInBounds_toArray, List.set_cons_zero, List.set_cons_succ]
            refine hK.out _ _ (fun _ => hHeld2) ?_
            clear hK K hHeld
            have hHeld := hHeld2
            clear hHeld2
            refine late_ready (rs := [26]) (by kernel_rfl) (by simp) ?_
            refine LateAll.cons (o := { dst := some 32, op := _, type := _, pos := _, after := _, guard := _ }) rfl (fun K hK => ?_) LateAll.nil
            go_simp
            have hk9 : Keeps (fun _ => False) W38 (W38.alloc (.cells #[(.bool false)] 4)) := (Keeps.refl (fun _ => False) W38).alloc _
            have JW39 := Lib.hid (JW38.out.new hk9)
            have B26W39 := Lib.hid (JW38.out.built (.bool false) 4)
            clear hk9
            generalize hqW39 : W38.alloc (.cells #[(.bool false)] 4) = W39 at *
            generalize hbW39 : W38.heap.size = b26 at *
            clear hqW39 hbW39
            have hHeld2 := HS.out JW39.out
            refine hK.out _ _ (fun _ => hHeld2) ?_
            clear hK K hHeld
            have hHeld := hHeld2
            clear hHeld2
            refine late_ready (rs := [27]) (by kernel_rfl) (by simp) ?_
            refine LateAll.cons (o := { dst := some 33, op := _, type := _, pos := _, after := _, guard := _ }) rfl (fun K hK => ?_) LateAll.nil
            refine step_append1 rfl (.tmp 31) (.tmp 32) 27 4 rfl Tryz.underlying27 info_boolR rfl (by decide) JW39.out.op HLF.out.2.2 B26W39.out.cell rfl (by simp [Act.eval]) (by simp [Act.eval]) ?_
            intro ap kp W40 ho9 hk9 hn9
            have JW40 := Lib.hid (JW39.out.appP ho9 hk9 hn9)
            clear ho9 hk9 hn9
            have hHeld2 := HS.out JW40.out
            try simp only [Act.put, List.setIfInBounds_toArray, List.set_cons_zero, List.set_cons_succ]
            refine hK.out _ _ (fun _ => hHeld2) ?_
            clear hK K hHeld
            have hHeld := hHeld2
            clear hHeld2
            exact late_li (by kernel_rfl) (HTAIL.out W40 _ _ _ _ _ _ _ _ _ JW40)
          · go_simp
            have hk9 : Keeps (fun _ => False) W37 (W37.alloc (.cells #[(.bool false)] 4)) := (Keeps.refl (fun _ => False) W37).alloc _
            have JW41 := Lib.hid (JW37.out.new hk9)
            have B26W41 := Lib.hid (JW37.out.built (.bool false) 4)
            have B20W41 := Lib.hid (B20W37.out.new hk9)
            clear hk9
            generalize hqW41 : W37.alloc (.cells #[(.bool false)] 4) = W41 at *
            generalize hbW41 : W37.heap.size = b26 at *
            clear hqW41 hbW41
            have hHeld2 := HS.out JW41.out
            refine hK.out _ _ (fun _ => hHeld2) ?_
            clear hK K hHeld
            have hHeld := hHeld2
            clear hHeld2
            refine late_ready (rs := [21]) (by kernel_rfl) (by simp) ?_
            refine LateAll.cons (o := { dst := some 27, op := _, type := _, pos := _, after := _, guard := _ }) rfl (fun K hK => ?_) LateAll.nil
            refine step_append1 rfl (.tmp 25) (.tmp 26) 26 3 rfl Tryz.underlying26 info_int rfl (by decide) JW41.out.oa HLF.out.2.1 B20W41.out.cell rfl (by simp [Act.eval]) (by simp [Act.eval]) ?_
            intro aa ka W42 ho9 hk9 hn9
            have JW42 := Lib.hid (JW41.out.appA ho9 hk9 hn9)
            have B26W42 := Lib.hid (B26W41.out.appA hk9 hn9)
            clear ho9 hk9 hn9
            have hHeld2 := HS.out JW42.out
            try simp only [Act.put, List.setIfInBounds_toArray, List.set_cons_zero, List.set_cons_succ]
            refine hK.out _ _ (fun _ => hHeld2) ?_
            clear hK K hHeld
            have hHeld := hHeld2
            clear hHeld2
            refine late_ready (rs := [27]) (by kernel_rfl) (by simp) ?_
            refine LateAll.cons (o := { dst := some 33, op := _, type := _, pos := _, after := _, guard := _ }) rfl (fun K hK => ?_) LateAll.nil
            refine step_append1 rfl (.tmp 31) (.tmp 32) 27 4 rfl Tryz.underlying27 info_boolR rfl (by decide) JW42.out.op HLF.out.2.2 B26W42.out.cell rfl (by simp [Act.eval]) (by simp [Act.eval]) ?_
            intro ap kp W43 ho9 hk9 hn9
            have JW43 := Lib.hid (JW42.out.appP ho9 hk9 hn9)
            clear ho9 hk9 hn9
            have hHeld2 := HS.out JW43.out
            try simp only [Act.put, List.setIfInBounds_toArray, List.set_cons_zero, List.set_cons_succ]
            refine hK.out _ _ (fun _ => hHeld2) ?_
            clear hK K hHeld
            have hHeld := hHeld2
            clear hHeld2
            exact late_li (by kernel_rfl) (HTAIL.out W43 _ _ _ _ _ _ _ _ _ JW43)
        · go_simp
          have hk9 : Keeps (fun _ => False) W36 (W36.alloc (.cells #[(.bool false)] 4)) := (Keeps.refl (fun _ => False) W36).alloc _
          have JW44 := Lib.hid (JW36.out.new hk9)
          have B26W44 := Lib.hid (JW36.out.built (.bool false) 4)
          have B20W44 := Lib.hid (B20W36.out.new hk9)
          have B14W44 := Lib.hid (B14W36.out.new hk9)
          clear hk9
          generalize hqW44 : W36.alloc (.cells #[(.bool false)] 4) = W44 at *
          generalize hbW44 : W36.heap.size = b26 at *
          clear hqW44 hbW44
          have hHeld2 := HS.out JW44.out
          refine hK.out _ _ (fun _ => hHeld2) ?_
          clear hK K hHeld
          have hHeld := hHeld2
          clear hHeld2
          refine late_ready (rs := [15]) (by kernel_rfl) (by simp) ?_
          refine LateAll.cons (o := { dst := some 21, op := _, type := _, pos := _, after := _, guard := _ }) rfl (fun K hK => ?_) LateAll.nil
          refine step_append1 rfl (.tmp 12) (.tmp 20) 26 3 rfl Tryz.underlying26 info_int rfl (by decide) JW44.out.of HLF.out.1 B14W44.out.cell rfl (by simp [Act.eval]) (by simp [Act.eval]) ?_
          intro af kf W45 ho9 hk9 hn9
          have JW45 := Lib.hid (JW44.out.appF ho9 hk9 hn9)
          have B20W45 := Lib.hid (B20W44.out.appF hk9 hn9)
          have B26W45 := Lib.hid (B26W44.out.appF hk9 hn9)
          clear ho9 hk9 hn9
          have hHeld2 := HS.out JW45.out
          try simp only [Act.put, List.setIfInBounds_toArray, List.set_cons_zero, List.set_cons_succ]
          refine hK.out _ _ (fun _ => hHeld2) ?_
          clear hK K hHeld
          have hHeld := hHeld2
          clear hHeld2
          refine late_ready (rs := [21]) (by kernel_rfl) (by simp) ?_
          refine LateAll.cons (o := { dst := some 27, op := _, type := _, pos := _, after := _, guard := _ }) rfl (fun K hK => ?_) LateAll.nil
          refine step_append1 rfl (.tmp 25) (.tmp 26) 26 3 rfl Tryz.underlying26 info_int rfl (by decide) JW45.out.oa HLF.out.2.1 B20W45.out.cell rfl (by simp [Act.eval]) (by simp [Act.eval]) ?_
          intro aa ka W46 ho9 hk9 hn9
          have JW46 := Lib.hid (JW45.out.appA ho9 hk9 hn9)
          have B26W46 := Lib.hid (B26W45.out.appA hk9 hn9)
          clear ho9 hk9 hn9
          have hHeld2 := HS.out JW46.out
          try simp only [Act.put, List.setIfInBounds_toArray, List.set_cons_zero, List.set_cons_succ]
          refine hK.out _ _ (fun _ => hHeld2) ?_
          clear hK K hHeld
          have hHeld := hHeld2
          clear hHeld2
          refine late_ready (rs := [27]) (by kernel_rfl) (by simp) ?_
          refine LateAll.cons (o := { dst := some 33, op := _, type := _, pos := _, after := _, guard := _ }) rfl (fun K hK => ?_) LateAll.nil
          refine step_append1 rfl (.tmp 31) (.tmp 32) 27 4 rfl Tryz.underlying27 info_boolR rfl (by decide) JW46.out.op HLF.out.2.2 B26W46.out.cell rfl (by simp [Act.eval]) (by simp [Act.eval]) ?_
          intro ap kp W47 ho9 hk9 hn9
          have JW47 := Lib.hid (JW46.out.appP ho9 hk9 hn9)
          clear ho9 hk9 hn9
          have hHeld2 := HS.out JW47.out
          try simp only [Act.put, List.setIfInBounds_toArray, List.set_cons_zero, List.set_cons_succ]
          refine hK.out _ _ (fun _ => hHeld2) ?_
          clear hK K hHeld
          have hHeld := hHeld2
          clear hHeld2
          exact late_li (by kernel_rfl) (HTAIL.out W47 _ _ _ _ _ _ _ _ _ JW47)
      · go_simp
        have hk9 : Keeps (fun _ => False) W35 (W35.alloc (.cells #[(.bool false)] 4)) := (Keeps.refl (fun _ => False) W35).alloc _
        have JW48 := Lib.hid (JW35.out.new hk9)
        have B26W48 := Lib.hid (JW35.out.built (.bool false) 4)
        have B20W48 := Lib.hid (B20W35.out.new hk9)
        clear hk9
        generalize hqW48 : W35.alloc (.cells #[(.bool false)] 4) = W48 at *
        generalize hbW48 : W35.heap.size = b26 at *
        clear hqW48 hbW48
        have hHeld2 := HS.out JW48.out
        refine hK.out _ _ (fun _ => hHeld2) ?_
        clear hK K hHeld
        have hHeld := hHeld2
        clear hHeld2
        refine late_ready (rs := [14]) (by kernel_rfl) (by simp) ?_
        refine LateAll.cons (o := { dst := some 20, op := _, type := _, pos := _, after := _, guard := _ }) rfl (fun K hK => ?_) LateAll.nil
        go_simp
        have hk9 : Keeps (fun _ => False) W48 (W48.alloc (.cells #[(.int .i64 (r : Int))] 3)) := (Keeps.refl (fun _ => False) W48).alloc _
        have JW49 := Lib.hid (JW48.out.new hk9)
        have B14W49 := Lib.hid (JW48.out.built (.int .i64 (r : Int)) 3)
        have B20W49 := Lib.hid (B20W48.out.new hk9)
        have B26W49 := Lib.hid (B26W48.out.new hk9)
        clear hk9
        generalize hqW49 : W48.alloc (.cells #[(.int .i64 (r : Int))] 3) = W49 at *
        generalize hbW49 : W48.heap.size = b14 at *
        clear hqW49 hbW49
        have hHeld2 := HS.out JW49.out
        refine hK.out _ _ (fun _ => hHeld2) ?_
        clear hK K hHeld
        have hHeld := hHeld2
        clear hHeld2
        refine late_ready (rs := [15]) (by kernel_rfl) (by simp) ?_
        refine LateAll.cons (o := { dst := some 21, op := _, type := _, pos := _, after := _, guard := _ }) rfl (fun K hK => ?_) LateAll.nil
        refine step_append1 rfl (.tmp 12) (.tmp 20) 26 3 rfl Tryz.underlying26 info_int rfl (by decide) JW49.out.of HLF.out.1 B14W49.out.cell rfl (by simp [Act.eval]) (by simp [Act.eval]) ?_
        intro af kf W50 ho9 hk9 hn9
        have JW50 := Lib.hid (JW49.out.appF ho9 hk9 hn9)
        have B20W50 := Lib.hid (B20W49.out.appF hk9 hn9)
        have B26W50 := Lib.hid (B26W49.out.appF hk9 hn9)
        clear ho9 hk9 hn9
        have hHeld2 := HS.out JW50.out
        try simp only [Act.put, List.setIfInBounds_toArray, List.set_cons_zero, List.set_cons_succ]
        refine hK.out _ _ (fun _ => hHeld2) ?_
        clear hK K hHeld
        have hHeld := hHeld2
        clear hHeld2
        refine late_ready (rs := [21]) (by kernel_rfl) (by simp) ?_
        refine LateAll.cons (o := { dst := some 27, op := _, type := _, pos := _, after := _, guard := _ }) rfl (fun K hK => ?_) LateAll.nil
        refine step_append1 rfl (.tmp 25) (.tmp 26) 26 3 rfl Tryz.underlying26 info_int rfl (by decide) JW50.out.oa HLF.out.2.1 B20W50.out.cell rfl (by simp [Act.eval]) (by simp [Act.eval]) ?_
        intro aa ka W51 ho9 hk9 hn9
        have JW51 := Lib.hid (JW50.out.appA ho9 hk9 hn9)
        have B26W51 := Lib.hid (B26W50.out.appA hk9 hn9)
        clear ho9 hk9 hn9
        have hHeld2 := HS.out JW51.out
        try simp only [Act.put, List.setIfInBounds_toArray, List.set_cons_zero, List.set_cons_succ]
        refine hK.out _ _ (fun _ => hHeld2) ?_
        clear hK K hHeld
        have hHeld := hHeld2
        clear hHeld2
        refine late_ready (rs := [27]) (by kernel_rfl) (by simp) ?_
        refine LateAll.cons (o := { dst := some 33, op := _, type := _, pos := _, after := _, guard := _ }) rfl (fun K hK => ?_) LateAll.nil
        refine step_append1 rfl (.tmp 31) (.tmp 32) 27 4 rfl Tryz.underlying27 info_boolR rfl (by decide) JW51.out.op HLF.out.2.2 B26W51.out.cell rfl (by simp [Act.eval]) (by simp [Act.eval]) ?_
        intro ap kp W52 ho9 hk9 hn9
        have JW52 := Lib.hid (JW51.out.appP ho9 hk9 hn9)
        clear ho9 hk9 hn9
        have hHeld2 := HS.out JW52.out
        try simp only [Act.put, List.setIfInBounds_toArray, List.set_cons_zero, List.set_cons_succ]
        refine hK.out _ _ (fun _ => hHeld2) ?_
        clear hK K hHeld
        have hHeld := hHeld2
        clear hHeld2
        exact late_li (by kernel_rfl) (HTAIL.out W52 _ _ _ _ _ _ _ _ _ JW52)
    · go_simp
      have hk9 : Keeps (fun _ => False) W0 (W0.alloc (.cells #[(.bool false)] 4)) := (Keeps.refl (fun _ => False) W0).alloc _
      have JW53 := Lib.hid (J0.out.new hk9)
      have B26W53 := Lib.hid (J0.out.built (.bool false) 4)
      clear hk9
      generalize hqW53 : W0.alloc (.cells #[(.bool false)] 4) = W53 at *
      generalize hbW53 : W0.heap.size = b26 at *
      clear hqW53 hbW53
      have hHeld2 := HS.out JW53.out
      refine hK.out _ _ (fun _ => hHeld2) ?_
      clear hK K hHeld
      have hHeld := hHeld2
      clear hHeld2
      refine late_ready (rs := [14, 20]) (by kernel_rfl) (by simp) ?_
      refine LateAll.cons (o := { dst := some 20, op := _, type := _, pos := _, after := _, guard := _ }) rfl (fun K hK => ?_) (LateAll.cons (o := { dst := some 26, op := _, type := _, pos := _, after := _, guard := _ }) rfl (fun K hK => ?_) LateAll.nil)
      · go_simp
        have hk9 : Keeps (fun _ => False) W53 (W53.alloc (.cells #[(.int .i64 (r : Int))] 3)) := (Keeps.refl (fun _ => False) W53).alloc _
        have JW54 := Lib.hid (JW53.out.new hk9)
        have B14W54 := Lib.hid (JW53.out.built (.int .i64 (r : Int)) 3)
        have B26W54 := Lib.hid (B26W53.out.new hk9)
        clear hk9
        generalize hqW54 : W53.alloc (.cells #[(.int .i64 (r : Int))] 3) = W54 at *
        generalize hbW54 : W53.heap.size = b14 at *
        clear hqW54 hbW54
        have hHeld2 := HS.out JW54.out
        refine hK.out _ _ (fun _ => hHeld2) ?_
        clear hK K hHeld
        have hHeld := hHeld2
        clear hHeld2
        refine late_ready (rs := [15, 20]) (by kernel_rfl) (by simp) ?_
        refine LateAll.cons (o := { dst := some 21, op := _, type := _, pos := _, after := _, guard := _ }) rfl (fun K hK => ?_) (LateAll.cons (o := { dst := some 26, op := _, type := _, pos := _, after := _, guard := _ }) rfl (fun K hK => ?_) LateAll.nil)
        · refine step_append1 rfl (.tmp 12) (.tmp 20) 26 3 rfl Tryz.underlying26 info_int rfl (by decide) JW54.out.of HLF.out.1 B14W54.out.cell rfl (by simp [Act.eval]) (by simp [Act.eval]) ?_
          intro af kf W55 ho9 hk9 hn9
          have JW55 := Lib.hid (JW54.out.appF ho9 hk9 hn9)
          have B26W55 := Lib.hid (B26W54.out.appF hk9 hn9)
          clear ho9 hk9 hn9
          have hHeld2 := HS.out JW55.out
          try simp only [Act.put, List.setIfInBounds_toArray, List.set_cons_zero, List.set_cons_succ]
          refine hK.out _ _ (fun _ => hHeld2) ?_
          clear hK K hHeld
          have hHeld := hHeld2
          clear hHeld2
          refine late_ready (rs := [20]) (by kernel_rfl) (by simp) ?_
          refine LateAll.cons (o := { dst := some 26, op := _, type := _, pos := _, after := _, guard := _ }) rfl (fun K hK => ?_) LateAll.nil
          go_simp
          have hk9 : Keeps (fun _ => False) W55 (W55.alloc (.cells #[(.int .i64 0)] 3)) := (Keeps.refl (fun _ => False) W55).alloc _
          have JW56 := Lib.hid (JW55.out.new hk9)
          have B20W56 := Lib.hid (JW55.out.built (.int .i64 0) 3)
          have B26W56 := Lib.hid (B26W55.out.new hk9)
          clear hk9
          generalize hqW56 : W55.alloc (.cells #[(.int .i64 0)] 3) = W56 at *
          generalize hbW56 : W55.heap.size = b20 at *
          clear hqW56 hbW56
          have hHeld2 := HS.out JW56.out
          refine hK.out _ _ (fun _ => hHeld2) ?_
          clear hK K hHeld
          have hHeld := hHeld2
          clear hHeld2
          refine late_ready (rs := [21]) (by kernel_rfl) (by simp) ?_
          refine LateAll.cons (o := { dst := some 27, op := _, type := _, pos := _, after := _, guard := _ }) rfl (fun K hK => ?_) LateAll.nil
          refine step_append1 rfl (.tmp 25) (.tmp 26) 26 3 rfl Tryz.underlying26 info_int rfl (by decide) JW56.out.oa HLF.out.2.1 B20W56.out.cell rfl (by simp [Act.eval]) (by simp [Act.eval]) ?_
          intro aa ka W57 ho9 hk9 hn9
          have JW57 := Lib.hid (JW56.out.appA ho9 hk9 hn9)
          have B26W57 := Lib.hid (B26W56.out.appA hk9 hn9)
          clear ho9 hk9 hn9
          have hHeld2 := HS.out JW57.out
          try simp only [Act.put, List.setIfInBounds_toArray, List.set_cons_zero, List.set_cons_succ]
          refine hK.out _ _ (fun _ => hHeld2) ?_
          clear hK K hHeld
          have hHeld := hHeld2
          clear hHeld2
          refine late_ready (rs := [27]) (by kernel_rfl) (by simp) ?_
          refine LateAll.cons (o := { dst := some 33, op := _, type := _, pos := _, after := _, guard := _ }) rfl (fun K hK => ?_) LateAll.nil
          refine step_append1 rfl (.tmp 31) (.tmp 32) 27 4 rfl Tryz.underlying27 info_boolR rfl (by decide) JW57.out.op HLF.out.2.2 B26W57.out.cell rfl (by simp [Act.eval]) (by simp [Act.eval]) ?_
          intro ap kp W58 ho9 hk9 hn9
          have JW58 := Lib.hid (JW57.out.appP ho9 hk9 hn9)
          clear ho9 hk9 hn9
          have hHeld2 := HS.out JW58.out
          try simp only [Act.put, List.setIfInBounds_toArray, List.set_cons_zero, List.set_cons_succ]
          refine hK.out _ _ (fun _ => hHeld2) ?_
          clear hK K hHeld
          have hHeld := hHeld2
          clear hHeld2
          exact late_li (by kernel_rfl) (HTAIL.out W58 _ _ _ _ _ _ _ _ _ JW58)
        · go_simp
          have hk9 : Keeps (fun _ => False) W54 (W54.alloc (.cells #[(.int .i64 0)] 3)) := (Keeps.refl (fun _ => False) W54).alloc _
          have JW59 := Lib.hid (JW54.out.new hk9)
          have B20W59 := Lib.hid (JW54.out.built (.int .i64 0) 3)
          have B26W59 := Lib.hid (B26W54.out.new hk9)
          have B14W59 := Lib.hid (B14W54.out.new hk9)
          clear hk9
          generalize hqW59 : W54.alloc (.cells #[(.int .i64 0)] 3) = W59 at *
          generalize hbW59 : W54.heap.size = b20 at *
          clear hqW59 hbW59
          have hHeld2 := HS.out JW59.out
          refine hK.out _ _ (fun _ => hHeld2) ?_
          clear hK K hHeld
          have hHeld := hHeld2
          clear hHeld2
          refine late_ready (rs := [15]) (by kernel_rfl) (by simp) ?_
          refine LateAll.cons (o := { dst := some 21, op := _, type := _, pos := _, after := _, guard := _ }) rfl (fun K hK => ?_) LateAll.nil
          refine step_append1 rfl (.tmp 12) (.tmp 20) 26 3 rfl Tryz.underlying26 info_int rfl (by decide) JW59.out.of HLF.out.1 B14W59.out.cell rfl (by simp [Act.eval]) (by simp [Act.eval]) ?_
          intro af kf W60 ho9 hk9 hn9
          have JW60 := Lib.hid (JW59.out.appF ho9 hk9 hn9)
          have B26W60 := Lib.hid (B26W59.out.appF hk9 hn9)
          have B20W60 := Lib.hid (B20W59.out.appF hk9 hn9)
          clear ho9 hk9 hn9
          have hHeld2 := HS.out JW60.out
          try simp only [Act.put, List.setIfInBounds_toArray, List.set_cons_zero, List.set_cons_succ]
          refine hK.out _ _ (fun _ => hHeld2) ?_
          clear hK K hHeld
          have hHeld := hHeld2
          clear hHeld2
          refine late_ready (rs := [21]) (by kernel_rfl) (by simp) ?_
          refine LateAll.cons (o := { dst := some 27, op := _, type := _, pos := _, after := _, guard := _ }) rfl (fun K hK => ?_) LateAll.nil
          refine step_append1 rfl (.tmp 25) (.tmp 26) 26 3 rfl Tryz.underlying26 info_int rfl (by decide) JW60.out.oa HLF.out.2.1 B20W60.out.cell rfl (by simp [Act.eval]) (by simp [Act.eval]) ?_
          intro aa ka W61 ho9 hk9 hn9
          have JW61 := Lib.hid (JW60.out.appA ho9 hk9 hn9)
          have B26W61 := Lib.hid (B26W60.out.appA hk9 hn9)
          clear ho9 hk9 hn9
          have hHeld2 := HS.out JW61.out
          try simp only [Act.put, List.setIfInBounds_toArray, List.set_cons_zero, List.set_cons_succ]
          refine hK.out _ _ (fun _ => hHeld2) ?_
          clear hK K hHeld
          have hHeld := hHeld2
          clear hHeld2
          refine late_ready (rs := [27]) (by kernel_rfl) (by simp) ?_
          refine LateAll.cons (o := { dst := some 33, op := _, type := _, pos := _, after := _, guard := _ }) rfl (fun K hK => ?_) LateAll.nil
          refine step_append1 rfl (.tmp 31) (.tmp 32) 27 4 rfl Tryz.underlying27 info_boolR rfl (by decide) JW61.out.op HLF.out.2.2 B26W61.out.cell rfl (by simp [Act.eval]) (by simp [Act.eval]) ?_
          intro ap kp W62 ho9 hk9 hn9
          have JW62 := Lib.hid (JW61.out.appP ho9 hk9 hn9)
          clear ho9 hk9 hn9
          have hHeld2 := HS.out JW62.out
          try simp only [Act.put, List.setIfInBounds_toArray, List.set_cons_zero, List.set_cons_succ]
          refine hK.out _ _ (fun _ => hHeld2) ?_
          clear hK K hHeld
          have hHeld := hHeld2
          clear hHeld2
          exact late_li (by kernel_rfl) (HTAIL.out W62 _ _ _ _ _ _ _ _ _ JW62)
      · go_simp
        have hk9 : Keeps (fun _ => False) W53 (W53.alloc (.cells #[(.int .i64 0)] 3)) := (Keeps.refl (fun _ => False) W53).alloc _
        have JW63 := Lib.hid (JW53.out.new hk9)
        have B20W63 := Lib.hid (JW53.out.built (.int .i64 0) 3)
        have B26W63 := Lib.hid (B26W53.out.new hk9)
        clear hk9
        generalize hqW63 : W53.alloc (.cells #[(.int .i64 0)] 3) = W63 at *
        generalize hbW63 : W53.heap.size = b20 at *
        clear hqW63 hbW63
        have hHeld2 := HS.out JW63.out
        refine hK.out _ _ (fun _ => hHeld2) ?_
        clear hK K hHeld
        have hHeld := hHeld2
        clear hHeld2
        refine late_ready (rs := [14]) (by kernel_rfl) (by simp) ?_
        refine LateAll.cons (o := { dst := some 20, op := _, type := _, pos := _, after := _, guard := _ }) rfl (fun K hK => ?_) LateAll.nil
        go_simp
        have hk9 : Keeps (fun _ => False) W63 (W63.alloc (.cells #[(.int .i64 (r : Int))] 3)) := (Keeps.refl (fun _ => False) W63).alloc _
        have JW64 := Lib.hid (JW63.out.new hk9)
        have B14W64 := Lib.hid (JW63.out.built (.int .i64 (r : Int)) 3)
        have B26W64 := Lib.hid (B26W63.out.new hk9)
        have B20W64 := Lib.hid (B20W63.out.new hk9)
        clear hk9
        generalize hqW64 : W63.alloc (.cells #[(.int .i64 (r : Int))] 3) = W64 at *
        generalize hbW64 : W63.heap.size = b14 at *
        clear hqW64 hbW64
        have hHeld2 := HS.out JW64.out
        refine hK.out _ _ (fun _ => hHeld2) ?_
        clear hK K hHeld
        have hHeld := hHeld2
        clear hHeld2
        refine late_ready (rs := [15]) (by kernel_rfl) (by simp) ?_
        refine LateAll.cons (o := { dst := some 21, op := _, type := _, pos := _, after := _, guard := _ }) rfl (fun K hK => ?_) LateAll.nil
        refine step_append1 rfl (.tmp 12) (.tmp 20) 26 3 rfl Tryz.underlying26 info_int rfl (by decide) JW64.out.of HLF.out.1 B14W64.out.cell rfl (by simp [Act.eval]) (by simp [Act.eval]) ?_
        intro af kf W65 ho9 hk9 hn9
        have JW65 := Lib.hid (JW64.out.appF ho9 hk9 hn9)
        have B26W65 := Lib.hid (B26W64.out.appF hk9 hn9)
        have B20W65 := Lib.hid (B20W64.out.appF hk9 hn9)
        clear ho9 hk9 hn9
        have hHeld2 := HS.out JW65.out
        try simp only [Act.put, List.setIfInBounds_toArray, List.set_cons_zero, List.set_cons_succ]
        refine hK.out _ _ (fun _ => hHeld2) ?_
        clear hK K hHeld
        have hHeld := hHeld2
        clear hHeld2
        refine late_ready (rs := [21]) (by kernel_rfl) (by simp) ?_
        refine LateAll.cons (o := { dst := some 27, op := _, type := _, pos := _, after := _, guard := _ }) rfl (fun K hK => ?_) LateAll.nil
        refine step_append1 rfl (.tmp 25) (.tmp 26) 26 3 rfl Tryz.underlying26 info_int rfl (by decide) JW65.out.oa HLF.out.2.1 B20W65.out.cell rfl (by simp [Act.eval]) (by simp [Act.eval]) ?_
        intro aa ka W66 ho9 hk9 hn9
        have JW66 := Lib.hid (JW65.out.appA ho9 hk9 hn9)
        have B26W66 := Lib.hid (B26W65.out.appA hk9 hn9)
        clear ho9 hk9 hn9
        have hHeld2 := HS.out JW66.out
        try simp only [Act.put, List.setIfInBounds_toArray, List.set_cons_zero, List.set_cons_succ]
        refine hK.out _ _ (fun _ => hHeld2) ?_
        clear hK K hHeld
        have hHeld := hHeld2
        clear hHeld2
        refine late_ready (rs := [27]) (by kernel_rfl) (by simp) ?_
        refine LateAll.cons (o := { dst := some 33, op := _, type := _, pos := _, after := _, guard := _ }) rfl (fun K hK => ?_) LateAll.nil
        refine step_append1 rfl (.tmp 31) (.tmp 32) 27 4 rfl Tryz.underlying27 info_boolR rfl (by decide) JW66.out.op HLF.out.2.2 B26W66.out.cell rfl (by simp [Act.eval]) (by simp [Act.eval]) ?_
        intro ap kp W67 ho9 hk9 hn9
        have JW67 := Lib.hid (JW66.out.appP ho9 hk9 hn9)
        clear ho9 hk9 hn9
        have hHeld2 := HS.out JW67.out
        try simp only [Act.put, List.setIfInBounds_toArray, List.set_cons_zero, List.set_cons_succ]
        refine hK.out _ _ (fun _ => hHeld2) ?_
        clear hK K hHeld
        have hHeld := hHeld2
        clear hHeld2
        exact late_li (by kernel_rfl) (HTAIL.out W67 _ _ _ _ _ _ _ _ _ JW67)
  · go_simp
    have hk9 : Keeps (fun _ => False) W0 (W0.alloc (.cells #[(.int .i64 0)] 3)) := (Keeps.refl (fun _ => False) W0).alloc _
    have JW68 := Lib.hid (J0.out.new hk9)
    have B20W68 := Lib.hid (J0.out.built (.int .i64 0) 3)
    clear hk9
    generalize hqW68 : W0.alloc (.cells #[(.int .i64 0)] 3) = W68 at *
    generalize hbW68 : W0.heap.size = b20 at *
    clear hqW68 hbW68
    have hHeld2 := HS.out JW68.out
    refine hK.out _ _ (fun _ => hHeld2) ?_
    clear hK K hHeld
    have hHeld := hHeld2
    clear hHeld2
    refine late_ready (rs := [13, 26]) (by kernel_rfl) (by simp) ?_
    refine LateAll.cons (o := { dst := some 19, op := _, type := _, pos := _, after := _, guard := _ }) rfl (fun K hK => ?_) (LateAll.cons (o := { dst := some 32, op := _, type := _, pos := _, after := _, guard := _ }) rfl (fun K hK => ?_) LateAll.nil)
    · go_simp
      refine (HP.out _).mono ?_
      rintro e W9 ⟨rfl, rfl⟩
      refine hK.out _ _ (fun _ => hHeld) ?_
      clear hK K
      refine late_ready (rs := [14, 26]) (by kernel_rfl) (by simp) ?_
      refine LateAll.cons (o := { dst := some 20, op := _, type := _, pos := _, after := _, guard := _ }) rfl (fun K hK => ?_) (LateAll.cons (o := { dst := some 32, op := _, type := _, pos := _, after := _, guard := _ }) rfl (fun K hK => ?_) LateAll.nil)
      · go_simp
        have hk9 : Keeps (fun _ => False) W68 (W68.alloc (.cells #[(.int .i64 (r : Int))] 3)) := (Keeps.refl (fun _ => False) W68).alloc _
        have JW69 := Lib.hid (JW68.out.new hk9)
        have B14W69 := Lib.hid (JW68.out.built (.int .i64 (r : Int)) 3)
        have B20W69 := Lib.hid (B20W68.out.new hk9)
        clear hk9
        generalize hqW69 : W68.alloc (.cells #[(.int .i64 (r : Int))] 3) = W69 at *
        generalize hbW69 : W68.heap.size = b14 at *
        clear hqW69 hbW69
        have hHeld2 := HS.out JW69.out
        refine hK.out _ _ (fun _ => hHeld2) ?_
        clear hK K hHeld
        have hHeld := hHeld2
        clear hHeld2
        refine late_ready (rs := [15, 26]) (by kernel_rfl) (by simp) ?_
        refine LateAll.cons (o := { dst := some 21, op := _, type := _, pos := _, after := _, guard := _ }) rfl (fun K hK => ?_) (LateAll.cons (o := { dst := some 32, op := _, type := _, pos := _, after := _, guard := _ }) rfl (fun K hK => ?_) LateAll.nil)
        · refine step_append1 rfl (.tmp 12) (.tmp 20) 26 3 rfl Tryz.underlying26 info_int rfl (by decide) JW69.out.of HLF.out.1 B14W69.out.cell rfl (by simp [Act.eval]) (by simp [Act.eval]) ?_
          intro af kf W70 ho9 hk9 hn9
          have JW70 := Lib.hid (JW69.out.appF ho9 hk9 hn9)
          have B20W70 := Lib.hid (B20W69.out.appF hk9 hn9)
          clear ho9 hk9 hn9
          have hHeld2 := HS.out JW70.out
          try simp only [Act.put, List.setIfInBounds_toArray, List.set_cons_zero, List.set_cons_succ]
          refine hK.out _ _ (fun _ => hHeld2) ?_
          clear hK K hHeld
          have hHeld := hHeld2
          clear hHeld2
          refine late_ready (rs := [21, 26]) (by kernel_rfl) (by simp) ?_
          refine LateAll.cons (o := { dst := some 27, op := _, type := _, pos := _, after := _, guard := _ }) rfl (fun K hK => ?_) (LateAll.cons (o := { dst := some 32, op := _, type := _, pos := _, after := _, guard := _ }) rfl (fun K hK => ?_) LateAll.nil)
          · refine step_append1 rfl (.tmp 25) (.tmp 26) 26 3 rfl Tryz.underlying26 info_int rfl (by decide) JW70.out.oa HLF.out.2.1 B20W70.out.cell rfl (by simp [Act.eval]) (by simp [Act.eval]) ?_
            intro aa ka W71 ho9 hk9 hn9
            have JW71 := Lib.hid (JW70.out.appA ho9 hk9 hn9)
            clear ho9 hk9 hn9
            have hHeld2 := HS.out JW71.out
            try simp only [Act.put, List.setIfInBounds_toArray, List.set_cons_zero, List.set_cons_succ]
            refine hK.out _ _ (fun _ => hHeld2) ?_
            clear hK K hHeld
            have hHeld := hHeld2
            clear hHeld2
            refine late_ready (rs := [26]) (by kernel_rfl) (by simp) ?_
            refine LateAll.cons (o := { dst := some 32, op := _, type := _, pos := _, after := _, guard := _ }) rfl (fun K hK => ?_) LateAll.nil
            go_simp
            have hk9 : Keeps (fun _ => False) W71 (W71.alloc (.cells #[(.bool false)] 4)) := (Keeps.refl (fun _ => False) W71).alloc _
            have JW72 := Lib.hid (JW71.out.new hk9)
            have B26W72 := Lib.hid (JW71.out.built (.bool false) 4)
            clear hk9
            generalize hqW72 : W71.alloc (.cells #[(.bool false)] 4) = W72 at *
            generalize hbW72 : W71.heap.size = b26 at *
            clear hqW72 hbW72
            have hHeld2 := HS.out JW72.out
            refine hK.out _ _ (fun _ => hHeld2) ?_
            clear hK K hHeld
            have hHeld := hHeld2
            clear hHeld2
            refine late_ready (rs := [27]) (by kernel_rfl) (by simp) ?_
            refine LateAll.cons (o := { dst := some 33, op := _, type := _, pos := _, after := _, guard := _ }) rfl (fun K hK => ?_) LateAll.nil
            refine step_append1 rfl (.tmp 31) (.tmp 32) 27 4 rfl Tryz.underlying27 info_boolR rfl (by decide) JW72.out.op HLF.out.2.2 B26W72.out.cell rfl (by simp [Act.eval]) (by simp [Act.eval]) ?_
            intro ap kp W73 ho9 hk9 hn9
            have JW73 := Lib.hid (JW72.out.appP ho9 hk9 hn9)
            clear ho9 hk9 hn9
            have hHeld2 := HS.out JW73.out
            try simp only [Act.put, List.setIfInBounds_toArray, List.set_cons_zero, List.set_cons_succ]
            refine hK.out _ _ (fun _ => hHeld2) ?_
            clear hK K hHeld
            have hHeld := hHeld2
            clear hHeld2
            exact late_li (by kernel_rfl) (HTAIL.out W73 _ _ _ _ _ _ _ _ _ JW73)
          · go_simp
            have hk9 : Keeps (fun _ => False) W70 (W70.alloc (.cells #[(.bool false)] 4)) := (Keeps.refl (fun _ => False) W70).alloc _
            have JW74 := Lib.hid (JW70.out.new hk9)
            have B26W74 := Lib.hid (JW70.out.built (.bool false) 4)
            have B20W74 := Lib.hid (B20W70.out.new hk9)
            clear hk9
            generalize hqW74 : W70.alloc (.cells #[(.bool false)] 4) = W74 at *
            generalize hbW74 : W70.heap.size = b26 at *
            clear hqW74 hbW74
            have hHeld2 := HS.out JW74.out
            refine hK.out _ _ (fun _ => hHeld2) ?_
            clear hK K hHeld
            have hHeld := hHeld2
            clear hHeld2
            refine late_ready (rs := [21]) (by kernel_rfl) (by simp) ?_
            refine LateAll.cons (o := { dst := some 27, op := _, type := _, pos := _, after := _, guard := _ }) rfl (fun K hK => ?_) LateAll.nil
            refine step_append1 rfl (.tmp 25) (.tmp 26) 26 3 rfl Tryz.underlying26 info_int rfl (by decide) JW74.out.oa HLF.out.2.1 B20W74.out.cell rfl (by simp [Act.eval]) (by simp [Act.eval]) ?_
            intro aa ka W75 ho9 hk9 hn9
            have JW75 := Lib.hid (JW74.out.appA ho9 hk9 hn9)
            have B26W75 := Lib.hid (B26W74.out.appA hk9 hn9)
            clear ho9 hk9 hn9
            have hHeld2 := HS.out JW75.out
            try simp only [Act.put, List.setIfInBounds_toArray, List.set_cons_zero, List.set_cons_succ]
            refine hK.out _ _ (fun _ => hHeld2) ?_
            clear hK K hHeld
            have hHeld := hHeld2
            clear hHeld2
            refine late_ready (rs := [27]) (by kernel_rfl) (by simp) ?_
            refine LateAll.cons (o := { dst := some 33, op := _, type := _, pos := _, after := _, guard := _ }) rfl (fun K hK => ?_) LateAll.nil
            refine step_append1 rfl (.tmp 31) (.tmp 32) 27 4 rfl Tryz.underlying27 info_boolR rfl (by decide) JW75.out.op HLF.out.2.2 B26W75.out.cell rfl (by simp [Act.eval]) (by simp [Act.eval]) ?_
            intro ap kp W76 ho9 hk9 hn9
            have JW76 := Lib.hid (JW75.out.appP ho9 hk9 hn9)
            clear ho9 hk9 hn9
            have hHeld2 := HS.out JW76.out
            try simp only [Act.put, List.setIfInBounds_toArray, List.set_cons_zero, List.set_cons_succ]
            refine hK.out _ _ (fun _ => hHeld2) ?_
            clear hK K hHeld
            have hHeld := hHeld2
            clear hHeld2
            exact late_li (by kernel_rfl) (HTAIL.out W76 _ _ _ _ _ _ _ _ _ JW76)
        · go_simp
          have hk9 : Keeps (fun _ => False) W69 (W69.alloc (.cells #[(.bool false)] 4)) := (Keeps.refl (fun _ => False) W69).alloc _
          have JW77 := Lib.hid (JW69.out.new hk9)
          have B26W77 := Lib.hid (JW69.out.built (.bool false) 4)
          have B20W77 := Lib.hid (B20W69.out.new hk9)
          have B14W77 := Lib.hid (B14W69.out.new hk9)
          clear hk9
          generalize hqW77 : W69.alloc (.cells #[(.bool false)] 4) = W77 at *
          generalize hbW77 : W69.heap.size = b26 at *
          clear hqW77 hbW77
          have hHeld2 := HS.out JW77.out
          refine hK.out _ _ (fun _ => hHeld2) ?_
          clear hK K hHeld
          have hHeld := hHeld2
          clear hHeld2
          refine late_ready (rs := [15]) (by kernel_rfl) (by simp) ?_
          refine LateAll.cons (o := { dst := some 21, op := _, type := _, pos := _, after := _, guard := _ }) rfl (fun K hK => ?_) LateAll.nil
          refine step_append1 rfl (.tmp 12) (.tmp 20) 26 3 rfl Tryz.underlying26 info_int rfl (by decide) JW77.out.of HLF.out.1 B14W77.out.cell rfl (by simp [Act.eval]) (by simp [Act.eval]) ?_
          intro af kf W78 ho9 hk9 hn9
          have JW78 := Lib.hid (JW77.out.appF ho9 hk9 hn9)
          have B20W78 := Lib.hid (B20W77.out.appF hk9 hn9)
          have B26W78 := Lib.hid (B26W77.out.appF hk9 hn9)
          clear ho9 hk9 hn9
          have hHeld2 := HS.out JW78.out
          try simp only [Act.put, List.setIfInBounds_toArray, List.set_cons_zero, List.set_cons_succ]
          refine hK.out _ _ (fun _ => hHeld2) ?_
          clear hK K hHeld
          have hHeld := hHeld2
          clear hHeld2
          refine late_ready (rs := [21]) (by kernel_rfl) (by simp) ?_
          refine LateAll.cons (o := { dst := some 27, op := _, type := _, pos := _, after := _, guard := _ }) rfl (fun K hK => ?_) LateAll.nil
          refine step_append1 rfl (.tmp 25) (.tmp 26) 26 3 rfl Tryz.underlying26 info_int rfl (by decide) JW78.out.oa HLF.out.2.1 B20W78.out.cell rfl (by simp [Act.eval]) (by simp [Act.eval]) ?_
          intro aa ka W79 ho9 hk9 hn9
          have JW79 := Lib.hid (JW78.out.appA ho9 hk9 hn9)
          have B26W79 := Lib.hid (B26W78.out.appA hk9 hn9)
          clear ho9 hk9 hn9
          have hHeld2 := HS.out JW79.out
          try simp only [Act.put, List.setIfInBounds_toArray, List.set_cons_zero, List.set_cons_succ]
          refine hK.out _ _ (fun _ => hHeld2) ?_
          clear hK K hHeld
          have hHeld := hHeld2
          clear hHeld2
          refine late_ready (rs := [27]) (by kernel_rfl) (by simp) ?_
          refine LateAll.cons (o := { dst := some 33, op := _, type := _, pos := _, after := _, guard := _ }) rfl (fun K hK => ?_) LateAll.nil
          refine step_append1 rfl (.tmp 31) (.tmp 32) 27 4 rfl Tryz.underlying27 info_boolR rfl (by decide) JW79.out.op HLF.out.2.2 B26W79.out.cell rfl (by simp [Act.eval]) (by simp [Act.eval]) ?_
          intro ap kp W80 ho9 hk9 hn9
          have JW80 := Lib.hid (JW79.out.appP ho9 hk9 hn9)
          clear ho9 hk9 hn9
          have hHeld2 := HS.out JW80.out
          try simp only [Act.put, List.setIfInBounds_toArray, List.set_cons_zero, List.set_cons_succ]
          refine hK.out _ _ (fun _ => hHeld2) ?_
          clear hK K hHeld
          have hHeld := hHeld2
          clear hHeld2
          exact late_li (by kernel_rfl) (HTAIL.out W80 _ _ _ _ _ _ _ _ _ JW80)
      · go_simp
        have hk9 : Keeps (fun _ => False) W68 (W68.alloc (.cells #[(.bool false)] 4)) := (Keeps.refl (fun _ => False) W68).alloc _
        have JW81 := Lib.hid (JW68.out.new hk9)
        have B26W81 := Lib.hid (JW68.out.built (.bool false) 4)
        have B20W81 := Lib.hid (B20W68.out.new hk9)
        clear hk9
        generalize hqW81 : W68.alloc (.cells #[(.bool false)] 4) = W81 at *
        generalize hbW81 : W68.heap.size = b26 at *
        clear hqW81 hbW81
        have hHeld2 := HS.out JW81.out
        refine hK.out _ _ (fun _ => hHeld2) ?_
        clear hK K hHeld
        have hHeld := hHeld2
        clear hHeld2
        refine late_ready (rs := [14]) (by kernel_rfl) (by simp) ?_
        refine LateAll.cons (o := { dst := some 20, op := _, type := _, pos := _, after := _, guard := _ }) rfl (fun K hK => ?_) LateAll.nil
        go_simp
        have hk9 : Keeps (fun _ => False) W81 (W81.alloc (.cells #[(.int .i64 (r : Int))] 3)) := (Keeps.refl (fun _ => False) W81).alloc _
        have JW82 := Lib.hid (JW81.out.new hk9)
        have B14W82 := Lib.hid (JW81.out.built (.int .i64 (r : Int)) 3)
        have B20W82 := Lib.hid (B20W81.out.new hk9)
        have B26W82 := Lib.hid (B26W81.out.new hk9)
        clear hk9
        generalize hqW82 : W81.alloc (.cells #[(.int .i64 (r : Int))] 3) = W82 at *
        generalize hbW82 : W81.heap.size = b14 at *
        clear hqW82 hbW82
        have hHeld2 := HS.out JW82.out
        refine hK.out _ _ (fun _ => hHeld2) ?_
        clear hK K hHeld
        have hHeld := hHeld2
        clear hHeld2
        refine late_ready (rs := [15]) (by kernel_rfl) (by simp) ?_
        refine LateAll.cons (o := { dst := some 21, op := _, type := _, pos := _, after := _, guard := _ }) rfl (fun K hK => ?_) LateAll.nil
        refine step_append1 rfl (.tmp 12) (.tmp 20) 26 3 rfl Tryz.underlying26 info_int rfl (by decide) JW82.out.of HLF.out.1 B14W82.out.cell rfl (by simp [Act.eval]) (by simp [Act.eval]) ?_
        intro af kf W83 ho9 hk9 hn9
        have JW83 := Lib.hid (JW82.out.appF ho9 hk9 hn9)
        have B20W83 := Lib.hid (B20W82.out.appF hk9 hn9)
        have B26W83 := Lib.hid (B26W82.out.appF hk9 hn9)
        clear ho9 hk9 hn9
        have hHeld2 := HS.out JW83.out
        try simp only [Act.put, List.setIfInBounds_toArray, List.set_cons_zero, List.set_cons_succ]
        refine hK.out _ _ (fun _ => hHeld2) ?_
        clear hK K hHeld
        have hHeld := hHeld2
        clear hHeld2
        refine late_ready (rs := [21]) (by kernel_rfl) (by simp) ?_
        refine LateAll.cons (o := { dst := some 27, op := _, type := _, pos := _, after := _, guard := _ }) rfl (fun K hK => ?_) LateAll.nil
        refine step_append1 rfl (.tmp 25) (.tmp 26) 26 3 rfl Tryz.underlying26 info_int rfl (by decide) JW83.out.oa HLF.out.2.1 B20W83.out.cell rfl (by simp [Act.eval]) (by simp [Act.eval]) ?_
        intro aa ka W84 ho9 hk9 hn9
        have JW84 := Lib.hid (JW83.out.appA ho9 hk9 hn9)
        have B26W84 := Lib.hid (B26W83.out.appA hk9 hn9)
        clear ho9 hk9 hn9
        have hHeld2 := HS.out JW84.out
        try simp only [Act.put, List.setIfInBounds_toArray, List.set_cons_zero, List.set_cons_succ]
        refine hK.out _ _ (fun _ => hHeld2) ?_
        clear hK K hHeld
        have hHeld := hHeld2
        clear hHeld2
        refine late_ready (rs := [27]) (by kernel_rfl) (by simp) ?_
        refine LateAll.cons (o := { dst := some 33, op := _, type := _, pos := _, after := _, guard := _ }) rfl (fun K hK => ?_) LateAll.nil
        refine step_append1 rfl (.tmp 31) (.tmp 32) 27 4 rfl Tryz.underlying27 info_boolR rfl (by decide) JW84.out.op HLF.out.2.2 B26W84.out.cell rfl (by simp [Act.eval]) (by simp [Act.eval]) ?_
        intro ap kp W85 ho9 hk9 hn9
        have JW85 := Lib.hid (JW84.out.appP ho9 hk9 hn9)
        clear ho9 hk9 hn9
        have hHeld2 := HS.out JW85.out
        try simp only [Act.put, List.setIfInBounds_toArray, List.set_cons_zero, List.set_cons_succ]
        refine hK.out _ _ (fun _ => hHeld2) ?_
        clear hK K hHeld
        have hHeld := hHeld2
        clear hHeld2
        exact late_li (by kernel_rfl) (HTAIL.out W85 _ _ _ _ _ _ _ _ _ JW85)
    · go_simp
      have hk9 : Keeps (fun _ => False) W68 (W68.alloc (.cells #[(.bool false)] 4)) := (Keeps.refl (fun _ => False) W68).alloc _
      have JW86 := Lib.hid (JW68.out.new hk9)
      have B26W86 := Lib.hid (JW68.out.built (.bool false) 4)
      have B20W86 := Lib.hid (B20W68.out.new hk9)
      clear hk9
      generalize hqW86 : W68.alloc (.cells #[(.bool false)] 4) = W86 at *
      generalize hbW86 : W68.heap.size = b26 at *
      clear hqW86 hbW86
      have hHeld2 := HS.out JW86.out
      refine hK.out _ _ (fun _ => hHeld2) ?_
      clear hK K hHeld
      have hHeld := hHeld2
      clear hHeld2
      refine late_ready (rs := [13]) (by kernel_rfl) (by simp) ?_
      refine LateAll.cons (o := { dst := some 19, op := _, type := _, pos := _, after := _, guard := _ }) rfl (fun K hK => ?_) LateAll.nil
      go_simp
      refine (HP.out _).mono ?_
      rintro e W9 ⟨rfl, rfl⟩
      refine hK.out _ _ (fun _ => hHeld) ?_
      clear hK K
      refine late_ready (rs := [14]) (by kernel_rfl) (by simp) ?_
      refine LateAll.cons (o := { dst := some 20, op := _, type := _, pos := _, after := _, guard := _ }) rfl (fun K hK => ?_) LateAll.nil
      go_simp
      have hk9 : Keeps (fun _ => False) W86 (W86.alloc (.cells #[(.int .i64 (r : Int))] 3)) := (Keeps.refl (fun _ => False) W86).alloc _
      have JW87 := Lib.hid (JW86.out.new hk9)
      have B14W87 := Lib.hid (JW86.out.built (.int .i64 (r : Int)) 3)
      have B20W87 := Lib.hid (B20W86.out.new hk9)
      have B26W87 := Lib.hid (B26W86.out.new hk9)
      clear hk9
      generalize hqW87 : W86.alloc (.cells #[(.int .i64 (r : Int))] 3) = W87 at *
      generalize hbW87 : W86.heap.size = b14 at *
      clear hqW87 hbW87
      have hHeld2 := HS.out JW87.out
      refine hK.out _ _ (fun _ => hHeld2) ?_
      clear hK K hHeld
      have hHeld := hHeld2
      clear hHeld2
      refine late_ready (rs := [15]) (by kernel_rfl) (by simp) ?_
      refine LateAll.cons (o := { dst := some 21, op := _, type := _, pos := _, after := _, guard := _ }) rfl (fun K hK => ?_) LateAll.nil
      refine step_append1 rfl (.tmp 12) (.tmp 20) 26 3 rfl Tryz.underlying26 info_int rfl (by decide) JW87.out.of HLF.out.1 B14W87.out.cell rfl (by simp [Act.eval]) (by simp [Act.eval]) ?_
      intro af kf W88 ho9 hk9 hn9
      have JW88 := Lib.hid (JW87.out.appF ho9 hk9 hn9)
      have B20W88 := Lib.hid (B20W87.out.appF hk9 hn9)
      have B26W88 := Lib.hid (B26W87.out.appF hk9 hn9)
      clear ho9 hk9 hn9
      have hHeld2 := HS.out JW88.out
      try simp only [Act.put, List.setIfInBounds_toArray, List.set_cons_zero, List.set_cons_succ]
      refine hK.out _ _ (fun _ => hHeld2) ?_
      clear hK K hHeld
      have hHeld := hHeld2
      clear hHeld2
      refine late_ready (rs := [21]) (by kernel_rfl) (by simp) ?_
      refine LateAll.cons (o := { dst := some 27, op := _, type := _, pos := _, after := _, guard := _ }) rfl (fun K hK => ?_) LateAll.nil
      refine step_append1 rfl (.tmp 25) (.tmp 26) 26 3 rfl Tryz.underlying26 info_int rfl (by decide) JW88.out.oa HLF.out.2.1 B20W88.out.cell rfl (by simp [Act.eval]) (by simp [Act.eval]) ?_
      intro aa ka W89 ho9 hk9 hn9
      have JW89 := Lib.hid (JW88.out.appA ho9 hk9 hn9)
      have B26W89 := Lib.hid (B26W88.out.appA hk9 hn9)
      clear ho9 hk9 hn9
      have hHeld2 := HS.out JW89.out
      try simp only [Act.put, List.setIfInBounds_toArray, List.set_cons_zero, List.set_cons_succ]
      refine hK.out _ _ (fun _ => hHeld2) ?_
      clear hK K hHeld
      have hHeld := hHeld2
      clear hHeld2
      refine late_ready (rs := [27]) (by kernel_rfl) (by simp) ?_
      refine LateAll.cons (o := { dst := some 33, op := _, type := _, pos := _, after := _, guard := _ }) rfl (fun K hK => ?_) LateAll.nil
      refine step_append1 rfl (.tmp 31) (.tmp 32) 27 4 rfl Tryz.underlying27 info_boolR rfl (by decide) JW89.out.op HLF.out.2.2 B26W89.out.cell rfl (by simp [Act.eval]) (by simp [Act.eval]) ?_
      intro ap kp W90 ho9 hk9 hn9
      have JW90 := Lib.hid (JW89.out.appP ho9 hk9 hn9)
      clear ho9 hk9 hn9
      have hHeld2 := HS.out JW90.out
      try simp only [Act.put, List.setIfInBounds_toArray, List.set_cons_zero, List.set_cons_succ]
      refine hK.out _ _ (fun _ => hHeld2) ?_
      clear hK K hHeld
      have hHeld := hHeld2
      clear hHeld2
      exact late_li (by kernel_rfl) (HTAIL.out W90 _ _ _ _ _ _ _ _ _ JW90)
  · go_simp
    have hk9 : Keeps (fun _ => False) W0 (W0.alloc (.cells #[(.bool false)] 4)) := (Keeps.refl (fun _ => False) W0).alloc _
    have JW91 := Lib.hid (J0.out.new hk9)
    have B26W91 := Lib.hid (J0.out.built (.bool false) 4)
    clear hk9
    generalize hqW91 : W0.alloc (.cells #[(.bool false)] 4) = W91 at *
    generalize hbW91 : W0.heap.size = b26 at *
    clear hqW91 hbW91
    have hHeld2 := HS.out JW91.out
    refine hK.out _ _ (fun _ => hHeld2) ?_
    clear hK K hHeld
    have hHeld := hHeld2
    clear hHeld2
    refine late_ready (rs := [13, 20]) (by kernel_rfl) (by simp) ?_
    refine LateAll.cons (o := { dst := some 19, op := _, type := _, pos := _, after := _, guard := _ }) rfl (fun K hK => ?_) (LateAll.cons (o := { dst := some 26, op := _, type := _, pos := _, after := _, guard := _ }) rfl (fun K hK => ?_) LateAll.nil)
    · go_simp
      refine (HP.out _).mono ?_
      rintro e W9 ⟨rfl, rfl⟩
      refine hK.out _ _ (fun _ => hHeld) ?_
      clear hK K
      refine late_ready (rs := [14, 20]) (by kernel_rfl) (by simp) ?_
      refine LateAll.cons (o := { dst := some 20, op := _, type := _, pos := _, after := _, guard := _ }) rfl (fun K hK => ?_) (LateAll.cons (o := { dst := some 26, op := _, type := _, pos := _, after := _, guard := _ }) rfl (fun K hK => ?_) LateAll.nil)
      · go_simp
        have hk9 : Keeps (fun _ => False) W91 (W91.alloc (.cells #[(.int .i64 (r : Int))] 3)) := (Keeps.refl (fun _ => False) W91).alloc _
        have JW92 := Lib.hid (JW91.out.new hk9)
        have B14W92 := Lib.hid (JW91.out.built (.int .i64 (r : Int)) 3)
        have B26W92 := Lib.hid (B26W91.out.new hk9)
        clear hk9
        generalize hqW92 : W91.alloc (.cells #[(.int .i64 (r : Int))] 3) = W92 at *
        generalize hbW92 : W91.heap.size = b14 at *
        clear hqW92 hbW92
        have hHeld2 := HS.out JW92.out
        refine hK.out _ _ (fun _ => hHeld2) ?_
        clear hK K hHeld
        have hHeld := hHeld2
        clear hHeld2
        refine late_ready (rs := [15, 20]) (by kernel_rfl) (by simp) ?_
        refine LateAll.cons (o := { dst := some 21, op := _, type := _, pos := _, after := _, guard := _ }) rfl (fun K hK => ?_) (LateAll.cons (o := { dst := some 26, op := _, type := _, pos := _, after := _, guard := _ }) rfl (fun K hK => ?_) LateAll.nil)
        · refine step_append1 rfl (.tmp 12) (.tmp 20) 26 3 rfl Tryz.underlying26 info_int rfl (by decide) JW92.out.of HLF.out.1 B14W92.out.cell rfl (by simp [Act.eval]) (by simp [Act.eval]) ?_
          intro af kf W93 ho9 hk9 hn9
          have JW93 := Lib.hid (JW92.out.appF ho9 hk9 hn9)
          have B26W93 := Lib.hid (B26W92.out.appF hk9 hn9)
          clear ho9 hk9 hn9
          have hHeld2 := HS.out JW93.out
          try simp only [Act.put, List.setIfInBounds_toArray, List.set_cons_zero, List.set_cons_succ]
          refine hK.out _ _ (fun _ => hHeld2) ?_
          clear hK K hHeld
          have hHeld := hHeld2
          clear hHeld2
          refine late_ready (rs := [20]) (by kernel_rfl) (by simp) ?_
          refine LateAll.cons (o := { dst := some 26, op := _, type := _, pos := _, after := _, guard := _ }) rfl (fun K hK => ?_) LateAll.nil
          go_simp
          have hk9 : Keeps (fun _ => False) W93 (W93.alloc (.cells #[(.int .i64 0)] 3)) := (Keeps.refl (fun _ => False) W93).alloc _
          have JW94 := Lib.hid (JW93.out.new hk9)
          have B20W94 := Lib.hid (JW93.out.built (.int .i64 0) 3)
          have B26W94 := Lib.hid (B26W93.out.new hk9)
          clear hk9
          generalize hqW94 : W93.alloc (.cells #[(.int .i64 0)] 3) = W94 at *
          generalize hbW94 : W93.heap.size = b20 at *
          clear hqW94 hbW94
          have hHeld2 := HS.out JW94.out
          refine hK.out _ _ (fun _ => hHeld2) ?_
          clear hK K hHeld
          have hHeld := hHeld2
          clear hHeld2
          refine late_ready (rs := [21]) (by kernel_rfl) (by simp) ?_
          refine LateAll.cons (o := { dst := some 27, op := _, type := _, pos := _, after := _, guard := _ }) rfl (fun K hK => ?_) LateAll.nil
          refine step_append1 rfl (.tmp 25) (.tmp 26) 26 3 rfl Tryz.underlying26 info_int rfl (by decide) JW94.out.oa HLF.out.2.1 B20W94.out.cell rfl (by simp [Act.eval]) (by simp [Act.eval]) ?_
          intro aa ka W95 ho9 hk9 hn9
          have JW95 := Lib.hid (JW94.out.appA ho9 hk9 hn9)
          have B26W95 := Lib.hid (B26W94.out.appA hk9 hn9)
          clear ho9 hk9 hn9
          have hHeld2 := HS.out JW95.out
          try simp only [Act.put, List.setIfInBounds_toArray, List.set_cons_zero, List.set_cons_succ]
          refine hK.out _ _ (fun _ => hHeld2) ?_
          clear hK K hHeld
          have hHeld := hHeld2
          clear hHeld2
          refine late_ready (rs := [27]) (by kernel_rfl) (by simp) ?_
          refine LateAll.cons (o := { dst := some 33, op := _, type := _, pos := _, after := _, guard := _ }) rfl (fun K hK => ?_) LateAll.nil
          refine step_append1 rfl (.tmp 31) (.tmp 32) 27 4 rfl Tryz.underlying27 info_boolR rfl (by decide) JW95.out.op HLF.out.2.2 B26W95.out.cell rfl (by simp [Act.eval]) (by simp [Act.eval]) ?_
          intro ap kp W96 ho9 hk9 hn9
          have JW96 := Lib.hid (JW95.out.appP ho9 hk9 hn9)
          clear ho9 hk9 hn9
          have hHeld2 := HS.out JW96.out
          try simp only [Act.put, List.setIfInBounds_toArray, List.set_cons_zero, List.set_cons_succ]
          refine hK.out _ _ (fun _ => hHeld2) ?_
          clear hK K hHeld
          have hHeld := hHeld2
          clear hHeld2
          exact late_li (by kernel_rfl) (HTAIL.out W96 _ _ _ _ _ _ _ _ _ JW96)
        · go_simp
          have hk9 : Keeps (fun _ => False) W92 (W92.alloc (.cells #[(.int .i64 0)] 3)) := (Keeps.refl (fun _ => False) W92).alloc _
          have JW97 := Lib.hid (JW92.out.new hk9)
          have B20W97 := Lib.hid (JW92.out.built (.int .i64 0) 3)
          have B26W97 := Lib.hid (B26W92.out.new hk9)
          have B14W97 := Lib.hid (B14W92.out.new hk9)
          clear hk9
          generalize hqW97 : W92.alloc (.cells #[(.int .i64 0)] 3) = W97 at *
          generalize hbW97 : W92.heap.size = b20 at *
          clear hqW97 hbW97
          have hHeld2 := HS.out JW97.out
          refine hK.out _ _ (fun _ => hHeld2) ?_
          clear hK K hHeld
          have hHeld := hHeld2
          clear hHeld2
          refine late_ready (rs := [15]) (by kernel_rfl) (by simp) ?_
          refine LateAll.cons (o := { dst := some 21, op := _, type := _, pos := _, after := _, guard := _ }) rfl (fun K hK => ?_) LateAll.nil
          refine step_append1 rfl (.tmp 12) (.tmp 20) 26 3 rfl Tryz.underlying26 info_int rfl (by decide) JW97.out.of HLF.out.1 B14W97.out.cell rfl (by simp [Act.eval]) (by simp [Act.eval]) ?_
          intro af kf W98 ho9 hk9 hn9
          have JW98 := Lib.hid (JW97.out.appF ho9 hk9 hn9)
          have B26W98 := Lib.hid (B26W97.out.appF hk9 hn9)
          have B20W98 := Lib.hid (B20W97.out.appF hk9 hn9)
          clear ho9 hk9 hn9
          have hHeld2 := HS.out JW98.out
          try simp only [Act.put, List.setIfInBounds_toArray, List.set_cons_zero, List.set_cons_succ]
          refine hK.out _ _ (fun _ => hHeld2) ?_
          clear hK K hHeld
          have hHeld := hHeld2
          clear hHeld2
          refine late_ready (rs := [21]) (by kernel_rfl) (by simp) ?_
          refine LateAll.cons (o := { dst := some 27, op := _, type := _, pos := _, after := _, guard := _ }) rfl (fun K hK => ?_) LateAll.nil
          refine step_append1 rfl (.tmp 25) (.tmp 26) 26 3 rfl Tryz.underlying26 info_int rfl (by decide) JW98.out.oa HLF.out.2.1 B20W98.out.cell rfl (by simp [Act.eval]) (by simp [Act.eval]) ?_
          intro aa ka W99 ho9 hk9 hn9
          have JW99 := Lib.hid (JW98.out.appA ho9 hk9 hn9)
          have B26W99 := Lib.hid (B26W98.out.appA hk9 hn9)
          clear ho9 hk9 hn9
          have hHeld2 := HS.out JW99.out
          try simp only [Act.put, List.setIfInBounds_toArray, List.set_cons_zero, List.set_cons_succ]
          refine hK.out _ _ (fun _ => hHeld2) ?_
          clear hK K hHeld
          have hHeld := hHeld2
          clear hHeld2
          refine late_ready (rs := [27]) (by kernel_rfl) (by simp) ?_
          refine LateAll.cons (o := { dst := some 33, op := _, type := _, pos := _, after := _, guard := _ }) rfl (fun K hK => ?_) LateAll.nil
          refine step_append1 rfl (.tmp 31) (.tmp 32) 27 4 rfl Tryz.underlying27 info_boolR rfl (by decide) JW99.out.op HLF.out.2.2 B26W99.out.cell rfl (by simp [Act.eval]) (by simp [Act.eval]) ?_
          intro ap kp W100 ho9 hk9 hn9
          have JW100 := Lib.hid (JW99.out.appP ho9 hk9 hn9)
          clear ho9 hk9 hn9
          have hHeld2 := HS.out JW100.out
          try simp only [Act.put, List.setIfInBounds_toArray, List.set_cons_zero, List.set_cons_succ]
          refine hK.out _ _ (fun _ => hHeld2) ?_
          clear hK K hHeld
          have hHeld := hHeld2
          clear hHeld2
          exact late_li (by kernel_rfl) (HTAIL.out W100 _ _ _ _ _ _ _ _ _ JW100)
      · go_simp
        have hk9 : Keeps (fun _ => False) W91 (W91.alloc (.cells #[(.int .i64 0)] 3)) := (Keeps.refl (fun _ => False) W91).alloc _
        have JW101 := Lib.hid (JW91.out.new hk9)
        have B20W101 := Lib.hid (JW91.out.built (.int .i64 0) 3)
        have B26W101 := Lib.hid (B26W91.out.new hk9)
        clear hk9
        generalize hqW101 : W91.alloc (.cells #[(.int .i64 0)] 3) = W101 at *
        generalize hbW101 : W91.heap.size = b20 at *
        clear hqW101 hbW101
        have hHeld2 := HS.out JW101.out
        refine hK.out _ _ (fun _ => hHeld2) ?_
        clear hK K hHeld
        have hHeld := hHeld2
        clear hHeld2
        refine late_ready (rs := [14]) (by kernel_rfl) (by simp) ?_
        refine LateAll.cons (o := { dst := some 20, op := _, type := _, pos := _, after := _, guard := _ }) rfl (fun K hK => ?_) LateAll.nil
        go_simp
        have hk9 : Keeps (fun _ => False) W101 (W101.alloc (.cells #[(.int .i64 (r : Int))] 3)) := (Keeps.refl (fun _ => False) W101).alloc _
        have JW102 := Lib.hid (JW101.out.new hk9)
        have B14W102 := Lib.hid (JW101.out.built (.int .i64 (r : Int)) 3)
        have B26W102 := Lib.hid (B26W101.out.new hk9)
        have B20W102 := Lib.hid (B20W101.out.new hk9)
        clear hk9
        generalize hqW102 : W101.alloc (.cells #[(.int .i64 (r : Int))] 3) = W102 at *
        generalize hbW102 : W101.heap.size = b14 at *
        clear hqW102 hbW102
        have hHeld2 := HS.out JW102.out
        refine hK.out _ _ (fun _ => hHeld2) ?_
        clear hK K hHeld
        have hHeld := hHeld2
        clear hHeld2
        refine late_ready (rs := [15]) (by kernel_rfl) (by simp) ?_
        refine LateAll.cons (o := { dst := some 21, op := _, type := _, pos := _, after := _, guard := _ }) rfl (fun K hK => ?_) LateAll.nil
        refine step_append1 rfl (.tmp 12) (.tmp 20) 26 3 rfl Tryz.underlying26 info_int rfl (by decide) JW102.out.of HLF.out.1 B14W102.out.cell rfl (by simp [Act.eval]) (by simp [Act.eval]) ?_
        intro af kf W103 ho9 hk9 hn9
        have JW103 := Lib.hid (JW102.out.appF ho9 hk9 hn9)
        have B26W103 := Lib.hid (B26W102.out.appF hk9 hn9)
        have B20W103 := Lib.hid (B20W102.out.appF hk9 hn9)
        clear ho9 hk9 hn9
        have hHeld2 := HS.out JW103.out
        try simp only [Act.put, List.setIfInBounds_toArray, List.set_cons_zero, List.set_cons_succ]
        refine hK.out _ _ (fun _ => hHeld2) ?_
        clear hK K hHeld
        have hHeld := hHeld2
        clear hHeld2
        refine late_ready (rs := [21]) (by kernel_rfl) (by simp) ?_
        refine LateAll.cons (o := { dst := some 27, op := _, type := _, pos := _, after := _, guard := _ }) rfl (fun K hK => ?_) LateAll.nil
        refine step_append1 rfl (.tmp 25) (.tmp 26) 26 3 rfl Tryz.underlying26 info_int rfl (by decide) JW103.out.oa HLF.out.2.1 B20W103.out.cell rfl (by simp [Act.eval]) (by simp [Act.eval]) ?_
        intro aa ka W104 ho9 hk9 hn9
        have JW104 := Lib.hid (JW103.out.appA ho9 hk9 hn9)
        have B26W104 := Lib.hid (B26W103.out.appA hk9 hn9)
        clear ho9 hk9 hn9
        have hHeld2 := HS.out JW104.out
        try simp only [Act.put, List.setIfInBounds_toArray, List.set_cons_zero, List.set_cons_succ]
        refine hK.out _ _ (fun _ => hHeld2) ?_
        clear hK K hHeld
        have hHeld := hHeld2
        clear hHeld2
        refine late_ready (rs := [27]) (by kernel_rfl) (by simp) ?_
        refine LateAll.cons (o := { dst := some 33, op := _, type := _, pos := _, after := _, guard := _ }) rfl (fun K hK => ?_) LateAll.nil
        refine step_append1 rfl (.tmp 31) (.tmp 32) 27 4 rfl Tryz.underlying27 info_boolR rfl (by decide) JW104.out.op HLF.out.2.2 B26W104.out.cell rfl (by simp [Act.eval]) (by simp [Act.eval]) ?_
        intro ap kp W105 ho9 hk9 hn9
        have JW105 := Lib.hid (JW104.out.appP ho9 hk9 hn9)
        clear ho9 hk9 hn9
        have hHeld2 := HS.out JW105.out
        try simp only [Act.put, List.setIfInBounds_toArray, List.set_cons_zero, List.set_cons_succ]
        refine hK.out _ _ (fun _ => hHeld2) ?_
        clear hK K hHeld
        have hHeld := hHeld2
        clear hHeld2
        exact late_li (by kernel_rfl) (HTAIL.out W105 _ _ _ _ _ _ _ _ _ JW105)
    · go_simp
      have hk9 : Keeps (fun _ => False) W91 (W91.alloc (.cells #[(.int .i64 0)] 3)) := (Keeps.refl (fun _ => False) W91).alloc _
      have JW106 := Lib.hid (JW91.out.new hk9)
      have B20W106 := Lib.hid (JW91.out.built (.int .i64 0) 3)
      have B26W106 := Lib.hid (B26W91.out.new hk9)
      clear hk9
      generalize hqW106 : W91.alloc (.cells #[(.int .i64 0)] 3) = W106 at *
      generalize hbW106 : W91.heap.size = b20 at *
      clear hqW106 hbW106
      have hHeld2 := HS.out JW106.out
      refine hK.out _ _ (fun _ => hHeld2) ?_
      clear hK K hHeld
      have hHeld := hHeld2
      clear hHeld2
      refine late_ready (rs := [13]) (by kernel_rfl) (by simp) ?_
      refine LateAll.cons (o := { dst := some 19, op := _, type := _, pos := _, after := _, guard := _ }) rfl (fun K hK => ?_) LateAll.nil
      go_simp
      refine (HP.out _).mono ?_
      rintro e W9 ⟨rfl, rfl⟩
      refine hK.out _ _ (fun _ => hHeld) ?_
      clear hK K
      refine late_ready (rs := [14]) (by kernel_rfl) (by simp) ?_
      refine LateAll.cons (o := { dst := some 20, op := _, type := _, pos := _, after := _, guard := _ }) rfl (fun K hK => ?_) LateAll.nil
      go_simp
      have hk9 : Keeps (fun _ => False) W106 (W106.alloc (.cells #[(.int .i64 (r : Int))] 3)) := (Keeps.refl (fun _ => False) W106).alloc _
      have JW107 := Lib.hid (JW106.out.new hk9)
      have B14W107 := Lib.hid (JW106.out.built (.int .i64 (r : Int)) 3)
      have B26W107 := Lib.hid (B26W106.out.new hk9)
      have B20W107 := Lib.hid (B20W106.out.new hk9)
      clear hk9
      generalize hqW107 : W106.alloc (.cells #[(.int .i64 (r : Int))] 3) = W107 at *
      generalize hbW107 : W106.heap.size = b14 at *
      clear hqW107 hbW107
      have hHeld2 := HS.out JW107.out
      refine hK.out _ _ (fun _ => hHeld2) ?_
      clear hK K hHeld
      have hHeld := hHeld2
      clear hHeld2
      refine late_ready (rs := [15]) (by kernel_rfl) (by simp) ?_
      refine LateAll.cons (o := { dst := some 21, op := _, type := _, pos := _, after := _, guard := _ }) rfl (fun K hK => ?_) LateAll.nil
      refine step_append1 rfl (.tmp 12) (.tmp 20) 26 3 rfl Tryz.underlying26 info_int rfl (by decide) JW107.out.of HLF.out.1 B14W107.out.cell rfl (by simp [Act.eval]) (by simp [Act.eval]) ?_
      intro af kf W108 ho9 hk9 hn9
      have JW108 := Lib.hid (JW107.out.appF ho9 hk9 hn9)
      have B26W108 := Lib.hid (B26W107.out.appF hk9 hn9)
      have B20W108 := Lib.hid (B20W107.out.appF hk9 hn9)
      clear ho9 hk9 hn9
      have hHeld2 := HS.out JW108.out
      try simp only [Act.put, List.setIfInBounds_toArray, List.set_cons_zero, List.set_cons_succ]
      refine hK.out _ _ (fun _ => hHeld2) ?_
      clear hK K hHeld
      have hHeld := hHeld2
      clear hHeld2
      refine late_ready (rs := [21]) (by kernel_rfl) (by simp) ?_
      refine LateAll.cons (o := { dst := some 27, op := _, type := _, pos := _, after := _, guard := _ }) rfl (fun K hK => ?_) LateAll.nil
      refine step_append1 rfl (.tmp 25) (.tmp 26) 26 3 rfl Tryz.underlying26 info_int rfl (by decide) JW108.out.oa HLF.out.2.1 B20W108.out.cell rfl (by simp [Act.eval]) (by simp [Act.eval]) ?_
      intro aa ka W109 ho9 hk9 hn9
      have JW109 := Lib.hid (JW108.out.appA ho9 hk9 hn9)
      have B26W109 := Lib.hid (B26W108.out.appA hk9 hn9)
      clear ho9 hk9 hn9
      have hHeld2 := HS.out JW109.out
      try simp only [Act.put, List.setIfInBounds_toArray, List.set_cons_zero, List.set_cons_succ]
      refine hK.out _ _ (fun _ => hHeld2) ?_
      clear hK K hHeld
      have hHeld := hHeld2
      clear hHeld2
      refine late_ready (rs := [27]) (by kernel_rfl) (by simp) ?_
      refine LateAll.cons (o := { dst := some 33, op := _, type := _, pos := _, after := _, guard := _ }) rfl (fun K hK => ?_) LateAll.nil
      refine step_append1 rfl (.tmp 31) (.tmp 32) 27 4 rfl Tryz.underlying27 info_boolR rfl (by decide) JW109.out.op HLF.out.2.2 B26W109.out.cell rfl (by simp [Act.eval]) (by simp [Act.eval]) ?_
      intro ap kp W110 ho9 hk9 hn9
      have JW110 := Lib.hid (JW109.out.appP ho9 hk9 hn9)
      clear ho9 hk9 hn9
      have hHeld2 := HS.out JW110.out
      try simp only [Act.put, List.setIfInBounds_toArray, List.set_cons_zero, List.set_cons_succ]
      refine hK.out _ _ (fun _ => hHeld2) ?_
      clear hK K hHeld
      have hHeld := hHeld2
      clear hHeld2
      exact late_li (by kernel_rfl) (HTAIL.out W110 _ _ _ _ _ _ _ _ _ JW110)
end Go.Proofs.YtnjdmijcoadidaaGreatDoor

namespace Go.Proofs.YtnjdmijcoadidaaGreatDoor
open Go.RowKit Go.Maps Pp

/-- Asks, to be read. -/
def AsksAt (w : World) (v : Value) (l : List Rm.Ask) : Prop :=
  ∃ ao cap, v = .slice ao l.length cap ∧ l.length ≤ cap ∧ cap ≤ maxLen ∧ (0 < l.length → ∃ b o, ao = some ⟨b, o, none⟩ ∧ b < w.heap.size ∧
    ∀ (i : Nat) a, l[i]? = some a → ∃ va vc, w.cell? ⟨b, o + i * 4, none⟩ = some (.int .i64 a.what) ∧ w.cell? ⟨b, o + i * 4 + 1, none⟩ = some (.int .i64 a.n) ∧ w.cell? ⟨b, o + i * 4 + 2, none⟩ = some va ∧ w.cell? ⟨b, o + i * 4 + 3, none⟩ = some vc ∧ AskSays w va vc a ∧
      (∀ g, Held a va vc g → g < w.heap.size))
/-- A script, to be read. -/
def ScAt (w : World) (sv : Value) (Sc : List (List Rm.Ask)) : Prop :=
  ∃ ao cap, sv = .slice ao Sc.length cap ∧ Sc.length ≤ cap ∧ cap ≤ maxLen ∧ (0 < Sc.length → ∃ b o, ao = some ⟨b, o, none⟩ ∧ b < w.heap.size ∧ ∀ (i : Nat) l, Sc[i]? = some l → ∃ v, w.cell? ⟨b, o + i, none⟩ = some v ∧ AsksAt w v l)
theorem askSays_below {w w' : World} {B : Nat} {va vc : Value} {a : Rm.Ask} (h : AskSays w va vc a) (hb : Below B w w') (hB : w.heap.size ≤ B) : AskSays w' va vc a :=
  h.keeps (Keeps.of_new (S := fun _ => False) (hb.mono hB)) fun _ _ => id
theorem AsksAt.below {w w' : World} {v : Value} {l : List Rm.Ask} (h : AsksAt w v l) (hb : Below w.heap.size w w') : AsksAt w' v l := by
  obtain ⟨ao, cap, h1, h2, h3, h4⟩ := h
  refine ⟨ao, cap, h1, h2, h3, fun h0 => ?_⟩
  obtain ⟨b, o, h5, h6, h7⟩ := h4 h0
  refine ⟨b, o, h5, Nat.lt_of_lt_of_le h6 hb.size, fun i a ha => ?_⟩
  obtain ⟨va, vc, c0, c1, c2, c3, hs, hg⟩ := h7 i a ha
  exact ⟨va, vc, (hb.cell (p := ⟨b, _, none⟩) h6).trans c0, (hb.cell (p := ⟨b, _, none⟩) h6).trans c1, (hb.cell (p := ⟨b, _, none⟩) h6).trans c2, (hb.cell (p := ⟨b, _, none⟩) h6).trans c3, askSays_below hs hb (Nat.le_refl _), fun g hg' => Nat.lt_of_lt_of_le (hg g hg') hb.size⟩
theorem ScAt.below {w w' : World} {sv : Value} {Sc : List (List Rm.Ask)} (h : ScAt w sv Sc) (hb : Below w.heap.size w w') : ScAt w' sv Sc := by
  obtain ⟨ao, cap, h1, h2, h3, h4⟩ := h
  refine ⟨ao, cap, h1, h2, h3, fun h0 => ?_⟩
  obtain ⟨b, o, h5, h6, h7⟩ := h4 h0
  refine ⟨b, o, h5, Nat.lt_of_lt_of_le h6 hb.size, fun i l hl => ?_⟩
  obtain ⟨v, c0, hs⟩ := h7 i l hl
  exact ⟨v, (hb.cell (p := ⟨b, _, none⟩) h6).trans c0, hs.below hb⟩
section
variable {Sc : List (List Rm.Ask)} {pb : Nat} {sv : Value} {w w' : World} {F G S : Nat → Prop} {d : Py}
/-- Whether one paused. -/
theorem PyAt.setPaused (h : PyAt Sc pb sv w F d) {vp : Value} {g cap : Nat} (c3 : w.cell? ⟨pb, 3, none⟩ = some vp) (hv : vp = .slice (some ⟨g, 0, none⟩) d.paused.length cap) (t : Nat) (x : Bool) (n : Nat) (hn : d.cnt ≤ n) :
    PyAt Sc pb sv (w.setCell ⟨g, t, none⟩ (.bool x)) F ⟨d.fns, d.ats, d.paused.set t x, n⟩ ∧ Keeps F w (w.setCell ⟨g, t, none⟩ (.bool x)) := by
  obtain ⟨vf, va, vp', c1, c2, c3', o1, o2, o3, f1, f2, f3, hd⟩ := h.ex
  obtain rfl : vp = vp' := by rw [c3] at c3'; injection c3'
  have hk : Keeps (fun b => b = g) w (w.setCell ⟨g, t, none⟩ (.bool x)) := (Keeps.refl (fun b => b = g) w).setCell (p := ⟨g, t, none⟩) (Or.inl rfl) _
  have hg := f3 g (by rw [hv]; rfl)
  have hne : ¬ pb = g := fun e => hg.2 e.symm
  refine ⟨⟨hk.cell_of h.c0 hne, ⟨vf, va, vp, hk.cell_of c1 hne, hk.cell_of c2 hne, hk.cell_of c3 hne, hk.row o1 fun b hb e => own_apart o1 o3 (by decide) b hb (by rw [hv, show b = g from e]; rfl), hk.row o2 fun b hb e => own_apart o2 o3 (by decide) b hb (by rw [hv, show b = g from e]; rfl), ?_, f1, f2, f3, hd⟩, fun j => ?_, h.fp, fun b hb => by rw [World.size_setCell]; exact h.fl b hb, h.la, ?_, h.fn, fun a ha => Nat.le_trans (h.le a ha) hn⟩, hk.mono fun b _ e => by rw [e]; exact hg.1⟩
  · show (w.setCell ⟨g, t, none⟩ (.bool x)).ownsRow 0 4 1 vp (d.paused.set t x).length ((d.paused.set t x).map .bool)
    rw [List.length_set, List.map_set]
    rw [hv] at o3 ⊢
    exact own_setG o3 _
  · rw [World.frozen?_setCell]; exact h.z j
  · show (d.paused.set t x).length = _
    rw [List.length_set]; exact h.lp
end
end Go.Proofs.YtnjdmijcoadidaaGreatDoor
