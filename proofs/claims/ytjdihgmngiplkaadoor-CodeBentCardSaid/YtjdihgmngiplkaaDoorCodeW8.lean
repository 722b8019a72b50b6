/-
  The walk of package code's readParts.
-/
import Derived.Test.YtjdihgmngiplkaaDoorCodeW7
namespace Go.Proofs.YtjdihgmngiplkaaDoor
open Go.RowKit Cd

theorem info_fn : (Tryd.prog.info? 47).map (fun i => (i.zero, i.size, i.bytes)) = some (some (.agg #[.int .i64 0, .slice none 0 0, .int .i64 0, .slice none 0 0]), 4, 64) := by kernel_rfl
/-- Two rows of different types lie in different blocks. -/
theorem rows_apart {w : World} {B B' : Nat} {t t' : TypeId} {n n' : Nat} {v v' : Value} {m m' : Nat} {cs cs' : List Value} (h : w.ownsRow B t n v m cs) (h' : w.ownsRow B' t' n' v' m' cs') (ht : t ≠ t') : ∀ b, v.ownBlock = some b → ¬ v'.ownBlock = some b := fun b hb hb' => by
  rcases h.2 with ⟨rfl, _⟩ | ⟨g, cap, cur, rfl, _, hg, _⟩
  · cases hb
  · rcases h'.2 with ⟨rfl, _⟩ | ⟨g', cap', cur', rfl, _, hg', _⟩
    · cases hb'
    · cases hb
      have e : g' = g := Option.some.inj hb'
      subst e
      rw [hg] at hg'
      injection hg' with hg'
      injection hg' with _ e2
      exact ht e2
/-- A function that was read: it, and the slices that it holds. -/
abbrev Fr := FnV × Value × Value
def cellsT (L : List Fr) : List Value := L.flatMap fun x => [.int .i64 x.1.params, x.2.1, .int .i64 x.1.kind, x.2.2]
theorem cellsT_snoc (L : List Fr) (x : Fr) : cellsT L ++ [.int .i64 x.1.params, x.2.1, .int .i64 x.1.kind, x.2.2] = cellsT (L ++ [x]) := by simp [cellsT]
theorem cellsT_length (L : List Fr) : (cellsT L).length = L.length * 4 := by
  induction L with
  | nil => rfl
  | cons p ps ih => simp only [cellsT, List.flatMap_cons, List.length_append, List.length_cons, List.length_nil] at ih ⊢; omega
theorem cellsT_get : ∀ (L : List Fr) (i : Nat) (x : Fr), L[i]? = some x → (cellsT L)[i * 4]? = some (.int .i64 x.1.params) ∧ (cellsT L)[i * 4 + 1]? = some x.2.1 ∧ (cellsT L)[i * 4 + 2]? = some (.int .i64 x.1.kind) ∧ (cellsT L)[i * 4 + 3]? = some x.2.2
  | [], _, _, h => by cases h
  | y :: L, 0, x, h => by cases h; exact ⟨rfl, rfl, rfl, rfl⟩
  | y :: L, i + 1, x, h => by
    have := cellsT_get L i x (by simpa using h)
    have e : cellsT (y :: L) = .int .i64 y.1.params :: y.2.1 :: .int .i64 y.1.kind :: y.2.2 :: cellsT L := rfl
    rw [e]
    refine ⟨?_, ?_, ?_, ?_⟩
    · rw [show (i + 1) * 4 = i * 4 + 1 + 1 + 1 + 1 by omega]; simpa using this.1
    · rw [show (i + 1) * 4 + 1 = i * 4 + 1 + 1 + 1 + 1 + 1 by omega]; simpa using this.2.1
    · rw [show (i + 1) * 4 + 2 = i * 4 + 2 + 1 + 1 + 1 + 1 by omega]; simpa using this.2.2.1
    · rw [show (i + 1) * 4 + 3 = i * 4 + 3 + 1 + 1 + 1 + 1 by omega]; simpa using this.2.2.2
/-- What a function holds lies in rows of the call's own. -/
def FrO (W : World) (B : Nat) (x : Fr) : Prop := W.ownsRow B 3 1 x.2.1 x.1.locals.length (cellsL x.1.locals) ∧ W.ownsRow B 55 2 x.2.2 x.1.code.length (cellsN x.1.code)
theorem FrO.keeps {W W' : World} {B : Nat} {x : Fr} {S : Nat → Prop} (h : FrO W B x) (hk : Keeps S W W') (h1 : ∀ b, x.2.1.ownBlock = some b → ¬ S b) (h2 : ∀ b, x.2.2.ownBlock = some b → ¬ S b) : FrO W' B x := ⟨hk.row h.1 h1, hk.row h.2 h2⟩
theorem rows_fns {W : World} {B n : Nat} {v : Value} {L : List Fr} (h : W.ownsRow B 47 4 v n (cellsT L)) (he : ∀ x ∈ L, FrO W B x) : FnsAt W v (L.map fun x => x.1) := by
  have hl : L.length = n := by have := h.1; rw [cellsT_length] at this; omega
  have hc := h
  rcases h.2 with ⟨rfl, h0⟩ | ⟨g, cap, cur, rfl, hb, hg, h3, h4, h5, h6⟩
  · obtain rfl : L = [] := List.eq_nil_of_length_eq_zero (by omega)
    exact fnsAt_nil W
  · refine ⟨_, _, _, rfl, by rw [List.length_map]; exact hl.symm, h3, h4, fun _ => ⟨g, 0, rfl, (Array.getElem?_eq_some_iff.1 hg).1, fun i f hi => ?_⟩⟩
    rw [List.getElem?_map] at hi
    obtain ⟨x, hx, rfl⟩ := Option.map_eq_some_iff.1 hi
    obtain ⟨e1, e2, e3, e4⟩ := cellsT_get L i x hx
    have f1 := World.ownsRow.cells hc (g := g) rfl _ _ e1
    have f2 := World.ownsRow.cells hc (g := g) rfl _ _ e2
    have f3 := World.ownsRow.cells hc (g := g) rfl _ _ e3
    have f4 := World.ownsRow.cells hc (g := g) rfl _ _ e4
    rw [addr0] at f1 f2 f3 f4
    have hm := he x (List.mem_of_getElem? hx)
    rw [Nat.zero_add]
    exact ⟨f1, ⟨_, f2, own_ints hm.1⟩, f3, _, f4, own_ins hm.2⟩

/-- Where readParts stands. -/
structure PaJ (w W : World) (rb pb z : Nat) (g : Int) (vf : Value) (L : List Fr) : Prop where
  br : ∃ s r, RdB W rb s r
  bp : BlkO W pb [.int .i64 g, vf]
  bz : BlkO W z [.int .i64 0, .slice none 0 0]
  own : W.ownsRow (rb + 1) 47 4 vf L.length (cellsT L)
  each : ∀ x ∈ L, FrO W (rb + 1) x
  kp : Keeps (fun _ => False) w W
  lt1 : w.heap.size ≤ z
  lt2 : z < pb
  lt3 : pb < rb
namespace PaJ
variable {w W W' : World} {rb pb z : Nat} {g : Int} {vf : Value} {L : List Fr}
theorem cell0 (h : PaJ w W rb pb z g vf L) : W.cell? ⟨pb, 0, none⟩ = some (.int .i64 g) := h.bp.at_ 0 _ rfl
theorem cell1 (h : PaJ w W rb pb z g vf L) : W.cell? ⟨pb, 1, none⟩ = some vf := h.bp.at_ 1 _ rfl
theorem ge (h : PaJ w W rb pb z g vf L) : ∀ b, vf.ownBlock = some b → rb + 1 ≤ b ∧ b < W.heap.size := fun b e => World.ownsRow.lt h.own b e
theorem ltz (h : PaJ w W rb pb z g vf L) : rb < W.heap.size := by obtain ⟨_, _, hr⟩ := h.br; exact hr.blk.lt
/-- What is done to the reader's block alone. -/
theorem read (h : PaJ w W rb pb z g vf L) {s : ByteArray} {r : Rd} (hr : RdB W' rb s r) (hk : Keeps (fun b => b = rb) W W') : PaJ w W' rb pb z g vf L :=
  have h1 := h.lt1
  have h2 := h.lt2
  have h3 := h.lt3
  ⟨⟨s, r, hr⟩, h.bp.keeps hk (by omega), h.bz.keeps hk (by omega), hk.row h.own (fun b e => by have := (h.ge b e).1; omega), fun x hx => (h.each x hx).keeps hk (fun b e => by have := (World.ownsRow.lt (h.each x hx).1 b e).1; omega) (fun b e => by have := (World.ownsRow.lt (h.each x hx).2 b e).1; omega),
    h.kp.trans' hk (fun b hb e => by have h9 : b = rb := e; omega), h1, h2, h3⟩
theorem fresh (h : PaJ w W rb pb z g vf L) (hk : Keeps (fun _ => False) W W') : PaJ w W' rb pb z g vf L :=
  ⟨by obtain ⟨s, r, hr⟩ := h.br; exact ⟨s, r, hr.keeps hk id⟩, h.bp.keeps hk id, h.bz.keeps hk id, hk.row h.own (fun _ _ => id), fun x hx => (h.each x hx).keeps hk (fun _ _ => id) (fun _ _ => id), h.kp.trans hk, h.lt1, h.lt2, h.lt3⟩
theorem setG (h : PaJ w W rb pb z g vf L) (x : Int) : PaJ w (W.setCell ⟨pb, 0, none⟩ (.int .i64 x)) rb pb z x vf L :=
  have hk := own_set W pb 0 (.int .i64 x)
  have h1 := h.lt1
  have h2 := h.lt2
  have h3 := h.lt3
  ⟨by obtain ⟨s, r, hr⟩ := h.br; exact ⟨s, r, hr.keeps hk (by omega)⟩, h.bp.set 0 (.int .i64 x) (show 0 < 2 by decide), h.bz.keeps hk (by omega), hk.row h.own (fun b e => by have := (h.ge b e).1; omega), fun y hy => (h.each y hy).keeps hk (fun b e => by have := (World.ownsRow.lt (h.each y hy).1 b e).1; omega) (fun b e => by have := (World.ownsRow.lt (h.each y hy).2 b e).1; omega),
    h.kp.trans' hk (fun b hb e => by have h9 : b = pb := e; omega), h1, h2, h3⟩
/-- One function more. -/
theorem grow {vf' : Value} {x : Fr} (h : PaJ w W rb pb z g vf L) (hx : FrO W (rb + 1) x) (ho : W'.ownsRow (rb + 1) 47 4 vf' (L.length + 1) (cellsT L ++ [.int .i64 x.1.params, x.2.1, .int .i64 x.1.kind, x.2.2])) (hk : Keeps (fun b => vf.ownBlock = some b) W W') :
    PaJ w (W'.setCell ⟨pb, 1, none⟩ vf') rb pb z g vf' (L ++ [x]) :=
  have hs := own_set W' pb 1 vf'
  have h1 := h.lt1
  have h2 := h.lt2
  have h3 := h.lt3
  have gg : ∀ b, vf.ownBlock = some b → rb + 1 ≤ b := fun b e => (h.ge b e).1
  have each : ∀ y, FrO W (rb + 1) y → FrO (W'.setCell ⟨pb, 1, none⟩ vf') (rb + 1) y := fun y hy =>
    (hy.keeps hk (fun b e e2 => rows_apart h.own hy.1 (by decide) b e2 e) (fun b e e2 => rows_apart h.own hy.2 (by decide) b e2 e)).keeps hs (fun b e => by have := (World.ownsRow.lt hy.1 b e).1; omega) (fun b e => by have := (World.ownsRow.lt hy.2 b e).1; omega)
  ⟨by obtain ⟨s, r, hr⟩ := h.br; exact ⟨s, r, (hr.keeps hk (fun e => by have := gg _ e; omega)).keeps hs (by omega)⟩, (h.bp.keeps hk (fun e => by have := gg _ e; omega)).set 1 vf' (show 1 < 2 by decide), (h.bz.keeps hk (fun e => by have := gg _ e; omega)).keeps hs (by omega),
    by
      rw [cellsT_snoc] at ho
      rw [List.length_append]
      exact hs.row ho (fun b e => by have := (World.ownsRow.lt ho b e).1; omega),
    fun y hy => by
      rcases List.mem_append.1 hy with hy | hy
      · exact each y (h.each y hy)
      · rw [List.mem_singleton.1 hy]
        exact each x hx,
    (h.kp.trans' hk (fun b hb e => by have h9 := gg b e; omega)).trans' hs (fun b hb e => by have h9 : b = pb := e; omega), h1, h2, h3⟩
end PaJ
theorem rdFns_at {rest : List WPart} {k : Nat} {p : WPart} (h : rest[k]? = some p) : rdFns k (rest.drop k) = if p.1 = (98 + k) % 256 then (if rdFnE (bs p.2) = 0 then (rdFnV (bs p.2) :: (rdFns (k + 1) (rest.drop (k + 1))).1, (rdFns (k + 1) (rest.drop (k + 1))).2) else ([rdFnV (bs p.2)], rdFnE (bs p.2))) else ([], 3) := by
  have hk := (List.getElem?_eq_some_iff.1 h).1
  have e : rest[k] = p := (List.getElem?_eq_some_iff.1 h).2
  rw [List.drop_eq_getElem_cons hk, e, rdFns_cons]
theorem rdFnE_eq (s : List Nat) : rdEnd s (rdFn6 s).2 = rdFnE s := by rw [rdFnE]
theorem rdFns_end {rest : List WPart} : rdFns rest.length (rest.drop rest.length) = ([], 0) := by rw [List.drop_length]; rfl
/-- The reader's cells are written anew. -/
theorem reset {w : World} {rb : Nat} {vs : List Value} (h : BlkO w rb vs) (hl : vs.length = 3) (s : ByteArray) (hs : s.size ≤ 60000) : RdB (((w.setCell ⟨rb, 0, none⟩ (.string s)).setCell ⟨rb, 1, none⟩ (.int .i64 0)).setCell ⟨rb, 2, none⟩ .nilIface) rb s ⟨0, 0⟩ ∧ Keeps (fun b => b = rb) w (((w.setCell ⟨rb, 0, none⟩ (.string s)).setCell ⟨rb, 1, none⟩ (.int .i64 0)).setCell ⟨rb, 2, none⟩ .nilIface) := by
  match vs, hl with
  | [a, b, c], _ =>
    have h1 := ((h.set 0 (.string s) (show 0 < 3 by decide)).set 1 (.int .i64 0) (show 1 < 3 by decide)).set 2 .nilIface (show 2 < 3 by decide)
    exact ⟨⟨h1, Nat.zero_le _, hs⟩, ((own_set w rb 0 _).trans (own_set _ rb 1 _)).trans (own_set _ rb 2 _)⟩
theorem PaJ.outs {w W : World} {rb pb z : Nat} {g : Int} {vf : Value} {L : List Fr} (h : PaJ w W rb pb z g vf L) :
    ((W.setCell ⟨z, 0, none⟩ (.int .i64 g)).setCell ⟨z, 1, none⟩ vf).cell? ⟨z, 0, none⟩ = some (.int .i64 g) ∧ ((W.setCell ⟨z, 0, none⟩ (.int .i64 g)).setCell ⟨z, 1, none⟩ vf).cell? ⟨z, 1, none⟩ = some vf ∧
    (∀ W', Keeps (fun b => b < w.heap.size) ((W.setCell ⟨z, 0, none⟩ (.int .i64 g)).setCell ⟨z, 1, none⟩ vf) W' → FnsAt W' vf (L.map fun x => x.1)) ∧ Below w.heap.size w ((W.setCell ⟨z, 0, none⟩ (.int .i64 g)).setCell ⟨z, 1, none⟩ vf) := by
  have hb := (h.bz.set 0 (.int .i64 g) (show 0 < 2 by decide)).set 1 vf (show 1 < 2 by decide)
  have hk := (own_set W z 0 (.int .i64 g)).trans (own_set _ z 1 vf)
  have h1 := h.lt1
  have h2 := h.lt2
  have h3 := h.lt3
  refine ⟨hb.at_ 0 _ rfl, hb.at_ 1 _ rfl, ?_, ?_⟩
  · intro W' hW'
    exact rows_fns (hW'.row (hk.row h.own (fun b e => by have := (h.ge b e).1; omega)) (fun b e => by have := (h.ge b e).1; omega)) fun x hx => ((h.each x hx).keeps hk (fun b e => by have := (World.ownsRow.lt (h.each x hx).1 b e).1; omega) (fun b e => by have := (World.ownsRow.lt (h.each x hx).2 b e).1; omega)).keeps hW' (fun b e => by have := (World.ownsRow.lt (h.each x hx).1 b e).1; omega) (fun b e => by have := (World.ownsRow.lt (h.each x hx).2 b e).1; omega)
  · exact (h.kp.trans' hk (fun b hb e => by have h9 : b = z := e; omega)).below (Nat.le_refl _) fun _ _ e => e.elim

set_option maxRecDepth 100000 in
set_option maxHeartbeats 12800000 in
theorem rparts_any (first : WPart) (v : Value) (rest : List WPart) (w : World) (hf : first.1 < 256) (hfs : first.2.size ≤ 60000) (hv : PartsAt w v rest) (hsm : Small rest) (hlen : rest.length ≤ 12) :
    Calls Tryd.prog 40 #[.agg #[.int .u8 (first.1 : Nat), .string first.2], v] w fun e w' => ∃ (g : Int) (vf : Value), e = .returned (.tuple #[.agg #[.int .i64 g, vf], errV (rdParts first rest).2]) ∧ ∃ fs : List FnV, (∀ W', Keeps (fun b => b < w.heap.size) w' W' → FnsAt W' vf fs) ∧ ((rdParts first rest).2 = 0 → (rdParts first rest).1 = ⟨g, fs⟩) ∧ Below w.heap.size w w' := by
  obtain ⟨tg, body0⟩ := first
  dsimp only at hf hfs ⊢
  obtain ⟨av, n, cv, rfl, hn, hnc, hcm, hx, -⟩ := hv
  unfold maxLen at hcm
  have HN := Lib.hid hn
  have hn12 : n ≤ 12 := by omega
  have HX : Hid (∀ W, Keeps (fun _ => False) w W → 0 < n → ∃ b o, av = some ⟨b, o, none⟩ ∧ ∀ i, i < n → W.cell? ⟨b, o + i * 2, none⟩ = some (.int .u8 (pt rest i : Int)) ∧ W.cell? ⟨b, o + i * 2 + 1, none⟩ = some (.string (pb rest i))) := Lib.hid fun W hW h0 => by
    obtain ⟨b, o, h1, h2, h3⟩ := hx h0
    exact ⟨b, o, h1, fun i hi => ⟨hW.cell_of (h3 i hi).1 id, hW.cell_of (h3 i hi).2 id⟩⟩
  have HSM := Lib.hid hsm
  clear hx hn hsm hlen
  -- the blocks that are made ahead of the first call
  have k1 := (Keeps.refl (fun _ : Nat => False) w).alloc (.cells #[.int .u8 (tg : Nat), .string body0] 51)
  have k2 := k1.alloc (.cells #[.int .i64 0, .slice none 0 0] 24)
  have k3 := k2.alloc (.cells #[.int .i64 0, .slice none 0 0] 24)
  have k4 := k3.alloc (.cells #[.string body0, .int .i64 0, .nilIface] 109)
  have HJ : Hid (PaJ w ((((w.alloc (.cells #[.int .u8 (tg : Nat), .string body0] 51)).alloc (.cells #[.int .i64 0, .slice none 0 0] 24)).alloc (.cells #[.int .i64 0, .slice none 0 0] 24)).alloc (.cells #[.string body0, .int .i64 0, .nilIface] 109)) (w.heap.size + 1 + 1 + 1) (w.heap.size + 1 + 1) (w.heap.size + 1) 0 (.slice none 0 0) [] ∧
      RdB ((((w.alloc (.cells #[.int .u8 (tg : Nat), .string body0] 51)).alloc (.cells #[.int .i64 0, .slice none 0 0] 24)).alloc (.cells #[.int .i64 0, .slice none 0 0] 24)).alloc (.cells #[.string body0, .int .i64 0, .nilIface] 109)) (w.heap.size + 1 + 1 + 1) body0 ⟨0, 0⟩) := Lib.hid (by
    have s1 : (w.alloc (.cells #[.int .u8 (tg : Nat), .string body0] 51)).heap.size = w.heap.size + 1 := by simp
    have b2 := BlkO.new (w.alloc (.cells #[.int .u8 (tg : Nat), .string body0] 51)) #[.int .i64 0, .slice none 0 0] 24
    rw [s1] at b2
    have s2 : ((w.alloc (.cells #[.int .u8 (tg : Nat), .string body0] 51)).alloc (.cells #[.int .i64 0, .slice none 0 0] 24)).heap.size = w.heap.size + 1 + 1 := by simp
    have b3 := BlkO.new ((w.alloc (.cells #[.int .u8 (tg : Nat), .string body0] 51)).alloc (.cells #[.int .i64 0, .slice none 0 0] 24)) #[.int .i64 0, .slice none 0 0] 24
    rw [s2] at b3
    have s3 : (((w.alloc (.cells #[.int .u8 (tg : Nat), .string body0] 51)).alloc (.cells #[.int .i64 0, .slice none 0 0] 24)).alloc (.cells #[.int .i64 0, .slice none 0 0] 24)).heap.size = w.heap.size + 1 + 1 + 1 := by simp
    have b4 := BlkO.new (((w.alloc (.cells #[.int .u8 (tg : Nat), .string body0] 51)).alloc (.cells #[.int .i64 0, .slice none 0 0] 24)).alloc (.cells #[.int .i64 0, .slice none 0 0] 24)) #[.string body0, .int .i64 0, .nilIface] 109
    rw [s3] at b4
    have hr : RdB ((((w.alloc (.cells #[.int .u8 (tg : Nat), .string body0] 51)).alloc (.cells #[.int .i64 0, .slice none 0 0] 24)).alloc (.cells #[.int .i64 0, .slice none 0 0] 24)).alloc (.cells #[.string body0, .int .i64 0, .nilIface] 109)) (w.heap.size + 1 + 1 + 1) body0 ⟨0, 0⟩ := ⟨b4, Nat.zero_le _, hfs⟩
    have q2 := ((Keeps.refl (fun _ : Nat => False) ((w.alloc (.cells #[.int .u8 (tg : Nat), .string body0] 51)).alloc (.cells #[.int .i64 0, .slice none 0 0] 24))).alloc (.cells #[.int .i64 0, .slice none 0 0] 24)).alloc (.cells #[.string body0, .int .i64 0, .nilIface] 109)
    have q3 := (Keeps.refl (fun _ : Nat => False) (((w.alloc (.cells #[.int .u8 (tg : Nat), .string body0] 51)).alloc (.cells #[.int .i64 0, .slice none 0 0] 24)).alloc (.cells #[.int .i64 0, .slice none 0 0] 24))).alloc (.cells #[.string body0, .int .i64 0, .nilIface] 109)
    exact ⟨⟨⟨_, _, hr⟩, b3.keeps q3 id, b2.keeps q2 id, World.ownsRow_nil _ _ _ _, fun x hx => (by cases hx), k4, by omega, by omega, by omega⟩, hr⟩)
  have hnil : errV 0 = .nilIface := rfl
  clear k1 k2 k3 k4 hnil
  go_enter Tryd.func40, Tryd.ntmps40
  go_upto_region 3 with fail
  generalize (((w.alloc (.cells #[.int .u8 (tg : Nat), .string body0] 51)).alloc (.cells #[.int .i64 0, .slice none 0 0] 24)).alloc (.cells #[.int .i64 0, .slice none 0 0] 24)).alloc (.cells #[.string body0, .int .i64 0, .nilIface] 109) = w1 at *
  obtain ⟨rb, hrb⟩ : ∃ rb, w.heap.size + 1 + 1 + 1 = rb := ⟨_, rfl⟩
  obtain ⟨qb, hpb⟩ : ∃ qb, w.heap.size + 1 + 1 = qb := ⟨_, rfl⟩
  obtain ⟨z, hz⟩ : ∃ z, w.heap.size + 1 = z := ⟨_, rfl⟩
  rw [hrb, hpb, hz] at HJ
  try rw [hrb]
  try rw [hpb]
  try rw [hz]
  clear hrb hpb hz
  go_wp2_with fail
  refine (countR_any 8 (by decide) rb body0 _ _ HJ.out.2).mono ?_
  rintro e w2 ⟨rfl, hr2, hk2⟩
  have HJ2 : Hid (PaJ w (w2.setCell ⟨qb, 0, none⟩ (.int .i64 (((rdHead (bs body0)).1 : Nat) : Int))) rb qb z (((rdHead (bs body0)).1 : Nat) : Int) (.slice none 0 0) []) := Lib.hid ((HJ.out.1.read hr2 hk2).setG (((rdHead (bs body0)).1 : Nat) : Int))
  have HR2 : Hid (RdB (w2.setCell ⟨qb, 0, none⟩ (.int .i64 (((rdHead (bs body0)).1 : Nat) : Int))) rb body0 (rdCount (bs body0) 8 ⟨0, 0⟩).2) := Lib.hid (hr2.keeps (own_set _ qb 0 _) (by have := HJ2.out.lt3; omega))
  have d0 := (HJ.out.1.read hr2 hk2).cell0
  have f0 := (HJ.out.1.read hr2 hk2).bp.free 0
  obtain ⟨g, hg⟩ : ∃ g : Int, g = ((rdHead (bs body0)).1 : Nat) := ⟨_, rfl⟩
  have HGG := Lib.hid hg
  have e1 : (((rdCount (bs body0) 8 ⟨0, 0⟩).1 : Nat) : Int) = g := hg.symm
  rw [e1]
  rw [← hg] at HJ2 HR2
  clear hr2 hk2 HJ hg e1
  go_upto_region 4 with fail
  generalize w2.setCell ⟨qb, 0, none⟩ (.int .i64 g) = w3 at *
  clear d0 f0
  go_wp2_with fail
  refine (end_any rb body0 _ _ HR2.out).mono ?_
  rintro e w4 ⟨rfl, ⟨r4, hr4⟩, hk4⟩
  have HJ4 := Lib.hid (HJ2.out.read hr4 hk4)
  have HHE : Hid (rdParts (tg, body0) rest = if (rdHead (bs body0)).2 = 0 then (⟨g, (rdFns 0 rest).1⟩, (rdFns 0 rest).2) else (⟨g, []⟩, (rdHead (bs body0)).2)) := Lib.hid (by rw [HGG.out]; rfl)
  have e2 : rdEnd (bs body0) (rdCount (bs body0) 8 ⟨0, 0⟩).2 = (rdHead (bs body0)).2 := rfl
  rw [e2]
  clear e2 hr4 hk4 HJ2 HR2
  by_cases hh : (rdHead (bs body0)).2 = 0
  · have HRP : Hid (rdParts (tg, body0) rest = (⟨g, (rdFns 0 rest).1⟩, (rdFns 0 rest).2)) := Lib.hid (by rw [HHE.out, if_pos hh])
    rw [hh, errV_0]
    clear hh HHE
    go_wp2_with fail
    go_loopw [24] (fun iv wr => ∃ (k : Nat) (vf : Value) (L : List Fr), k ≤ n ∧ iv = .int .i64 k ∧ PaJ w wr rb qb z g vf L ∧ Hid (L.length = k) ∧ Hid (rdFns 0 rest = ((L.map fun x => x.1) ++ (rdFns k (rest.drop k)).1, (rdFns k (rest.drop k)).2))) (fun iv _ => n - (intOf iv).toNat)
    case atStart => exact ⟨0, _, [], Nat.zero_le _, rfl, HJ4.out, Lib.hid rfl, Lib.hid rfl⟩
    case round =>
      obtain ⟨k, vf, L, hk, rfl, hj, HLN, HRF⟩ := hrel
      rename World => wq
      obtain ⟨ao, cap, hvf⟩ := slice_of_own hj.own
      rw [HLN.out] at hvf
      subst hvf
      have HFJ0 := Lib.hid hj
      clear hj HJ4
      by_cases hkn : k < n
      · obtain ⟨b, o, rfl, hcell⟩ := HX.out _ HFJ0.out.kp (by omega)
        obtain ⟨hc1, hc2⟩ := hcell k hkn
        have hkl : k < rest.length := by rw [← HN.out]; exact hkn
        obtain ⟨p, hp⟩ : ∃ p, rest[k]? = some p := ⟨_, List.getElem?_eq_getElem hkl⟩
        obtain ⟨t, body⟩ := p
        have hpt : pt rest k = t := by unfold pt; rw [List.getD_eq_getElem?_getD, hp]; rfl
        have hpb : pb rest k = body := by unfold pb; rw [List.getD_eq_getElem?_getD, hp]; rfl
        rw [hpt] at hc1
        rw [hpb] at hc2
        have HBS : Hid (body.size ≤ 60000) := Lib.hid (HSM.out _ (List.mem_of_getElem? hp))
        have HRA : Hid (rdFns k (rest.drop k) = if t = (98 + k) % 256 then (if rdFnE (bs body) = 0 then (rdFnV (bs body) :: (rdFns (k + 1) (rest.drop (k + 1))).1, (rdFns (k + 1) (rest.drop (k + 1))).2) else ([rdFnV (bs body)], rdFnE (bs body))) else ([], 3)) := Lib.hid (rdFns_at hp)
        obtain ⟨d, hd⟩ : ∃ d, d = (98 + k) % 256 := ⟨_, rfl⟩
        have HTG : Hid (∀ V : World, Calls Tryd.prog 31 #[.int .i64 (k : Int)] V fun e w' => e = .returned (.int .u8 (d : Int)) ∧ w' = V) := Lib.hid fun V => by
          rw [hd]
          exact tag_any k V (by omega)
        rw [← hd] at HRA
        have hkni : (k : Int) < (n : Int) := by omega
        clear hcell hkl hp hpt hpb hd
        have HALP := Lib.hid ((Keeps.refl (fun _ : Nat => False) wq).alloc (.cells #[.int .u8 (t : Nat), .string body] 51))
        have HPV := Lib.hid (BlkO.new wq #[.int .u8 (t : Nat), .string body] 51)
        go_upto_region 10 with fail
        generalize hwp : wq.alloc (.cells #[.int .u8 (t : Nat), .string body] 51) = wp at *
        have HJP := Lib.hid (HFJ0.out.fresh HALP.out)
        have HNE : Hid (rb < wq.heap.size) := Lib.hid HFJ0.out.ltz
        generalize hpv : wq.heap.size = pv at *
        clear hwp hpv hc1 hc2 HFJ0
        have c0 := HPV.out.at_ 0 _ rfl
        go_region_held3 (fun V : World => V.cell? ⟨pv, 0, none⟩ = some (.int .u8 (t : Nat))) (first | assumption | (simp only [World.cell?_drew]; assumption))
          ((first | (go_at_call 31; refine (HTG.out _).mono ?_; rintro e V ⟨rfl, rfl⟩)))
        have HJD := Lib.hid (HJP.out.fresh (Keeps.refl (fun _ : Nat => False) wp).drew)
        have HPD : Hid (BlkO wp.drew pv [.int .u8 (t : Nat), .string body]) := Lib.hid (HPV.out.keeps (Keeps.refl (fun _ : Nat => False) wp).drew id)
        clear c0 HJP HPV HALP
        generalize wp.drew = wd at *
        by_cases ht : t = d
        · subst ht
          have HRB : Hid (rdFns k (rest.drop k) = if rdFnE (bs body) = 0 then (rdFnV (bs body) :: (rdFns (k + 1) (rest.drop (k + 1))).1, (rdFns (k + 1) (rest.drop (k + 1))).2) else ([rdFnV (bs body)], rdFnE (bs body))) := Lib.hid (by rw [HRA.out, if_pos rfl])
          obtain ⟨s9, r9, hr9⟩ := HJD.out.br
          have HRS := Lib.hid (reset hr9.blk rfl body HBS.out)
          have d0 := hr9.blk.at_ 0 _ rfl
          have d1 := hr9.blk.at_ 1 _ rfl
          have d2 := hr9.blk.at_ 2 _ rfl
          have f0 := hr9.blk.free 0
          have f1 := hr9.blk.free 1
          have f2 := hr9.blk.free 2
          have c1 := HPD.out.at_ 1 _ rfl
          obtain ⟨ev9, hev9⟩ : ∃ ev9, ev9 = errV r9.err := ⟨_, rfl⟩
          rw [← hev9] at d2
          clear hr9 HRA hev9
          go_upto_region 13 with fail
          have HJR := Lib.hid (HJD.out.read HRS.out.1 HRS.out.2)
          have HR5a := Lib.hid HRS.out.1
          clear HRS d0 d1 d2 f0 f1 f2 c1
          generalize ((wd.setCell ⟨rb, 0, none⟩ (.string body)).setCell ⟨rb, 1, none⟩ (.int .i64 0)).setCell ⟨rb, 2, none⟩ .nilIface = wr at *
          have HFJ := Lib.hid (HJR.out.fresh (Keeps.refl (fun _ : Nat => False) wr).drew)
          have HR5 : Hid (RdB wr.drew rb body ⟨0, 0⟩) := Lib.hid (HR5a.out.keeps (Keeps.refl (fun _ : Nat => False) wr).drew id)
          have HLT5 : Hid (rb + 1 ≤ wr.drew.heap.size) := Lib.hid HR5.out.blk.lt
          clear HJR HR5a HJD HPD
          refine wp_region_late (S := (fun W : World => W.cell? ⟨qb, 1, none⟩ = some (.slice ao k cap))) (T := [6]) (by kernel_rfl) ?_
          have hHeld : (fun W : World => W.cell? ⟨qb, 1, none⟩ = some (.slice ao k cap)) wr.drew := HFJ.out.cell1
          generalize hW0 : wr.drew = W0 at *
          clear hW0
          refine late_take0 (i := 0) (oi := { dst := some 39, op := _, type := _, pos := _, after := _, guard := _ }) (v := .pointer (some ⟨qb, 1, none⟩)) rfl (by kernel_rfl) (by kernel_rfl) (by kernel_rfl) (fun _ _ _ h => h) (Or.inl ⟨by rfl, ?_⟩) ?_
          · intro W9 hSW
            (try dsimp only at hSW)
            go_simp
          try simp only [Act.put, List.setIfInBounds_toArray, List.set_cons_zero, List.set_cons_succ]
          refine late_take (i := 1) (oi := { dst := some 40, op := _, type := _, pos := _, after := _, guard := _ }) (v := (.slice ao k cap)) rfl (by kernel_rfl) (by kernel_rfl) (by kernel_rfl) (by kernel_rfl) (fun _ _ _ h => h) (Or.inl ⟨by rfl, ?_⟩) hHeld ?_
          · intro W9 hSW
            (try dsimp only at hSW)
            go_simp
          try simp only [Act.put, List.setIfInBounds_toArray, List.set_cons_zero, List.set_cons_succ]
          refine late_ready (rs := [2]) (by kernel_rfl) (by simp) ?_
          refine LateAll.cons (o := { dst := some 41, op := _, type := _, pos := _, after := _, guard := _ }) rfl (fun K hK => ?_) LateAll.nil
          go_simp
          refine (fn_any rb body _ HR5.out).mono ?_
          rintro e w3 ⟨vl3, vc3, rfl, hr3, hk3, hol3, hoc3⟩
          obtain ⟨a3, c3, hv3⟩ := slice_of_own hol3
          obtain ⟨a4, c4, hv4⟩ := slice_of_own hoc3
          subst hv3 hv4
          have HR3 := Lib.hid hr3
          have HF3 := Lib.hid (HFJ.out.read hr3 hk3)
          have HFO : Hid (FrO w3 (rb + 1) (rdFnV (bs body), .slice a3 (rdFnV (bs body)).locals.length c3, .slice a4 (rdFnV (bs body)).code.length c4)) := Lib.hid ⟨own_mono hol3 HLT5.out, own_mono hoc3 HLT5.out⟩
          clear hr3 hk3 hol3 hoc3
          obtain ⟨fv, hfv⟩ : ∃ fv, fv = rdFnV (bs body) := ⟨_, rfl⟩
          have HFV := Lib.hid hfv
          rw [← hfv] at HFO ⊢
          clear hfv
          refine hK.out _ _ (fun _ => HF3.out.cell1) ?_
          clear hK K
          have HAL3 := Lib.hid ((Keeps.refl (fun _ : Nat => False) w3).alloc (.cells #[.int .i64 fv.params, .slice a3 fv.locals.length c3, .int .i64 fv.kind, .slice a4 fv.code.length c4] 47))
          have HF4 := Lib.hid (HF3.out.fresh HAL3.out)
          have HR4 := Lib.hid (HR3.out.keeps HAL3.out id)
          have HFO4 := Lib.hid (HFO.out.keeps HAL3.out (fun _ _ => id) (fun _ _ => id))
          have HLD3 : Hid ((w3.alloc (.cells #[.int .i64 fv.params, .slice a3 fv.locals.length c3, .int .i64 fv.kind, .slice a4 fv.code.length c4] 47)).cell? ⟨qb, 1, none⟩ = some (.slice ao k cap)) := Lib.hid HF4.out.cell1
          have HO3 : Hid ((w3.alloc (.cells #[.int .i64 fv.params, .slice a3 fv.locals.length c3, .int .i64 fv.kind, .slice a4 fv.code.length c4] 47)).ownsRow (rb + 1) 47 4 (.slice ao k cap) k (cellsT L)) := Lib.hid (by have := HF4.out.own; rwa [HLN.out] at this)
          have hlen3 : k ≤ 1000000 := by omega
          have hcn3 : ∀ (i : Nat) u, [Value.int .i64 fv.params, .slice a3 fv.locals.length c3, .int .i64 fv.kind, .slice a4 fv.code.length c4][i]? = some u → (w3.alloc (.cells #[.int .i64 fv.params, .slice a3 fv.locals.length c3, .int .i64 fv.kind, .slice a4 fv.code.length c4] 47)).cell? ⟨w3.heap.size, i, none⟩ = some u := fun i u hj => (cell_of_row _ _ _ _ _ _ (heap_alloc_new _ _)).trans (by simpa using hj)
          have hone3 : ∀ u ∈ [Value.int .i64 fv.params, .slice a3 fv.locals.length c3, .int .i64 fv.kind, .slice a4 fv.code.length c4], u.oneCell' = true := by intro u hu; simp at hu; rcases hu with rfl | rfl | rfl | rfl <;> rfl
          have HSZ3 : Hid (rb + 1 ≤ (w3.alloc (.cells #[.int .i64 fv.params, .slice a3 fv.locals.length c3, .int .i64 fv.kind, .slice a4 fv.code.length c4] 47)).heap.size) := Lib.hid HF4.out.ltz
          refine late_ready (rs := [3]) (by kernel_rfl) (by simp) ?_
          refine LateAll.cons (o := { dst := some 42, op := _, type := _, pos := _, after := _, guard := _ }) rfl (fun K hK => ?_) LateAll.nil
          go_simp
          refine hK.out _ _ (fun _ => HLD3.out) ?_
          clear hK K
          try simp only [Act.put, List.setIfInBounds_toArray, List.set_cons_zero, List.set_cons_succ]
          refine late_ready (rs := [4]) (by kernel_rfl) (by simp) ?_
          refine LateAll.cons (o := { dst := some 43, op := _, type := _, pos := _, after := _, guard := _ }) rfl (fun K hK => ?_) LateAll.nil
          refine step_append1 rfl (.tmp 40) (.tmp 42) 22 47 (.agg #[.int .i64 0, .slice none 0 0, .int .i64 0, .slice none 0 0]) 4 64 rfl Tryd.underlying22 info_fn rfl (by decide) (by decide) _ _ _ _ [.int .i64 fv.params, .slice a3 fv.locals.length c3, .int .i64 fv.kind, .slice a4 fv.code.length c4] _ 1 HO3.out hlen3 rfl hcn3 hone3 HSZ3.out (by simp [Act.eval]) (by simp [Act.eval]) ?_
          intro ao4 cap4 w4 ho4 hk4
          have hHeld4 : w4.cell? ⟨qb, 1, none⟩ = some (.slice ao k cap) := hk4.cell_of HF4.out.cell1 (fun e => absurd (HF4.out.ge qb e).1 (by have := HF4.out.lt3; omega))
          have hfz4 : w4.frozen? ⟨qb, 1, none⟩ = false := (HF4.out.bp.keeps hk4 (fun e => absurd (HF4.out.ge qb e).1 (by have := HF4.out.lt3; omega))).free 1
          have HG : Hid (PaJ w (w4.setCell ⟨qb, 1, none⟩ (.slice ao4 (k + 1) cap4)) rb qb z g (.slice ao4 (k + 1) cap4) (L ++ [(fv, .slice a3 fv.locals.length c3, .slice a4 fv.code.length c4)])) := Lib.hid (HF4.out.grow HFO4.out (by rw [HLN.out]; exact ho4) hk4)
          have HRG : Hid (RdB (w4.setCell ⟨qb, 1, none⟩ (.slice ao4 (k + 1) cap4)) rb body (rdFn6 (bs body)).2) := Lib.hid ((HR4.out.keeps hk4 (fun e => absurd (HF4.out.ge rb e).1 (by omega))).keeps (own_set _ qb 1 _) (by have := HF4.out.lt3; omega))
          clear ho4 hk4
          refine hK.out _ _ (fun _ => hHeld4) ?_
          clear hK K
          try simp only [Act.put, List.setIfInBounds_toArray, List.set_cons_zero, List.set_cons_succ]
          refine late_take0 (i := 5) (oi := { dst := some 44, op := _, type := _, pos := _, after := _, guard := _ }) (v := .pointer (some ⟨qb, 1, none⟩)) rfl (by kernel_rfl) (by kernel_rfl) (by kernel_rfl) (fun _ _ _ h => h) (Or.inl ⟨by rfl, ?_⟩) ?_
          · intro W9 hSW
            (try dsimp only at hSW)
            go_simp
          try simp only [Act.put, List.setIfInBounds_toArray, List.set_cons_zero, List.set_cons_succ]
          refine late_ready (rs := [6]) (by kernel_rfl) (by simp) ?_
          refine LateAll.cons (o := { dst := none, op := _, type := _, pos := _, after := _, guard := _ }) rfl (fun K hK => ?_) LateAll.nil
          go_simp
          refine hK.out _ _ (fun h => absurd (show (6 : Nat) ∈ [6] by decide) h) ?_
          clear hK K
          refine late_done (by kernel_rfl) ?_ _
          go_wp2_with fail
          refine (end_any rb body _ _ HRG.out).mono ?_
          rintro e w6 ⟨rfl, ⟨r6, hr6⟩, hk6⟩
          have HJ6 := Lib.hid (HG.out.read hr6 hk6)
          have HL6 : Hid ((L ++ [(fv, Value.slice a3 fv.locals.length c3, Value.slice a4 fv.code.length c4)]).length = k + 1 ∧ ((L ++ [(fv, Value.slice a3 fv.locals.length c3, Value.slice a4 fv.code.length c4)]).map fun x => x.1) = (L.map fun x => x.1) ++ [fv]) := Lib.hid ⟨by rw [List.length_append, HLN.out]; rfl, by rw [List.map_append]; rfl⟩
          generalize L ++ [(fv, Value.slice a3 fv.locals.length c3, Value.slice a4 fv.code.length c4)] = L6 at *
          rw [rdFnE_eq]
          clear hr6 hk6 HG HRG hHeld hHeld4 hfz4 hcn3 hone3
          by_cases he : rdFnE (bs body) = 0
          · have HRN : Hid (rdFns 0 rest = ((L6.map fun x => x.1) ++ (rdFns (k + 1) (rest.drop (k + 1))).1, (rdFns (k + 1) (rest.drop (k + 1))).2)) := Lib.hid (by
              rw [HRF.out, HRB.out, if_pos he, HL6.out.2, HFV.out]
              simp)
            have HLN6 : Hid (L6.length = k + 1) := Lib.hid HL6.out.1
            rw [he, errV_0]
            clear he HRB HRF
            go_wp2_with fail
            go_roundw
            case rel => exact ⟨k + 1, _, L6, by omega, by go_num, HJ6.out, HLN6, HRN⟩
            case measure => simp [intOf]; omega
          · have HRN : Hid ((rdParts (tg, body0) rest).2 = rdFnE (bs body) ∧ rdFnE (bs body) ≠ 0) := Lib.hid ⟨by
              rw [HRP.out, HRF.out, HRB.out, if_neg he], he⟩
            rw [errV_nz he]
            clear he HRB HRF
            have p0 := HJ6.out.cell0
            have p1 := HJ6.out.cell1
            have z0 := HJ6.out.bz.at_ 0 _ rfl
            have z1 := HJ6.out.bz.at_ 1 _ rfl
            have y0 := HJ6.out.bz.free 0
            have y1 := HJ6.out.bz.free 1
            have HOUT := Lib.hid (HJ6.out.outs)
            have q0 := HOUT.out.1
            have q1 := HOUT.out.2.1
            go_wp2_with fail
            refine bodyPost_ret (v := .tuple #[.agg #[.int .i64 g, .slice ao4 (k + 1) cap4], .iface 26 (.int .i64 (rdFnE (bs body) : Nat))]) (by simp [results, Tryd.results40, go_sem, q0, q1] <;> rfl) rfl ?_
            exact ⟨_, _, by rw [HRN.out.1, errV_nz HRN.out.2], _, HOUT.out.2.2.1, fun h => absurd (HRN.out.1 ▸ h) HRN.out.2, HOUT.out.2.2.2⟩
        · have hb1 : ((t : Int) != (d : Int)) = true := by simp; omega
          have HRN : Hid ((rdParts (tg, body0) rest).2 = 3) := Lib.hid (by
            rw [HRP.out, HRF.out, HRA.out, if_neg ht])
          clear HRA HRF
          have p0 := HJD.out.cell0
          have p1 := HJD.out.cell1
          have z0 := HJD.out.bz.at_ 0 _ rfl
          have z1 := HJD.out.bz.at_ 1 _ rfl
          have y0 := HJD.out.bz.free 0
          have y1 := HJD.out.bz.free 1
          have HOUT := Lib.hid (HJD.out.outs)
          have q0 := HOUT.out.1
          have q1 := HOUT.out.2.1
          go_wp2_with fail
          refine bodyPost_ret (v := .tuple #[.agg #[.int .i64 g, .slice ao k cap], .iface 26 (.int .i64 3)]) (by simp [results, Tryd.results40, go_sem, q0, q1] <;> rfl) rfl ?_
          exact ⟨_, _, by rw [HRN.out]; rfl, _, HOUT.out.2.2.1, fun h => absurd (HRN.out ▸ h) (by decide), HOUT.out.2.2.2⟩
      · obtain rfl : k = n := by omega
        have hkni : ¬ (k : Int) < (k : Int) := by omega
        have HRN : Hid (rdParts (tg, body0) rest = (⟨g, L.map fun x => x.1⟩, 0)) := Lib.hid (by
          have h := HRF.out
          rw [HN.out, rdFns_end] at h
          rw [HRP.out, h, List.append_nil])
        clear HRF
        have p0 := HFJ0.out.cell0
        have p1 := HFJ0.out.cell1
        have z0 := HFJ0.out.bz.at_ 0 _ rfl
        have z1 := HFJ0.out.bz.at_ 1 _ rfl
        have y0 := HFJ0.out.bz.free 0
        have y1 := HFJ0.out.bz.free 1
        have HOUT := Lib.hid (HFJ0.out.outs)
        have q0 := HOUT.out.1
        have q1 := HOUT.out.2.1
        go_wp2_with fail
        refine bodyPost_ret (v := .tuple #[.agg #[.int .i64 g, .slice ao k cap], .nilIface]) (by simp [results, Tryd.results40, go_sem, q0, q1] <;> rfl) rfl ?_
        exact ⟨_, _, by rw [HRN.out]; rfl, _, HOUT.out.2.2.1, fun _ => by rw [HRN.out], HOUT.out.2.2.2⟩
  · have HRP : Hid ((rdParts (tg, body0) rest).2 = (rdHead (bs body0)).2 ∧ (rdHead (bs body0)).2 ≠ 0) := Lib.hid ⟨by rw [HHE.out, if_neg hh], hh⟩
    rw [errV_nz hh]
    clear hh HHE
    have p0 := HJ4.out.cell0
    have p1 := HJ4.out.cell1
    have z0 := HJ4.out.bz.at_ 0 _ rfl
    have z1 := HJ4.out.bz.at_ 1 _ rfl
    have y0 := HJ4.out.bz.free 0
    have y1 := HJ4.out.bz.free 1
    have HOUT := Lib.hid (HJ4.out.outs)
    have q0 := HOUT.out.1
    have q1 := HOUT.out.2.1
    go_wp2_with fail
    refine bodyPost_ret (v := .tuple #[.agg #[.int .i64 g, .slice none 0 0], .iface 26 (.int .i64 ((rdHead (bs body0)).2 : Nat))]) (by simp [results, Tryd.results40, go_sem, q0, q1] <;> rfl) rfl ?_
    exact ⟨_, _, by rw [HRP.out.1, errV_nz HRP.out.2], _, HOUT.out.2.2.1, fun h => absurd (HRP.out.1 ▸ h) HRP.out.2, HOUT.out.2.2.2⟩
end Go.Proofs.YtjdihgmngiplkaaDoor
