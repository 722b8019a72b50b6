/-
  The walk of package verify's look.
-/
import Derived.Test.YtlfcfaceeloedaaDoorVerW9
import Derived.Test.YtlfcfaceeloedaaDoorCodeW2
import Derived.Test.YtlfcfaceeloedaaDoorStepA
import Derived.Test.YtlfcfaceeloedaaDoorCodeRow
namespace Go.Proofs.YtlfcfaceeloedaaDoor
open Go.RowKit Go.Shelf Cd Ve

/-! A looker of its own. -/
theorem info_stand : (Tryd.prog.info? 82).map (fun i => (i.zero, i.size, i.bytes)) = some (some (.agg #[.bool false, .string ByteArray.empty]), 2, 24) := by kernel_rfl
theorem info_stands : (Tryd.prog.info? 80).map (fun i => (i.zero, i.size, i.bytes)) = some (some (.slice none 0 0), 1, 24) := by kernel_rfl
theorem sdsC_none : ∀ n : Nat, sdsC (List.replicate n none) = (List.range (n * 2)).map fun i => if i % 2 = 0 then Value.bool false else .string ByteArray.empty
  | 0 => rfl
  | n + 1 => by
    rw [List.replicate_succ', show (n + 1) * 2 = n * 2 + 1 + 1 by omega, List.range_succ, List.range_succ, List.map_append, List.map_append, ← sdsC_none n]
    unfold sdsC
    rw [List.flatMap_append, List.append_assoc]
    congr 1
    simp [sdC, show (n * 2 + 1) % 2 = 1 by omega]
    rfl
theorem madeCells_stands (n : Nat) : (madeCells (Value.cells (.agg #[.bool false, .string ByteArray.empty])) (n * 2)).toList = sdsC (List.replicate n none) := by
  rw [sdsC_none]
  apply List.ext_getElem
  · simp [size_madeCells]
  · intro i h1 h2
    have h3 : (Value.cells (.agg #[.bool false, .string ByteArray.empty])) = #[.bool false, .string ByteArray.empty] := by simp [Value.cells]
    rw [List.getElem_map, List.getElem_range]
    simp [madeCells, h3]
    have : i % 2 = 0 ∨ i % 2 = 1 := by omega
    rcases this with h | h <;> simp [h]
theorem make_stands (n : Nat) (h : n ≤ 100000) : ∃ cs : Array Value, cs.toList = sdsC (List.replicate n none) ∧ ∀ W : World,
    (Instr.makeSlice 80 (.int .i64 n) (.int .i64 n)).run Tryd.prog W = .ok (.slice (some ⟨W.heap.size, 0, none⟩) n n) (W.alloc (.cells cs 82)) := by
  obtain ⟨i0, hi, hz0, hz1, hz2⟩ := info_parts info_stand
  refine ⟨_, madeCells_stands n, fun W => ?_⟩
  have := run_make (P := Tryd.prog) W 80 82 i0 (.agg #[.bool false, .string ByteArray.empty]) Tryd.underlying80 hi hz0 .i64 .i64 n n (by omega) (by omega) (by rw [hz2]; omega) (by omega)
  rw [this]
  simp only [Int.toNat_natCast, hz1]
/-- A looker, and the stands of its function, in blocks that are new. -/
structure NewLk (W wx : World) (lb ab n : Nat) (cs : List Value) : Prop where
  l : BlkO wx lb (cs ++ [.slice (some ⟨ab, 0, none⟩) n n, .int .i64 0, .string ⟨#[]⟩, .int .i64 0])
  a : BlkO wx ab (sdsC (List.replicate n none))
  lo : W.heap.size ≤ lb
  lo2 : W.heap.size ≤ ab
  ne : lb ≠ ab
  bel : Below W.heap.size W wx
theorem newLk_a (W : World) (n : Nat) (cs xs ys : Array Value) (t u : TypeId) (h : xs.toList = cs.toList ++ [.slice (some ⟨W.heap.size + 1, 0, none⟩) n n, .int .i64 0, .string ⟨#[]⟩, .int .i64 0]) (hy : ys.toList = sdsC (List.replicate n none)) :
    NewLk W ((W.alloc (.cells xs t)).alloc (.cells ys u)).drew W.heap.size (W.heap.size + 1) n cs.toList := by
  have h1 := (BlkO.new W xs t).keeps (((Keeps.refl (fun _ : Nat => False) _).alloc (.cells ys u)).drew) id
  have h2 := (BlkO.new (W.alloc (.cells xs t)) ys u).keeps ((Keeps.refl (fun _ : Nat => False) _).drew) id
  rw [show (W.alloc (.cells xs t)).heap.size = W.heap.size + 1 by simp] at h2
  rw [h] at h1
  rw [hy] at h2
  exact ⟨h1, h2, Nat.le_refl _, by omega, by omega, (((Below.refl W.heap.size W).alloc (Nat.le_refl _) _).alloc (by simp) _).drew⟩
theorem newLk_b (W : World) (n : Nat) (cs xs ys : Array Value) (t u : TypeId) (h : xs.toList = cs.toList ++ [.slice (some ⟨W.heap.size, 0, none⟩) n n, .int .i64 0, .string ⟨#[]⟩, .int .i64 0]) (hy : ys.toList = sdsC (List.replicate n none)) :
    NewLk W ((W.alloc (.cells ys u)).alloc (.cells xs t)).drew (W.heap.size + 1) W.heap.size n cs.toList := by
  have h1 := (BlkO.new W ys u).keeps (((Keeps.refl (fun _ : Nat => False) _).alloc (.cells xs t)).drew) id
  have h2 := (BlkO.new (W.alloc (.cells ys u)) xs t).keeps ((Keeps.refl (fun _ : Nat => False) _).drew) id
  rw [show (W.alloc (.cells ys u)).heap.size = W.heap.size + 1 by simp] at h2
  rw [h] at h2
  rw [hy] at h1
  exact ⟨h2, h1, by omega, Nat.le_refl _, by omega, (((Below.refl W.heap.size W).alloc (Nat.le_refl _) _).alloc (by simp) _).drew⟩

/-! What look hands back. -/
abbrev Gs := Nat × List Sd
def gsV (gs : List Gs) : List Value := gs.map fun g => Value.slice (some ⟨g.1, 0, none⟩) g.2.length g.2.length
/-- The stands of functions, each in a block of its own. -/
structure StO (W w : World) (v : Value) (gs : List Gs) : Prop where
  row : w.ownsRow W.heap.size 80 1 v gs.length (gsV gs)
  each : ∀ g ∈ gs, BlkO w g.1 (sdsC g.2) ∧ W.heap.size ≤ g.1 ∧ g.2.length ≤ 9000
  off : ∀ b, v.ownBlock = some b → ∀ g ∈ gs, g.1 ≠ b
theorem stO_nil (W w : World) : StO W w (.slice none 0 0) [] := ⟨World.ownsRow_nil _ _ _ _, fun g h => (by cases h), fun b h => (by cases h)⟩
theorem StO.fresh {W w w' : World} {v : Value} {gs : List Gs} (h : StO W w v gs) (hk : Keeps (fun _ => False) w w') : StO W w' v gs :=
  ⟨hk.row h.row fun _ _ => id, fun g hg => ⟨(h.each g hg).1.keeps hk id, (h.each g hg).2⟩, h.off⟩
/-- Where it may be said of the program. -/
inductive LookA where
  | err (n : Nat)
  | at_ (n : Nat) (place : Int)
  | ok (l : List (List Sd))
def lookA (p : Pg) : LookA := if progE p ≠ 0 then .err (progE p) else if headB p then (match fnsS p 0 p.fns with
  | .error e => .at_ e.1 e.2
  | .ok l => .ok l) else .err 1
/-- What look answers. -/
def LookSays (w : World) (e : Ending) (w' : World) : LookA → Prop
  | .err n => e = .returned (.tuple #[.slice none 0 0, errV n])
  | .at_ n place => ∃ b, e = .returned (.tuple #[.slice none 0 0, .iface 103 (.pointer (some ⟨b, 0, none⟩))]) ∧ w.heap.size ≤ b ∧ b < w'.heap.size ∧ w'.cell? ⟨b, 0, none⟩ = some (.int .i64 n) ∧ w'.cell? ⟨b, 1, none⟩ = some (.int .i64 place)
  | .ok l => ∃ v gs, e = .returned (.tuple #[v, .nilIface]) ∧ StO w w' v gs ∧ gs.map (·.2) = l
theorem wpList_append3 {ops : Array Oper} {rest : List Oper} {o : Oper} {a : Act} {w : World} {Q : Exit → Act → World → Prop} (hgd : o.guard = none) (s x : Operand) (t e : TypeId) (z : Value) (size bytes : Nat)
    (ho : o.op = .call { callee := .builtin .append, args := #[s, x], argTypes := #[t, t] }) (ht : Tryd.prog.underlying t = some (.slice e)) (hinfo : (Tryd.prog.info? e).map (fun i => (i.zero, i.size, i.bytes)) = some (some z, size, bytes)) (hz : z.cells.size = size) (hsz : 0 < size) (hby : bytes ≤ 100)
    (B : Nat) (v : Value) (n : Nat) (xs news : List Value) (g c : Nat) (hown : w.ownsRow B e size v n xs) (hn : n ≤ 1000000) (hnl : news.length = size) (hcell : ∀ j u, news[j]? = some u → w.cell? ⟨g, j, none⟩ = some u) (hone : ∀ u ∈ news, u.oneCell' = true) (hB : B ≤ w.heap.size)
    (hs : a.eval s = v) (hx : a.eval x = .slice (some ⟨g, 0, none⟩) 1 c)
    (h : ∀ ao cap w', w'.ownsRow B e size (.slice ao (n + 1) cap) (n + 1) (xs ++ news) → Keeps (fun b => v.ownBlock = some b) w w' → (∀ k, (Value.slice ao (n + 1) cap).ownBlock = some k → v.ownBlock = some k ∨ w.heap.size ≤ k) → wpList Tryd.prog ops Q rest (a.put o.dst (.slice ao (n + 1) cap)) w') :
    wpList Tryd.prog ops Q (o :: rest) a w := by
  obtain ⟨i0, hi, hz0, hz1, hz2⟩ := tinfoA hinfo
  have hb3 : (n + 1) * bytes ≤ 140737488355328 := Nat.le_trans (Nat.mul_le_mul (show n + 1 ≤ 1000001 by omega) hby) (by decide)
  obtain ⟨v', w', hr, h1, h2, _, h4⟩ := run_append_own_at (P := Tryd.prog) w B t o.type e i0 z size bytes ht hi hz0 hz1 hz2 hz hsz v n xs hown ⟨g, 0, none⟩ 1 c news (by rw [hnl, Nat.one_mul])
    (fun j u hj => by rw [show (⟨g, 0, none⟩ : Addr).add j = ⟨g, j, none⟩ by unfold Addr.add; split <;> simp_all]; exact hcell j u hj) hone (by unfold maxLen; omega) hb3 hB
  obtain ⟨ao', cap', rfl⟩ := slice_of_own h1
  refine wpList_plain hgd fun K hK => ?_
  unfold Oper.wp
  simp [execOp, ho, resolve, invoke, builtin, hs, hx, hr, Result.andThen]
  exact hK _ _ (h ao' cap' w' h1 (Keeps.of_grownBy h2 fun k _ e => e) fun k hk => by
    rcases h4 with h4 | h4
    · exact Or.inl (h4 ▸ hk)
    · rw [h4] at hk
      cases hk
      exact Or.inr (Nat.le_refl _))
end Go.Proofs.YtlfcfaceeloedaaDoor
