/-
  The looker of package verify in its blocks.
-/
import Derived.Test.YtlfcfaceeloedaaDoorVerM2
import Derived.Test.YtlfcfaceeloedaaDoorCodeAt
import Derived.Test.YtlfcfaceeloedaaDoorBlkO
import Derived.Test.YtlfcfaceeloedaaDoorBox
namespace Go.Proofs.YtlfcfaceeloedaaDoor
open Go.RowKit Cd Ve

/-- The text of kinds. -/
def tx (u : Wt) : ByteArray := ⟨u.toArray⟩
theorem tx_size (u : Wt) : (tx u).size = u.length := by simp [tx, ByteArray.size]
theorem tx_inj {u v : Wt} (h : tx u = tx v) : u = v := by
  have := congrArg (fun s : ByteArray => s.data.toList) h
  simpa [tx] using this
theorem tx_nil : tx [] = ⟨#[]⟩ := rfl
theorem tx_append (u v : Wt) : tx u ++ tx v = tx (u ++ v) := by
  apply ByteArray.ext
  simp [tx]
theorem tx_take (u : Wt) (k : Nat) : (tx u).extract 0 k = tx (u.take k) := by
  apply ByteArray.ext
  rw [ByteArray.data_extract]
  apply Array.toList_inj.1
  rw [Array.toList_extract]
  simp [tx, List.extract_eq_take_drop]
theorem tx_get (u : Wt) (k : Nat) (_h : k < (tx u).size) (h2 : k < u.length) : (tx u)[k] = u[k] := by
  show (tx u).data[k] = u[k]
  simp [tx]
/-- A stand in its two cells. -/
def sdC (d : Sd) : List Value := [.bool d.isSome, .string (tx (d.getD []))]
def sdsC (l : List Sd) : List Value := l.flatMap sdC
theorem sdsC_length (l : List Sd) : (sdsC l).length = l.length * 2 := by
  induction l with
  | nil => rfl
  | cons d l ih => simp only [sdsC, sdC, List.flatMap_cons, List.length_append, List.length_cons, List.length_nil] at ih ⊢; omega
theorem sdsC_cons (d : Sd) (l : List Sd) : sdsC (d :: l) = .bool d.isSome :: .string (tx (d.getD [])) :: sdsC l := rfl
theorem sdsC_get : ∀ (l : List Sd) (k : Nat) (d : Sd), l[k]? = some d → (sdsC l)[k * 2]? = some (.bool d.isSome) ∧ (sdsC l)[k * 2 + 1]? = some (.string (tx (d.getD [])))
  | [], _, _, h => by simp at h
  | e :: l, 0, d, h => by cases h; exact ⟨rfl, rfl⟩
  | e :: l, k + 1, d, h => by
    obtain ⟨h1, h2⟩ := sdsC_get l k d (by simpa using h)
    rw [sdsC_cons, show (k + 1) * 2 = k * 2 + 1 + 1 by omega]
    exact ⟨by simpa using h1, by simpa using h2⟩
theorem sdsC_set : ∀ (l : List Sd) (k : Nat) (d : Sd), ((sdsC l).set (k * 2) (.bool d.isSome)).set (k * 2 + 1) (.string (tx (d.getD []))) = sdsC (l.set k d)
  | [], _, _ => rfl
  | e :: l, 0, d => rfl
  | e :: l, k + 1, d => by
    have := sdsC_set l k d
    rw [List.set_cons_succ, sdsC_cons, sdsC_cons, show (k + 1) * 2 = k * 2 + 1 + 1 by omega, List.set_cons_succ, List.set_cons_succ, List.set_cons_succ, List.set_cons_succ, this]

/-- Where all lies. -/
structure LE where
  W0 : World
  p : Pg
  vf : Value
  f : FnV
  vl : Value
  vc : Value
  lb : Nat
  ab : Nat
structure LkIn (E : LE) : Prop where
  fns : FnsAt E.W0 E.vf E.p.fns
  locals : IntsAt E.W0 E.vl E.f.locals
  code : InsAt E.W0 E.vc E.f.code
  lo : E.W0.heap.size ≤ E.lb
  lo2 : E.W0.heap.size ≤ E.ab
  ne : E.lb ≠ E.ab
  right : PgR E.p
  rightF : FnR E.f
/-- What the numbers keep within. -/
structure VOk (f : FnV) (s : VS) : Prop where
  at_ : s.at_ ≤ 9000
  len : s.ahead.length = f.code.length
  kok : KOk s.waits
  each : ∀ j u, s.ahead.getD j none = some u → KOk u
theorem VOk.grow {f : FnV} {s s' : VS} (h : VOk f s) (g : Grow s s') : VOk f s' :=
  ⟨by rw [g.at_]; exact h.at_, g.len.trans h.len, (g.new h.kok).1, fun j u hj => by
    rcases (g.new h.kok).2 j u hj with x | x
    · exact h.each j u x
    · exact x.2⟩
def lkC (E : LE) (s : VS) : List Value := [.int .i64 E.p.globals, E.vf, .int .i64 E.f.params, E.vl, .int .i64 E.f.kind, E.vc, .slice (some ⟨E.ab, 0, none⟩) s.ahead.length s.ahead.length, .int .i64 s.at_, .string (tx s.waits), .int .i64 s.wrong]
structure LkAt (E : LE) (W : World) (s : VS) : Prop where
  inn : LkIn E
  bel : Below E.W0.heap.size E.W0 W
  blk : BlkO W E.lb (lkC E s)
  row : BlkO W E.ab (sdsC s.ahead)
  ok : VOk E.f s
/-- What a call may turn. -/
def LkS (E : LE) (b : Nat) : Prop := b = E.lb ∨ b = E.ab
namespace LkAt
variable {E : LE} {W W' : World} {s : VS}
theorem keeps {S : Nat → Prop} (h : LkAt E W s) (hk : Keeps S W W') (h1 : ¬ S E.lb) (h2 : ¬ S E.ab) (h3 : ∀ b, S b → E.W0.heap.size ≤ b) : LkAt E W' s :=
  ⟨h.inn, h.bel.trans (hk.below h.bel.size fun b _ hb => h3 b hb), h.blk.keeps hk h1, h.row.keeps hk h2, h.ok⟩
theorem fresh (h : LkAt E W s) (hk : Keeps (fun _ => False) W W') : LkAt E W' s := h.keeps hk id id fun _ e => e.elim
theorem below (h : LkAt E W s) (hb : Below W.heap.size W W') : LkAt E W' s := h.fresh (Keeps.of_new hb)
theorem fail (h : LkAt E W s) (e : Nat) (he : s.wrong = 0) : LkAt E (W.setCell ⟨E.lb, 9, none⟩ (.int .i64 e)) (s.fail e) ∧ Keeps (LkS E) W (W.setCell ⟨E.lb, 9, none⟩ (.int .i64 e)) := by
  have hk := own_set W E.lb 9 (.int .i64 e)
  have e1 : s.fail e = { s with wrong := e } := by unfold VS.fail; rw [if_pos he]
  refine ⟨⟨h.inn, h.bel.trans (hk.below h.bel.size fun b _ hb => by rw [hb]; exact h.inn.lo), ?_, ?_, h.ok.grow (grow_fail s e)⟩, hk.mono fun b _ hb => Or.inl hb⟩
  · rw [e1]; exact h.blk.set 9 (.int .i64 e) (show 9 < 10 by decide)
  · rw [e1]; exact h.row.keeps hk (fun e => h.inn.ne e.symm)
theorem waits (h : LkAt E W s) (u : Wt) (hu : KOk u) : LkAt E (W.setCell ⟨E.lb, 8, none⟩ (.string (tx u))) { s with waits := u } ∧ Keeps (LkS E) W (W.setCell ⟨E.lb, 8, none⟩ (.string (tx u))) := by
  have hk := own_set W E.lb 8 (.string (tx u))
  refine ⟨⟨h.inn, h.bel.trans (hk.below h.bel.size fun b _ hb => by rw [hb]; exact h.inn.lo), ?_, ?_, ⟨h.ok.at_, h.ok.len, hu, h.ok.each⟩⟩, hk.mono fun b _ hb => Or.inl hb⟩
  · exact h.blk.set 8 (.string (tx u)) (show 8 < 10 by decide)
  · exact h.row.keeps hk (fun e => h.inn.ne e.symm)
theorem at_ (h : LkAt E W s) (k : Nat) (hk9 : k ≤ 9000) : LkAt E (W.setCell ⟨E.lb, 7, none⟩ (.int .i64 k)) { s with at_ := k } ∧ Keeps (LkS E) W (W.setCell ⟨E.lb, 7, none⟩ (.int .i64 k)) := by
  have hk := own_set W E.lb 7 (.int .i64 k)
  refine ⟨⟨h.inn, h.bel.trans (hk.below h.bel.size fun b _ hb => by rw [hb]; exact h.inn.lo), ?_, ?_, ⟨hk9, h.ok.len, h.ok.kok, h.ok.each⟩⟩, hk.mono fun b _ hb => Or.inl hb⟩
  · exact h.blk.set 7 (.int .i64 k) (show 7 < 10 by decide)
  · exact h.row.keeps hk (fun e => h.inn.ne e.symm)
theorem ahead (h : LkAt E W s) (k : Nat) (u : Wt) (hk : k < s.ahead.length) (hu : KOk u) : LkAt E ((W.setCell ⟨E.ab, k * 2, none⟩ (.bool true)).setCell ⟨E.ab, k * 2 + 1, none⟩ (.string (tx u))) { s with ahead := s.ahead.set k (some u) } ∧ Keeps (LkS E) W ((W.setCell ⟨E.ab, k * 2, none⟩ (.bool true)).setCell ⟨E.ab, k * 2 + 1, none⟩ (.string (tx u))) := by
  have hk2 := (own_set W E.ab (k * 2) (.bool true)).trans (own_set _ E.ab (k * 2 + 1) (.string (tx u)))
  refine ⟨⟨h.inn, h.bel.trans (hk2.below h.bel.size fun b _ hb => by rw [hb]; exact h.inn.lo2), ?_, ?_, ⟨h.ok.at_, by simpa using h.ok.len, h.ok.kok, fun j v hj => ?_⟩⟩, hk2.mono fun b _ hb => Or.inr hb⟩
  · have := h.blk.keeps hk2 (fun e => h.inn.ne e)
    simpa [lkC] using this
  · have h1 := (h.row.set (k * 2) (.bool true) (by rw [sdsC_length]; omega)).set (k * 2 + 1) (.string (tx u)) (by rw [List.length_set, sdsC_length]; omega)
    have h2 := sdsC_set s.ahead k (some u)
    dsimp only [Option.isSome, Option.getD] at h2
    rw [h2] at h1
    exact h1
  · dsimp only at hj
    rw [getD_set] at hj
    split at hj
    · cases hj; exact hu
    · exact h.ok.each j v hj
end LkAt
/-- What a call leaves. -/
structure LkSays (E : LE) (W W' : World) (s' : VS) : Prop where
  lk : LkAt E W' s'
  kp : Keeps (LkS E) W W'
end Go.Proofs.YtlfcfaceeloedaaDoor
