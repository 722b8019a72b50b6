/-
  The walks of package lex, third part: the cutter in memory; where a line ends; blanks and remarks.
-/
import Derived.Test.YthkfdhglgonmnaaGreatDoorLexW2
import Derived.Laws.AppendOwn
import Derived.Deep.Draws
namespace Go.Proofs.YthkfdhglgonmnaaGreatDoor
open Go.RowKit Lx

/-- A text's bytes as a text. -/
def mkT (l : B) : ByteArray := ⟨l.toArray⟩
theorem mkT_list (l : B) : (mkT l).data.toList = l := rfl
theorem mkT_data (s : ByteArray) : mkT s.data.toList = s := by cases s; rfl
theorem mkT_size (l : B) : (mkT l).size = l.length := by simp [mkT, ByteArray.size]
/-- Tokens as cells. -/
def cellsT (ts : List Tok) : List Value := ts.flatMap fun t => [.int .i64 t.kind, .string (mkT t.text), .int .i64 t.at_]
theorem cellsT_snoc (ts : List Tok) (k a : Nat) (l : B) : cellsT ts ++ [.int .i64 k, .string (mkT l), .int .i64 a] = cellsT (ts ++ [⟨k, l, a⟩]) := by simp [cellsT]
theorem cellsT_length (ts : List Tok) : (cellsT ts).length = ts.length * 3 := by
  induction ts with
  | nil => rfl
  | cons p ps ih => simp only [cellsT, List.flatMap_cons, List.length_append, List.length_cons, List.length_nil] at ih ⊢; omega

/-- The cutter: its text, where it is, its tokens. -/
structure CutAt (w : World) (cb : Nat) (s : ByteArray) (a : Nat) (v : Value) (ts : List Tok) : Prop where
  c0 : w.cell? ⟨cb, 0, none⟩ = some (.string s)
  c1 : w.cell? ⟨cb, 1, none⟩ = some (.int .i64 a)
  c2 : w.cell? ⟨cb, 2, none⟩ = some v
  z1 : w.frozen? ⟨cb, 1, none⟩ = false
  z2 : w.frozen? ⟨cb, 2, none⟩ = false
  own : w.ownsRow (cb + 1) 35 3 v ts.length (cellsT ts)

variable {w w' : World} {cb a : Nat} {s : ByteArray} {v : Value} {ts : List Tok}
theorem CutAt.drewN (h : CutAt w cb s a v ts) (n : Nat) : CutAt (w.drewN n) cb s a v ts := ⟨h.c0, h.c1, h.c2, h.z1, h.z2, h.own⟩
theorem CutAt.lt (h : CutAt w cb s a v ts) : cb < w.heap.size := block_lt_of_cell h.c0
theorem CutAt.keeps {S : Nat → Prop} (h : CutAt w cb s a v ts) (k : Keeps S w w') (hr : ¬ S cb) (hs : ∀ b, v.ownBlock = some b → ¬ S b) : CutAt w' cb s a v ts :=
  ⟨k.cell_of h.c0 hr, k.cell_of h.c1 hr, k.cell_of h.c2 hr, by rw [k.frozen h.lt hr]; exact h.z1, by rw [k.frozen h.lt hr]; exact h.z2, k.row h.own hs⟩
theorem CutAt.fresh (h : CutAt w cb s a v ts) (hb : Below w.heap.size w w') : CutAt w' cb s a v ts :=
  h.keeps (S := fun _ => False) (Keeps.of_new hb) (fun h => h) (fun _ _ h => h)
theorem off_neq {x y : Nat} (h : x ≠ y) (a : Nat) : (⟨a, x, none⟩ : Addr) ≠ ⟨a, y, none⟩ := fun e => h (by injection e)
theorem CutAt.ownNe (h : CutAt w cb s a v ts) : v.ownBlock ≠ some cb := by
  rcases h.own.2 with ⟨rfl, _⟩ | ⟨g, cap, cur, rfl, hb, _⟩
  · intro e; cases e
  · intro e
    simp only [Value.ownBlock, Option.some.injEq] at e
    omega
theorem CutAt.set1 (h : CutAt w cb s a v ts) (b : Nat) : CutAt (w.setCell ⟨cb, 1, none⟩ (.int .i64 b)) cb s b v ts := by
  have hs : Keeps (fun b => b = cb) w (w.setCell ⟨cb, 1, none⟩ (.int .i64 b)) := (Keeps.refl (fun b : Nat => b = cb) w).setCell (S := fun b : Nat => b = cb) (p := ⟨cb, 1, none⟩) (Or.inl rfl) _
  refine ⟨?_, World.cell?_setCell_same _ _ _ h.c1, ?_, ?_, ?_, hs.row h.own (fun k e e2 => h.ownNe (by rw [e, e2]))⟩
  · rw [World.cell?_setCell_other _ _ _ _ (off_neq (by decide) cb)]; exact h.c0
  · rw [World.cell?_setCell_other _ _ _ _ (off_neq (by decide) cb)]; exact h.c2
  · rw [World.frozen?_setCell]; exact h.z1
  · rw [World.frozen?_setCell]; exact h.z2

theorem keeps_drewNs {S : Nat → Prop} {a w : World} (h : Keeps S a w) (n : Nat) : Keeps S a (w.drewN n) := ⟨h.os, h.tape, h.output, h.size, h.block⟩

/-- Where the line feed stands. -/
theorem index_line (l : B) : Lib.indexByte l 10 = if lineV l = l.length then -1 else (lineV l : Int) := by
  induction l with
  | nil => rfl
  | cons b r ih =>
    by_cases hb : b = 10
    · subst hb; rfl
    · have e : lineV (b :: r) = lineV r + 1 := by unfold lineV; rw [List.takeWhile_cons_of_pos (by simpa using hb)]; rfl
      by_cases h : lineV r = r.length
      · rw [if_pos h] at ih
        rw [if_pos (by rw [e, h]; rfl)]
        simp [Lib.indexByte, hb, ih]
      · rw [if_neg h] at ih
        have h2 : ¬ ((lineV r : Int) = -1) := by omega
        rw [if_neg (by rw [e, List.length_cons]; omega)]
        simp [Lib.indexByte, hb, ih, e, h2]

set_option maxRecDepth 100000 in
set_option maxHeartbeats 1600000 in
theorem lineEnd_any (w : World) (h : CutAt w cb s a v ts) (ha : a ≤ s.size) (hs : s.size ≤ 4000) :
    Calls Tryz.prog 61 #[.pointer (some ⟨cb, 0, none⟩)] w fun e w' => e = .returned (.int .i64 (a + lineV (rs s a) : Nat)) ∧ ∃ n, w' = w.drewN n := by
  have c0 := h.c0
  have c1 := h.c1
  have hle := lineV_le (rs s a)
  have hlen := rs_length s a
  have hx := index_line (rs s a)
  have IB : Hid (∀ W : World, Calls Tryz.prog 93 #[.string (s.extract a s.size), .int .u8 10] W fun e w' => e = .returned (.int .i64 (if lineV (rs s a) = (rs s a).length then -1 else (lineV (rs s a) : Int))) ∧ ∃ n, w' = W.drewN n) := Lib.hid fun W => by
    refine (Tryz.strings_IndexByte (s.extract a s.size) 10 W).mono ?_
    rintro e w' ⟨rfl, rfl⟩
    rw [rs_extract_all]
    exact ⟨by rw [← hx]; rfl, 0, rfl⟩
  have hai : (a : Int) ≤ (s.size : Int) := by omega
  clear h hx
  rw [hlen] at hle IB
  generalize lineV (rs s a) = m at *
  by_cases hm : m = s.size - a
  · rw [if_pos hm] at IB
    have e1 : ((a + m : Nat) : Int) = (s.size : Int) := by omega
    rw [e1]
    clear e1 hm hle hlen
    go_enter Tryz.func61, Tryz.ntmps61
    go_wp2_with fail
    go_quiet ((go_at_call 93; exact Calls.quiet_of (IB.out _)))
    go_wp2_with fail
    go_ret
    exact ⟨rfl, _, rfl⟩
  · rw [if_neg hm] at IB
    go_enter Tryz.func61, Tryz.ntmps61
    go_wp2_with fail
    go_quiet ((go_at_call 93; exact Calls.quiet_of (IB.out _)))
    go_wp2_with fail
    go_ret
    exact ⟨ret_int (by omega), _, rfl⟩

/-- How far blanks and remarks go. -/
def Skips (s : ByteArray) (a a' : Nat) : Prop := a ≤ a' ∧ a' ≤ s.size ∧ ∀ may, lx (rs s a) a may = lx (rs s a') a' may
/-- Neither a blank nor a remark stands there. -/
def Stands (l : B) : Prop := ∀ b r, l = b :: r → isBl b = false ∧ [47, 47].isPrefixOf l = false
theorem Skips.step {k n : Nat} (h : Skips s a k) (hk : k < s.size) (hs : ∀ may, stepV (rs s k) may = .skip n) : Skips s a (k + n) := by
  have hne : rs s k ≠ [] := by rw [rs_cons s k hk]; simp
  have hb := (Lx.step_skip hne (hs true)).2
  rw [rs_length] at hb
  refine ⟨by have := h.1; omega, by omega, fun may => ?_⟩
  rw [h.2.2 may, lx_skip hne (hs may), rs_drop]

/-- Where a cutter is. -/
def atOf (w : World) (cb : Nat) : Nat := (intOf ((w.cell? ⟨cb, 1, none⟩).getD (.int .i64 0))).toNat
theorem CutAt.atOf (h : CutAt w cb s a v ts) : atOf w cb = a := by simp [Proofs.YthkfdhglgonmnaaGreatDoor.atOf, h.c1, intOf]

set_option maxRecDepth 100000 in
set_option maxHeartbeats 3200000 in
theorem skip_any (w : World) (h : CutAt w cb s a v ts) (ha : a ≤ s.size) (hs : s.size ≤ 4000) :
    Calls Tryz.prog 34 #[.pointer (some ⟨cb, 0, none⟩)] w fun e w' => e = .returned (.tuple #[]) ∧ ∃ a', Skips s a a' ∧ Stands (rs s a') ∧ CutAt w' cb s a' v ts ∧ Keeps (fun b => b = cb) w w' := by
  have H0 := Lib.hid h
  clear h
  go_enter Tryz.func34, Tryz.ntmps34
  go_wp2_with fail
  go_loopw [] (fun wr => ∃ k : Nat, Skips s a k ∧ CutAt wr cb s k v ts ∧ Keeps (fun b => b = cb) w wr) (fun wr => s.size - atOf wr cb)
  case atStart => exact ⟨a, ⟨Nat.le_refl _, ha, fun _ => rfl⟩, H0.out, Keeps.refl _ _⟩
  case round =>
    obtain ⟨k, hk, hc, hkp⟩ := hrel
    have hks := hk.2.1
    have HK := Lib.hid hk
    have HC := Lib.hid hc
    have HP := Lib.hid hkp
    have c0 := hc.c0
    have c1 := hc.c1
    have z1 := hc.z1
    clear hk hc hkp
    have END : Hid (∀ (q n : Nat), k < s.size → (∀ may, stepV (rs s k) may = .skip n) → (∃ k1, Skips s a k1 ∧ CutAt ((wr.drewN q).setCell ⟨cb, 1, none⟩ (.int .i64 ((k + n : Nat) : Int))) cb s k1 v ts ∧ Keeps (fun b => b = cb) w ((wr.drewN q).setCell ⟨cb, 1, none⟩ (.int .i64 ((k + n : Nat) : Int)))) ∧
        s.size - atOf ((wr.drewN q).setCell ⟨cb, 1, none⟩ (.int .i64 ((k + n : Nat) : Int))) cb < s.size - atOf wr cb) := Lib.hid fun q n hlt hst => by
      have h2 := (HC.out.drewN q).set1 (k + n)
      have hne : rs s k ≠ [] := by rw [rs_cons s k hlt]; simp
      have h1 := (Lx.step_skip hne (hst true)).1
      refine ⟨⟨k + n, HK.out.step hlt hst, h2, (keeps_drewNs HP.out q).setCell (Or.inl rfl) _⟩, ?_⟩
      rw [h2.atOf, HC.out.atOf]
      omega
    by_cases hlt : k < s.size
    · have hcons := rs_cons s k hlt
      have hli : (k : Int) < (s.size : Int) := by omega
      have hii : (0 : Int) ≤ (k : Int) ∧ (k : Int) < (s.size : Int) := by omega
      have hle : (k : Int) ≤ (s.size : Int) := by omega
      have hpre := rs_extract_all s k
      by_cases hbl : isBl s[k] = true
      · have hst : ∀ may, stepV (rs s k) may = .skip 1 := fun may => by rw [hcons, stepV_cons, if_pos hbl]
        have E1 := Lib.hid (fun q => END.out q 1 hlt hst)
        have hb3 : s[k].toNat = 32 ∨ s[k].toNat = 9 ∨ s[k].toNat = 13 := by simp [isBl] at hbl; omega
        clear hbl hcons hpre hst
        go_wp2_with fail
        go_quiet (fail)
        go_wp2_with fail
        go_quiet (fail)
        rcases hb3 with h3 | h3 | h3
        · have hi3 : (s[k].toNat : Int) = 32 := by omega
          go_wp2_with fail
          exact E1.out _
        · have hi3 : (s[k].toNat : Int) = 9 := by omega
          go_wp2_with fail
          exact E1.out _
        · have hi3 : (s[k].toNat : Int) = 13 := by omega
          go_wp2_with fail
          exact E1.out _
      · have hbl' : isBl s[k] = false := by simpa using hbl
        have h32 : ¬ ((s[k].toNat : Int) = 32) := by simp [isBl] at hbl'; omega
        have h9 : ¬ ((s[k].toNat : Int) = 9) := by simp [isBl] at hbl'; omega
        have h13 : ¬ ((s[k].toNat : Int) = 13) := by simp [isBl] at hbl'; omega
        have HX : ∀ r, [47, 47].isPrefixOf (rs s k) = r → Hid (∀ q z, Calls Tryz.prog 26 #[.string (s.extract k s.size), .string ⟨#[47, 47]⟩] (wr.drewN (q + z)) fun e w' => e = .returned (.bool r) ∧ ∃ n, w' = wr.drewN (q + n)) := fun r hr => Lib.hid fun q z => by
          refine (Tryz.strings_HasPrefix (s.extract k s.size) ⟨#[47, 47]⟩ _).mono ?_
          rintro e w' ⟨rfl, rfl⟩
          rw [hpre]
          exact ⟨by rw [← hr]; rfl, z, rfl⟩
        by_cases hp : [47, 47].isPrefixOf (rs s k) = true
        · have hst : ∀ may, stepV (rs s k) may = .skip (lineV (rs s k)) := fun may => by rw [hcons] at hp ⊢; rw [stepV_cons, if_neg hbl, if_pos hp]
          have hx := HX _ hp
          have E1 := Lib.hid (fun q => END.out q (lineV (rs s k)) hlt hst)
          have HLE : Hid (∀ q, Calls Tryz.prog 61 #[.pointer (some ⟨cb, 0, none⟩)] (wr.drewN q) fun e w' => e = .returned (.int .i64 (k + lineV (rs s k) : Nat)) ∧ ∃ n, w' = (wr.drewN q).drewN n) := Lib.hid fun q => lineEnd_any _ (HC.out.drewN q) hks hs
          clear hbl hbl' hcons hpre hst HX hp
          generalize lineV (rs s k) = m at *
          go_wp2_with fail
          go_quiet (fail)
          go_wp2_with fail
          go_quiet (fail)
          go_wp2_with fail
          go_quiet ((go_at_call 26; exact hx.out _ _))
          go_wp2_with fail
          refine (HLE.out _).mono ?_
          rintro e w' ⟨rfl, q, rfl⟩
          go_wp2_with fail
          exact E1.out _
        · have hp' : [47, 47].isPrefixOf (rs s k) = false := Bool.eq_false_iff.2 hp
          have hx := HX _ hp'
          have hst : Stands (rs s k) := fun b r e => by
            rw [hcons] at e
            cases e
            exact ⟨hbl', hp'⟩
          have HS := Lib.hid hst
          clear hbl hbl' hcons hpre hst HX hp hp'
          go_wp2_with fail
          go_quiet (fail)
          go_wp2_with fail
          go_quiet (fail)
          go_wp2_with fail
          go_quiet ((go_at_call 26; exact hx.out _ _))
          go_wp2_with fail
          try simp only [Exit.inBlock, Exit.then]
          refine bodyPost_ret (results_none rfl _ _ _) rfl ?_
          exact ⟨rfl, k, HK.out, HS.out, (HC.out.drewN _).drewN _, keeps_drewNs (keeps_drewNs HP.out _) _⟩
    · have hli : ¬ (k : Int) < (s.size : Int) := by omega
      have HS : Hid (Stands (rs s k)) := Lib.hid (by rw [rs_nil s k (by omega)]; intro b r e; cases e)
      go_wp2_with fail
      go_quiet (fail)
      go_wp2_with fail
      go_end0
      exact ⟨rfl, k, HK.out, HS.out, HC.out.drewN _, keeps_drewNs HP.out _⟩
end Go.Proofs.YthkfdhglgonmnaaGreatDoor
