/-
  Two rings beside one another: whole numbers in one, their texts in the other.
-/
import Derived.Test.YtnhlabbempaidaaDoorRinged
import Derived.Test.YtnhlabbempaidaaDoorRingI3
import Derived.Test.YtnhlabbempaidaaDoorPick
import Derived.Test.YtnhlabbempaidaaDoorBools
import Derived.Test.YtnhlabbempaidaaDoorErrLd
import Derived.Test.YtnhlabbempaidaaDoorShelf
import Derived.Lib.LaidTab
namespace Go.Proofs.YtnhlabbempaidaaDoor
open Go.RowKit

/-- The library's table of powers of ten. -/
abbrev Pow (w : World) : Prop := Lib.TabIs Tryd.prog w "internal/strconv.uint64pow10" .u64 Lib.pow10Tab
theorem gPow : Tryd.prog.globalNamed "internal/strconv.uint64pow10" = some 1 := by kernel_rfl
theorem tPow : (Tryd.prog.globals[1]?).map (·.type) = some 153 := by kernel_rfl
theorem cells_u64 : Tryd.prog.cellsOf 132 = 1 := by kernel_rfl
theorem cells_pow : Tryd.prog.cellsOf 153 = 20 := by kernel_rfl
theorem Pow.at {w : World} (h : Pow w) : 1 < w.heap.size := by
  unfold Pow Lib.TabIs World.var? at h
  rw [gPow] at h
  simp only [Option.bind_some] at h
  rcases Nat.lt_or_ge 1 w.heap.size with h' | h'
  · exact h'
  · rw [Array.getElem?_eq_none h'] at h; cases h
theorem Pow.keeps {S : Nat → Prop} {w w' : World} (h : Pow w) (hk : Keeps S w w') (hS : ¬ S 1) : Pow w' := by
  have hlt := h.at
  unfold Pow Lib.TabIs World.var? at h ⊢
  rw [gPow] at h ⊢
  simp only [Option.bind_some] at h ⊢
  rw [hk.block _ hlt hS]
  exact h
/-- A number's text. -/
def sOf (x : Int) : ByteArray := ⟨(Lib.itoa x).toArray⟩
theorem itoa_any (n : Int) (h0 : -9223372036854775808 ≤ n) (h1 : n ≤ 9223372036854775807) (w : World) (h : Pow w) : Calls Tryd.prog 26 #[.int .i64 n] w fun e w' =>
    e = .returned (.string (sOf n)) ∧ Keeps (fun _ => False) w w' := by
  refine (Tryd.strconv_Itoa n h0 h1 w h).mono ?_
  rintro e w' ⟨rfl, k, os, rfl⟩
  exact ⟨rfl, Keeps.of_new ⟨rfl, rfl, rfl, by simp [Sort.grow, World.drewN], fun k hk => by simp [Sort.grow, World.drewN, Array.getElem?_append, hk]⟩⟩

/-- The two rings, and all that lies around them. -/
structure Alike (w0 w : World) (ra sa rb sb n : Nat) (U : List Int) (V : List ByteArray) : Prop where
  a : RingL eI w ra sa n U
  b : RingL eS w rb sb n V
  pow : Pow w
  lo1 : w0.heap.size ≤ ra
  lo2 : w0.heap.size ≤ sa
  lo3 : w0.heap.size ≤ rb
  lo4 : w0.heap.size ≤ sb
  ap : ∀ k, Two ra sa k → ¬ Two rb sb k
  low : 1 < w0.heap.size
  bel : Below w0.heap.size w0 w
section
variable {w0 w w' : World} {ra sa rb sb n : Nat} {U : List Int} {V : List ByteArray}
theorem Alike.lowA (h : Alike w0 w ra sa rb sb n U V) : ∀ k, Two ra sa k → w0.heap.size ≤ k := by
  intro k hk
  have := h.lo1
  have := h.lo2
  rcases hk with rfl | rfl <;> assumption
theorem Alike.lowB (h : Alike w0 w ra sa rb sb n U V) : ∀ k, Two rb sb k → w0.heap.size ≤ k := by
  intro k hk
  have := h.lo3
  have := h.lo4
  rcases hk with rfl | rfl <;> assumption
theorem Alike.onA {U' : List Int} (h : Alike w0 w ra sa rb sb n U V) (hr : RingL eI w' ra sa n U') (hk : Keeps (Two ra sa) w w') : Alike w0 w' ra sa rb sb n U' V :=
  ⟨hr, h.b.keeps hk (fun e => h.ap _ e (Or.inl rfl)) (fun e => h.ap _ e (Or.inr rfl)), h.pow.keeps hk (fun e => by have := h.lowA _ e; have := h.low; omega), h.lo1, h.lo2, h.lo3, h.lo4, h.ap, h.low, h.bel.trans (hk.below h.bel.size fun k _ e => h.lowA k e)⟩
theorem Alike.onB {V' : List ByteArray} (h : Alike w0 w ra sa rb sb n U V) (hr : RingL eS w' rb sb n V') (hk : Keeps (Two rb sb) w w') : Alike w0 w' ra sa rb sb n U V' :=
  ⟨h.a.keeps hk (fun e => h.ap _ (Or.inl rfl) e) (fun e => h.ap _ (Or.inr rfl) e), hr, h.pow.keeps hk (fun e => by have := h.lowB _ e; have := h.low; omega), h.lo1, h.lo2, h.lo3, h.lo4, h.ap, h.low, h.bel.trans (hk.below h.bel.size fun k _ e => h.lowB k e)⟩
theorem Alike.onNone (h : Alike w0 w ra sa rb sb n U V) (hk : Keeps (fun _ => False) w w') : Alike w0 w' ra sa rb sb n U V :=
  ⟨h.a.keeps hk id id, h.b.keeps hk id id, h.pow.keeps hk id, h.lo1, h.lo2, h.lo3, h.lo4, h.ap, h.low, h.bel.trans (hk.below h.bel.size fun _ _ e => e.elim)⟩
theorem Alike.drew (h : Alike w0 w ra sa rb sb n U V) : Alike w0 w.drew ra sa rb sb n U V := h.onNone (Keeps.refl _ _).drew
theorem Alike.pushI_ok (h : Alike w0 w ra sa rb sb n U V) (hl : U.length < n) (x : Int) : Calls Tryd.prog 12 #[.pointer (some ⟨ra, 0, none⟩), .int .i64 x] w fun e w' =>
    e = .returned .nilIface ∧ Alike w0 w' ra sa rb sb n (U ++ [x]) V :=
  (lpushI_ok h.a hl x).mono fun _ _ ⟨he, hr, hk⟩ => ⟨he, h.onA hr hk⟩
theorem Alike.pushI_full (h : Alike w0 w ra sa rb sb n U V) (hl : U.length = n) (x : Int) : Calls Tryd.prog 12 #[.pointer (some ⟨ra, 0, none⟩), .int .i64 x] w fun e w' =>
    e = .returned (.iface 29 (.int .i64 12)) ∧ Alike w0 w' ra sa rb sb n U V :=
  (lpushI_full h.a hl x).mono fun _ _ ⟨he, hr, hk⟩ => ⟨he, h.onA hr hk⟩
theorem Alike.pushS_ok (h : Alike w0 w ra sa rb sb n U V) (hl : V.length < n) (x : ByteArray) : Calls Tryd.prog 25 #[.pointer (some ⟨rb, 0, none⟩), .string x] w fun e w' =>
    e = .returned .nilIface ∧ Alike w0 w' ra sa rb sb n U (V ++ [x]) :=
  (lpushS_ok h.b hl x).mono fun _ _ ⟨he, hr, hk⟩ => ⟨he, h.onB hr hk⟩
theorem Alike.pushS_full (h : Alike w0 w ra sa rb sb n U V) (hl : V.length = n) (x : ByteArray) : Calls Tryd.prog 25 #[.pointer (some ⟨rb, 0, none⟩), .string x] w fun e w' =>
    e = .returned (.iface 29 (.int .i64 12)) ∧ Alike w0 w' ra sa rb sb n U V :=
  (lpushS_full h.b hl x).mono fun _ _ ⟨he, hr, hk⟩ => ⟨he, h.onB hr hk⟩
theorem Alike.itoa (h : Alike w0 w ra sa rb sb n U V) (x : Int) (hx : -9223372036854775808 ≤ x ∧ x ≤ 9223372036854775807) : Calls Tryd.prog 26 #[.int .i64 x] w fun e w' =>
    e = .returned (.string (sOf x)) ∧ Alike w0 w' ra sa rb sb n U V :=
  (itoa_any x hx.1 hx.2 w h.pow).mono fun _ _ ⟨he, hk⟩ => ⟨he, h.onNone hk⟩
theorem Alike.popI_ok {x : Int} (h : Alike w0 w ra sa rb sb n (x :: U) V) : Calls Tryd.prog 13 #[.pointer (some ⟨ra, 0, none⟩)] w fun e w' =>
    e = .returned (.tuple #[.int .i64 x, .nilIface]) ∧ Alike w0 w' ra sa rb sb n U V :=
  (lpopI_ok h.a).mono fun _ _ ⟨he, hr, hk⟩ => ⟨he, h.onA hr hk⟩
theorem Alike.popI_none (h : Alike w0 w ra sa rb sb n [] V) : Calls Tryd.prog 13 #[.pointer (some ⟨ra, 0, none⟩)] w fun e w' =>
    e = .returned (.tuple #[.int .i64 0, .iface 29 (.int .i64 8)]) ∧ Alike w0 w' ra sa rb sb n [] V :=
  (lpopI_none h.a).mono fun _ _ ⟨he, hr, hk⟩ => ⟨he, h.onA hr hk⟩
theorem Alike.popS_ok {x : ByteArray} (h : Alike w0 w ra sa rb sb n U (x :: V)) : Calls Tryd.prog 27 #[.pointer (some ⟨rb, 0, none⟩)] w fun e w' =>
    e = .returned (.tuple #[.string x, .nilIface]) ∧ Alike w0 w' ra sa rb sb n U V :=
  (lpopS_ok h.b).mono fun _ _ ⟨he, hr, hk⟩ => ⟨he, h.onB hr hk⟩
theorem Alike.popS_none (h : Alike w0 w ra sa rb sb n U []) : Calls Tryd.prog 27 #[.pointer (some ⟨rb, 0, none⟩)] w fun e w' =>
    e = .returned (.tuple #[.string ByteArray.empty, .iface 29 (.int .i64 8)]) ∧ Alike w0 w' ra sa rb sb n U [] :=
  (lpopS_none h.b).mono fun _ _ ⟨he, hr, hk⟩ => ⟨he, h.onB hr hk⟩
theorem Alike.atI_ok (h : Alike w0 w ra sa rb sb n U V) (k : Nat) (x : Int) (hx : U[k]? = some x) : Calls Tryd.prog 16 #[.pointer (some ⟨ra, 0, none⟩), .int .i64 k] w fun e w' =>
    e = .returned (.tuple #[.int .i64 x, .nilIface]) ∧ Alike w0 w' ra sa rb sb n U V :=
  (latI_ok h.a k x hx).mono fun _ _ ⟨he, hr, hk⟩ => ⟨he, h.onA hr hk⟩
theorem Alike.atS_ok (h : Alike w0 w ra sa rb sb n U V) (k : Nat) (x : ByteArray) (hx : V[k]? = some x) : Calls Tryd.prog 28 #[.pointer (some ⟨rb, 0, none⟩), .int .i64 k] w fun e w' =>
    e = .returned (.tuple #[.string x, .nilIface]) ∧ Alike w0 w' ra sa rb sb n U V :=
  (latS_ok h.b k x hx).mono fun _ _ ⟨he, hr, hk⟩ => ⟨he, h.onB hr hk⟩
end
end Go.Proofs.YtnhlabbempaidaaDoor
