/-
  The walk of package pipe's send.
-/
import Derived.Test.YtpehmghnfbkaaaaDoorPipeW7
namespace Go.Proofs.YtpehmghnfbkaaaaDoor
open Go.RowKit Go.Maps Pp

def cellsK (l : List Wk) : List Value := l.flatMap fun x => [.int .i64 x.task, .int .i64 (x.case : Int), .int .i64 x.n]
/-- What comes of a send or of a receive. -/
structure GotAt (w w' : World) (ρ : Nat → Role) (pb : Nat) (vch : Value) (ptr : List Nat) (mb : Option Nat) (N M : Nat) (g : Got) (vw : Value) : Prop where
  at_ : ∃ D', PipesAt w' ρ pb vch ptr mb D' N M g.st
  wk : w'.ownsRow w.heap.size 65 3 vw g.wakes.length (cellsK g.wakes)
  keep : Keeps (fun b => ρ b ≠ .free) w w'
/-- A row of one, just made. -/
theorem own_one (w : World) {B : Nat} (hB : B ≤ w.heap.size) (x : Wk) : (w.alloc (.cells #[.int .i64 x.task, .int .i64 (x.case : Int), .int .i64 x.n] 65)).ownsRow B 65 3 (.slice (some ⟨w.heap.size, 0, none⟩) 1 1) [x].length (cellsK [x]) :=
  ⟨rfl, Or.inr ⟨w.heap.size, 1, #[.int .i64 x.task, .int .i64 (x.case : Int), .int .i64 x.n], rfl, hB, by show (w.heap.push _)[w.heap.size]? = _; simp, Nat.le_refl _, by unfold maxLen; decide, rfl, rfl⟩⟩
section
variable {w w' : World} {ρ : Nat → Role} {k cb rb sb : Nat} {v1 v2 : Value} {c : Ch}
/-- A channel of other numbers. -/
theorem ChC.nums (h : ChC w ρ k cb rb sb v1 v2 c) (hk : Keeps (Two rb sb) w w') {nums : List Int} (hr : RingL eI w' rb sb c.size nums) : ChC w' ρ k cb rb sb v1 v2 { c with nums := nums } := by
  have hn : ∀ g q, ρ g = q → q ≠ .ring k → q ≠ .slots k → ¬ Two rb sb g := fun g q hq h1 h2 e => by
    rcases e with rfl | rfl
    · exact h1 (by rw [← hq]; exact h.p1)
    · exact h2 (by rw [← hq]; exact h.p2)
  have hcb : ¬ Two rb sb cb := hn _ _ h.p0 (by simp) (by simp)
  have hlt : cb < w.heap.size := block_lt_of_cell h.c0
  exact ⟨hk.cell_of h.c0 hcb, hk.cell_of h.c1 hcb, hk.cell_of h.c2 hcb, hk.cell_of h.c3 hcb, fun j => by rw [hk.frozen (p := ⟨cb, j, none⟩) hlt hcb]; exact h.z j, hr, Nat.lt_of_lt_of_le h.lt hk.size,
    h.r1.keeps hk fun b hb => hn b _ (h.p3 b hb) (by simp) (by simp), h.r2.keeps hk fun b hb => hn b _ (h.p4 b hb) (by simp) (by simp), h.p0, h.p1, h.p2, h.p3, h.p4⟩
end
theorem PipesAt.nums {w w' : World} {ρ : Nat → Role} {pb : Nat} {vch : Value} {ptr : List Nat} {mb : Option Nat} {D : DataW Value} {N M : Nat} {s : St} (h : PipesAt w ρ pb vch ptr mb D N M s) {k cb rb sb : Nat} {v1 v2 : Value} {c : Ch}
    (hcb : ptr[k]? = some cb) (hc : s.chs[k]? = some c) (hx : ChC w ρ k cb rb sb v1 v2 c) (hk : Keeps (Two rb sb) w w') {nums : List Int} (hr : RingL eI w' rb sb c.size nums) : PipesAt w' ρ pb vch ptr mb D N M (setNums s k nums) := by
  unfold setNums
  rw [modify_set _ hc]
  refine h.put hk (fun _ _ => rfl) (fun g hg => Nat.lt_of_lt_of_le (h.dom g hg) hk.size) k (fun b e => Or.inr ?_) (fun cb' hcb' => ?_) (h.rows k c hc) (Nat.le_refl _)
  · rcases e with rfl | rfl
    · rw [hx.p1]; rfl
    · rw [hx.p2]; rfl
  · rw [hcb] at hcb'
    cases hcb'
    exact ⟨_, _, _, _, hx.nums hk hr⟩
theorem keeps_two {w w' : World} {ρ : Nat → Role} {k cb rb sb : Nat} {v1 v2 : Value} {c : Ch} (hx : ChC w ρ k cb rb sb v1 v2 c) (hk : Keeps (Two rb sb) w w') : Keeps (fun b => ρ b ≠ .free) w w' :=
  hk.mono fun g _ e => by
    rcases e with rfl | rfl
    · rw [hx.p1]; simp
    · rw [hx.p2]; simp

set_option maxRecDepth 100000 in
set_option maxHeartbeats 6400000 in
theorem send_any {w : World} {ρ : Nat → Role} {pb : Nat} {vch : Value} {ptr : List Nat} {mb : Option Nat} {D : DataW Value} {N M : Nat} {s : St} (h : PipesAt w ρ pb vch ptr mb D N M s) (ok : Ok s) (hM : M ≤ 1000000) {k cb : Nat} {c : Ch}
    (hcb : ptr[k]? = some cb) (hc : s.chs[k]? = some c) (n : Int) :
    Calls Tryd.prog 48 #[.pointer (some ⟨pb, 0, none⟩), .pointer (some ⟨cb, 0, none⟩), .int .i64 n] w fun e w' => ∃ vw, e = .returned (.tuple #[vw, errV (Pp.send s k c n).err]) ∧ GotAt w w' ρ pb vch ptr mb N M (Pp.send s k c n) vw := by
  obtain ⟨rb, sb, v1, v2, hx⟩ := h.chs k cb c hcb hc
  obtain ⟨a2, k2, rfl, _, _⟩ := hx.r2.slice
  obtain ⟨size, nums, shut, sends, recvs⟩ := c
  have c1 := hx.c1
  have c3 := hx.c3
  have c0 := hx.c0
  simp only at c1 c3
  have HH := Lib.hid h
  have HX := Lib.hid hx
  have HCB := Lib.hid hcb
  have HC := Lib.hid hc
  have HOK := Lib.hid ok
  have HG0 : GotAt w w ρ pb vch ptr mb N M ⟨s, 0, [], 13⟩ (.slice none 0 0) := ⟨⟨_, h⟩, World.ownsRow_nil _ _ _ _, Keeps.refl _ _⟩
  clear h hx hcb hc ok
  cases shut with
  | true =>
    have hv : Pp.send s k ⟨size, nums, true, sends, recvs⟩ n = ⟨s, 0, [], 13⟩ := rfl
    rw [hv]
    have HG1 := Lib.hid HG0
    clear hv HG0
    go_enter Tryd.func48, Tryd.ntmps48
    go_wp2_with fail
    go_ret2
    exact ⟨_, rfl, HG1.out⟩
  | false =>
    clear HG0
    cases recvs with
    | cons y ys =>
      obtain ⟨t, kk⟩ := y
      have hv : Pp.send s k ⟨size, nums, false, sends, (t, kk) :: ys⟩ n = ⟨wake s t, 0, [⟨t, kk, n⟩], 0⟩ := rfl
      rw [hv]
      obtain ⟨l, x, hl, hlx, hx2, hx3⟩ := HOK.out.recvs k _ HC.out (t, kk) List.mem_cons_self
      have hgood : ∀ x ∈ l, x.good s.chs.length := fun x hx => (HOK.out.talks _ _ hl).2 x hx
      have HW := Lib.hid (wake_any HH.out hM t kk n hl hgood (HOK.out.talks _ _ hl).1)
      obtain ⟨g, rfl, -, -, -, hg, -⟩ := HX.out.r2.addr (by simp)
      obtain ⟨y1, y2⟩ := HX.out.r2.cell (i := 0) (x := (t, kk)) rfl
      rw [Nat.zero_mul] at y1 y2
      simp only at y1 y2
      have hlen : ((t, kk) :: ys).length = ys.length + 1 := rfl
      rw [hlen] at c3
      have hpos : (0 : Int) < ((ys.length + 1 : Nat) : Int) := by omega
      clear hv hl hlx hx2 hx3 hgood hlen
      generalize ys.length = m at *
      go_enter Tryd.func48, Tryd.ntmps48
      go_wp2_with fail
      refine HW.out.mono ?_
      rintro e w2 ⟨rfl, ⟨D2, h2⟩, hk2⟩
      have H2 := Lib.hid h2
      have HK2 := Lib.hid hk2
      clear h2 hk2
      go_wp2_with fail
      go_ret2
      have hka : Keeps (fun _ => False) w2 (w2.alloc (.cells #[.int .i64 t, .int .i64 (kk : Int), .int .i64 n] 65)) := (Keeps.refl _ w2).alloc _
      exact ⟨_, rfl, ⟨D2, H2.out.keeps hka fun _ _ e => e.elim⟩, own_one w2 HK2.out.size ⟨t, kk, n⟩, HK2.out.trans' hka fun _ _ e => e.elim⟩
    | nil =>
      have hcaps := HOK.out.caps k _ HC.out
      simp only at hcaps
      have c3' : w.cell? ⟨cb, 3, none⟩ = some (.slice a2 0 k2) := c3
      clear c3
      by_cases hfull : nums.length = size
      · have hv : Pp.send s k ⟨size, nums, false, sends, []⟩ n = ⟨s, 0, [], 12⟩ := by unfold Pp.send; simp [hfull]
        rw [hv]
        have HP := Lib.hid (lpushI_full HX.out.ring hfull n)
        clear hv hcaps hfull
        go_enter Tryd.func48, Tryd.ntmps48
        go_wp2_with fail
        refine HP.out.mono ?_
        rintro e w2 ⟨rfl, hr2, hk2⟩
        have HR2 := Lib.hid hr2
        have HK2 := Lib.hid hk2
        clear hr2 hk2
        go_wp2_with fail
        go_ret2
        have h3 := HH.out.nums HCB.out HC.out HX.out HK2.out HR2.out
        have h4 : setNums s k nums = s := by
          unfold setNums
          rw [modify_set _ HC.out]
          have h5 : s.chs.set k ⟨size, nums, false, sends, []⟩ = s.chs := by
            have := (List.getElem?_eq_some_iff.1 HC.out).2
            rw [← this, List.set_getElem_self]
          simp only at h5 ⊢
          rw [h5]
        rw [h4] at h3
        exact ⟨_, rfl, ⟨_, h3⟩, World.ownsRow_nil _ _ _ _, keeps_two HX.out HK2.out⟩
      · have hv : Pp.send s k ⟨size, nums, false, sends, []⟩ n = ⟨setNums s k (nums ++ [n]), 0, [], 0⟩ := by unfold Pp.send; simp [hfull]
        rw [hv]
        have HP := Lib.hid (lpushI_ok HX.out.ring (by omega : nums.length < size) n)
        clear hv hcaps hfull
        go_enter Tryd.func48, Tryd.ntmps48
        go_wp2_with fail
        refine HP.out.mono ?_
        rintro e w2 ⟨rfl, hr2, hk2⟩
        have HR2 := Lib.hid hr2
        have HK2 := Lib.hid hk2
        clear hr2 hk2
        go_wp2_with fail
        go_ret2
        exact ⟨_, rfl, ⟨_, HH.out.nums HCB.out HC.out HX.out HK2.out HR2.out⟩, World.ownsRow_nil _ _ _ _, keeps_two HX.out HK2.out⟩
end Go.Proofs.YtpehmghnfbkaaaaDoor
