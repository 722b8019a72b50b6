/-
  The laws' channels, in memory of their own; and the laws' fact: a number goes from one task to another one.
-/
import Derived.Test.YtpehmghnfbkaaaaDoorPipeWH
namespace Go.Proofs.YtpehmghnfbkaaaaDoor
open Go.RowKit Go.Maps Pp

/-- Channels that are of the law's own. -/
structure Live (w0 w : World) (ρ : Nat → Role) (pb N : Nat) (s : St) : Prop where
  pipes : Pipes w ρ pb N s
  own : ∀ b, ρ b ≠ .free → w0.heap.size ≤ b
  below : Below w0.heap.size w0 w
theorem Live.dom {w0 w : World} {ρ : Nat → Role} {pb N : Nat} {s : St} (h : Live w0 w ρ pb N s) : ∀ b, ρ b ≠ .free → b < w.heap.size := by
  obtain ⟨_, vch, ptr, mb, D, h1⟩ := h.pipes
  exact h1.dom
theorem Live.free {w0 w : World} {ρ : Nat → Role} {pb N : Nat} {s : St} (h : Live w0 w ρ pb N s) {b : Nat} (hb : w.heap.size ≤ b ∨ b < w0.heap.size) : ρ b = .free := Classical.byContradiction fun e => by
  have := h.dom b e
  have := h.own b e
  omega
/-- What others do. -/
theorem Live.keeps {w0 w w' : World} {ρ : Nat → Role} {pb N : Nat} {s : St} (h : Live w0 w ρ pb N s) {S : Nat → Prop} (hk : Keeps S w w') (hS : ∀ b, b < w.heap.size → S b → ρ b = .free ∧ w0.heap.size ≤ b) : Live w0 w' ρ pb N s :=
  ⟨h.pipes.keeps hk fun b hb e => (hS b hb e).1, h.own, h.below.trans (hk.below h.below.size fun b hb e => (hS b hb e).2)⟩
theorem Live.new {w0 w w' : World} {ρ : Nat → Role} {pb N : Nat} {s : St} (h : Live w0 w ρ pb N s) (hk : Keeps (fun _ => False) w w') : Live w0 w' ρ pb N s := h.keeps hk fun _ _ e => e.elim
/-- The first channels: none. -/
theorem live_zero {w0 w : World} (hb : Below w0.heap.size w0 w) (t : TypeId) : ∃ ρ, Live w0 (w.alloc (.cells #[.slice none 0 0, .map none] t)) ρ w.heap.size 0 Pp.zero := by
  have hs := hb.size
  refine ⟨fun b => if b = w.heap.size then .pipes else .free, ⟨Ok.zero, .slice none 0 0, [], none, .map [], ?_⟩, fun b hb2 => ?_, hb.alloc hs _⟩
  · refine ⟨by rw [World.cell?_alloc_at _ _ _ _ rfl]; rfl, by rw [World.cell?_alloc_at _ _ _ _ rfl]; rfl, fun j => by rw [World.frozen?_alloc_at _ _ _ _ rfl], World.ownsRow_nil _ _ _ _, rfl, Nat.zero_le _, fun k cb c hcb => (by simp at hcb), fun k c hc => (by simp [Pp.zero] at hc),
      fun _ => rfl, fun b e => (by cases e), fun t => rfl, fun t l hl => (by cases hl), by simp, fun b e => (by cases e), fun b hb2 => ?_⟩
    by_cases e : b = w.heap.size
    · subst e; simp
    · simp [e] at hb2
  · by_cases e : b = w.heap.size
    · omega
    · simp [e] at hb2
/-- Behind a talk. -/
structure TalkL (w0 w w' : World) (ρ : Nat → Role) (pb N : Nat) (r : Pp.Told) (vw : Value) : Prop where
  live : ∃ ρ', Live w0 w' ρ' pb (N + 1) r.st ∧ (∀ g, g < w.heap.size → ρ' g = ρ g) ∧ ∀ g, vw.ownBlock = some g → ρ' g = .free
  wk : w'.ownsRow w.heap.size 65 3 vw r.wakes.length (cellsK r.wakes)
  keep : Keeps (fun b => ρ b ≠ .free) w w'
theorem Live.step {w0 w w' : World} {ρ ρ' : Nat → Role} {pb N N' : Nat} {s s' : St} (h : Live w0 w ρ pb N s) (hp : Pipes w' ρ' pb N' s') (hx : ∀ g, g < w.heap.size → ρ' g = ρ g) (hk : Keeps (fun b => ρ b ≠ .free) w w') : Live w0 w' ρ' pb N' s' :=
  ⟨hp, fun b hb => by
    rcases Nat.lt_or_ge b w.heap.size with h1 | h1
    · rw [hx b h1] at hb; exact h.own b hb
    · exact Nat.le_trans h.below.size h1, h.below.trans (hk.below h.below.size fun b _ e => h.own b e)⟩
theorem live_talk {w0 w : World} {ρ : Nat → Role} {pb N : Nat} {s : St} (h : Live w0 w ρ pb N s) (hN : N ≤ 100000) (task : Int) (hwf : (Lit.int .i64 task).wf = true) {v : Value} {l : List Tk} (hl : TalksAt w v l) (hvo : ∀ g, v.ownBlock = some g → ρ g = .free)
    (draw : Int) (hd : -9223372036854775808 ≤ draw ∧ draw ≤ 9223372036854775807) {r : Pp.Told} (hr : Pp.talk s task l draw = r) {er : Value} (he : errV r.err = er) :
    Calls Tryd.prog 9 #[.pointer (some ⟨pb, 0, none⟩), .int .i64 task, v, .int .i64 draw] w fun e w' => ∃ vw, e = .returned (.tuple #[.agg #[.int .i64 r.case, .int .i64 r.n], vw, .bool r.waits, er]) ∧
      TalkL w0 w w' ρ pb N r vw := by
  subst hr
  subst he
  refine (talk_any h.pipes hN task hwf hl hvo draw hd).mono ?_
  rintro e w' ⟨vw, rfl, ⟨ρ', h1, h2, h3⟩, h4, h5⟩
  exact ⟨vw, rfl, ⟨ρ', h.step h1 h2 h5, h2, h3⟩, h4, h5⟩
theorem live_make {w0 w : World} {ρ : Nat → Role} {pb N : Nat} {s : St} (h : Live w0 w ρ pb N s) (n : Nat) (hn : n ≤ 8) (hm : s.chs.length < 32) :
    Calls Tryd.prog 6 #[.pointer (some ⟨pb, 0, none⟩), .int .i64 (n : Nat)] w fun e w' => e = .returned (.tuple #[.int .i64 ((s.chs.length : Int) + 1), .nilIface]) ∧
      (∃ ρ', Live w0 w' ρ' pb N ⟨s.chs ++ [newCh n], s.asks⟩ ∧ ∀ g, g < w.heap.size → ρ' g = ρ g) ∧ Keeps (fun b => ρ b ≠ .free) w w' := by
  have hv : makeV s (n : Int) = ⟨(s.chs.length : Int) + 1, 0, ⟨s.chs ++ [newCh n], s.asks⟩⟩ := by unfold makeV; rw [if_neg (by omega), if_neg (by omega), Int.toNat_natCast]
  refine (make_any h.pipes (n : Int)).mono ?_
  rintro e w' ⟨rfl, ⟨ρ', h1, h2⟩, h3⟩
  rw [hv] at h1
  rw [hv]
  exact ⟨rfl, ⟨ρ', h.step h1 h2 h3, h2⟩, h3⟩
/-- A slice of one talk that was just made. -/
theorem talk_one (w : World) (x : Tk) (t : TypeId) {b : Nat} (hb : b = w.heap.size) : TalksAt (w.alloc (.cells #[.int .i64 x.what, .int .i64 x.chan, .int .i64 x.n] t)) (.slice (some ⟨b, 0, none⟩) 1 1) [x] := by
  subst hb
  refine ⟨_, _, _, rfl, rfl, Nat.le_refl _, by unfold maxLen; decide, fun _ => ⟨w.heap.size, 0, rfl, by simp, fun i y hy => ?_⟩⟩
  have h0 : i = 0 := by
    have := (List.getElem?_eq_some_iff.1 hy).1
    simpa using this
  subst h0
  simp at hy
  subst hy
  rw [World.cell?_alloc_at _ _ _ _ rfl, World.cell?_alloc_at _ _ _ _ rfl, World.cell?_alloc_at _ _ _ _ rfl]
  exact ⟨rfl, rfl, rfl⟩
theorem alloc_new (w : World) (o : Obj) : Keeps (fun _ => False) w (w.alloc o) := (Keeps.refl _ w).alloc o
theorem wf_small (n : Int) (h : -9223372036854775808 ≤ n ∧ n ≤ 9223372036854775807) : (Lit.int .i64 n).wf = true := by
  simp [Lit.wf, IntKind.min, IntKind.max, IntKind.signed, IntKind.bits]
  omega
/-- The first one that goes on. -/
theorem wake_cells {w : World} {B : Nat} {v : Value} {x : Wk} {l : List Wk} (h : w.ownsRow B 65 3 v (x :: l).length (cellsK (x :: l))) : ∃ g cap, v = .slice (some ⟨g, 0, none⟩) (x :: l).length cap ∧ (x :: l).length ≤ cap ∧ cap ≤ maxLen ∧
    w.cell? ⟨g, 0, none⟩ = some (.int .i64 x.task) ∧ w.cell? ⟨g, 1, none⟩ = some (.int .i64 (x.case : Int)) ∧ w.cell? ⟨g, 2, none⟩ = some (.int .i64 x.n) := by
  have hc := h
  rcases h.2 with ⟨rfl, h0⟩ | ⟨g, cap, cur, rfl, _, _, h1, h2, _⟩
  · cases h0
  · refine ⟨g, cap, rfl, h1, h2, ?_, ?_, ?_⟩
    · have := World.ownsRow.cells hc (g := g) rfl 0 (.int .i64 x.task) rfl
      rwa [addr_addP] at this
    · have := World.ownsRow.cells hc (g := g) rfl 1 (.int .i64 (x.case : Int)) rfl
      rwa [addr_addP] at this
    · have := World.ownsRow.cells hc (g := g) rfl 2 (.int .i64 x.n) rfl
      rwa [addr_addP] at this
def pipedS : St := ⟨[newCh 0], fun _ => none⟩
set_option maxRecDepth 100000 in
set_option maxHeartbeats 6400000 in
theorem piped_any (w : World) : Calls Tryd.prog 20 #[] w fun e w' => e = .returned (.bool true) ∧ Below w.heap.size w w' := by
  obtain ⟨ρ0, h0⟩ := live_zero (Below.refl w.heap.size w) 31
  have H0 := Lib.hid h0
  clear h0
  go_enter Tryd.func20, Tryd.ntmps20
  go_wp2_with fail
  refine (live_make H0.out 0 (by decide) (by decide)).mono ?_
  rintro e w1 ⟨rfl, ⟨ρ1, h1, -⟩, -⟩
  have H1 : Hid (Live w w1 ρ1 w.heap.size 0 pipedS) := Lib.hid h1
  rw [show ((Pp.zero.chs.length : Int) + 1) = 1 from rfl]
  clear h1
  have H2 : Hid (Live w (w1.alloc (.cells #[.int .i64 3, .int .i64 1, .int .i64 7] 85)) ρ1 w.heap.size 0 pipedS) := Lib.hid (H1.out.new (alloc_new _ _))
  have HF2 : Hid (ρ1 w1.heap.size = .free) := Lib.hid (H1.out.free (Or.inl (Nat.le_refl _)))
  go_wp2_with fail
  refine (live_talk H2.out (by decide) 1 (by decide) (talk_one w1 ⟨3, 1, 7⟩ _ rfl) (fun g hg => by cases hg; exact HF2.out) 0 (by decide) (r := ⟨Pp.wait pipedS 1 [⟨3, 1, 7⟩], 0, 0, [], true, 0⟩) rfl (er := .nilIface) rfl).mono ?_
  rintro e w3 ⟨vw, rfl, ⟨ρ3, h3, -⟩, hw3, -⟩
  have H4 : Hid (Live w ((w3.alloc (.cells #[.int .i64 0, .int .i64 0] 44)).alloc (.cells #[.int .i64 10, .int .i64 1, .int .i64 0] 85)) ρ3 w.heap.size (0 + 1) (Pp.wait pipedS 1 [⟨3, 1, 7⟩])) := Lib.hid ((h3.new (alloc_new _ _)).new (alloc_new _ _))
  have HF3 : Hid (ρ3 (w3.heap.size + 1) = .free) := Lib.hid (h3.free (Or.inl (Nat.le_succ _)))
  clear h3 hw3
  go_wp2_with fail
  refine (live_talk H4.out (by decide) 2 (by decide) (talk_one (w3.alloc (.cells #[.int .i64 0, .int .i64 0] 44)) ⟨10, 1, 0⟩ _ (by simp)) (fun g hg => by cases hg; exact HF3.out) 0 (by decide) (r := ⟨Pp.wake (Pp.wait pipedS 1 [⟨3, 1, 7⟩]) 1, 0, 7, [⟨1, 0, 0⟩], false, 0⟩) rfl (er := .nilIface) rfl).mono ?_
  rintro e w5 ⟨vw2, rfl, ⟨ρ5, h5, -⟩, hw5, -⟩
  have H5 := Lib.hid h5.below
  obtain ⟨g, cap, rfl, hcap, hcm, c0, -, -⟩ := wake_cells hw5
  have d0 : (w5.alloc (.cells #[.int .i64 0, .int .i64 7] 44)).cell? ⟨g, 0, none⟩ = some (.int .i64 1) := Go.Lib.cell?_alloc_some _ c0
  clear h5 hw5
  go_wp2_with fail
  go_ret
  exact ⟨rfl, H5.out.alloc H5.out.size _⟩
end Go.Proofs.YtpehmghnfbkaaaaDoor
