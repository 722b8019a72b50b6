/-
  Texts of one proof, in build order: The walks of the laws' comparison of two halls that are the same. | The walks of the laws' helpers: a room of a script. | The walks of the laws' helpers: turns, and what is to be seen; the fact that a task tells a number, and ends. | Events, to be read.
-/
import Derived.Test.YtnjdmijcoadidaaGreatDoorR6
namespace Go.Proofs.YtnjdmijcoadidaaGreatDoor
open Go.RowKit Go.Maps Pp

set_option maxRecDepth 100000 in
set_option maxHeartbeats 6400000 in
theorem equalP_any {w : World} {v1 v2 : Value} {chs : List Ch} (h1 : ReadP w v1 chs) (h2 : ReadP w v2 chs) :
    Calls Tryz.prog 63 #[v1, v2, .func (.func 64) #[] #[]] w fun e w' => e = .returned (.bool true) ∧ Below w.heap.size w w' := by
  have HR1 := Lib.hid h1
  have HR2 := Lib.hid h2
  obtain ⟨ao1, cap1, rfl, hc1, hm1, -⟩ := h1
  obtain ⟨ao2, cap2, rfl, hc2, hm2, -⟩ := h2
  obtain ⟨n, hn⟩ : ∃ n, n = chs.length := ⟨_, rfl⟩
  have HN := Lib.hid hn
  rw [← hn] at hc1 hc2 HR1 HR2 ⊢
  unfold maxLen at hm1 hm2
  clear hn
  go_enter Tryz.func63, Tryz.ntmps63
  go_wp2_with fail
  go_loopw [17] (fun iv wr => ∃ i : Nat, i ≤ n ∧ iv = .int .i64 i ∧ Below w.heap.size w wr) (fun iv _ => n - (intOf iv).toNat)
  case atStart => exact ⟨0, Nat.zero_le _, rfl, Below.refl _ _⟩
  case round =>
    obtain ⟨i, hi, rfl, hb⟩ := hrel
    rename World => wr
    have HB := Lib.hid hb
    by_cases hin : i < n
    · obtain ⟨_, _, e1, -, -, g1⟩ := HR1.out.below hb
      obtain ⟨_, _, e2, -, -, g2⟩ := HR2.out.below hb
      rw [← HN.out] at e1 e2 g1 g2
      injection e1 with e1 en1 ec1
      injection e2 with e2 en2 ec2
      subst e1 e2
      clear en1 ec1 en2 ec2
      obtain ⟨b1, rfl, hl1, g1⟩ := g1 (by omega)
      obtain ⟨b2, rfl, hl2, g2⟩ := g2 (by omega)
      obtain ⟨c, hx⟩ : ∃ x, chs[i]? = some x := ⟨_, List.getElem?_eq_getElem (by rw [← HN.out]; exact hin)⟩
      obtain ⟨a0, k0, a1, k1, a2, k2, f, hr1⟩ := g1 i c hx
      obtain ⟨d0, l0, d1, l1, d2, l2, j, hr2⟩ := g2 i c hx
      have q0 : wr.cell? ⟨b1, i * 5 + 0, none⟩ = some (.int .i64 (c.size : Int)) := f 0 _ rfl
      have q1 : wr.cell? ⟨b1, i * 5 + 1, none⟩ = some (.slice a0 c.nums.length k0) := f 1 _ rfl
      have q2 : wr.cell? ⟨b1, i * 5 + 2, none⟩ = some (.bool c.shut) := f 2 _ rfl
      have q3 : wr.cell? ⟨b1, i * 5 + 3, none⟩ = some (.slice a1 c.sends.length k1) := f 3 _ rfl
      have q4 : wr.cell? ⟨b1, i * 5 + 4, none⟩ = some (.slice a2 c.recvs.length k2) := f 4 _ rfl
      have r0 : wr.cell? ⟨b2, i * 5 + 0, none⟩ = some (.int .i64 (c.size : Int)) := j 0 _ rfl
      have r1 : wr.cell? ⟨b2, i * 5 + 1, none⟩ = some (.slice d0 c.nums.length l0) := j 1 _ rfl
      have r2 : wr.cell? ⟨b2, i * 5 + 2, none⟩ = some (.bool c.shut) := j 2 _ rfl
      have r3 : wr.cell? ⟨b2, i * 5 + 3, none⟩ = some (.slice d1 c.sends.length l1) := j 3 _ rfl
      have r4 : wr.cell? ⟨b2, i * 5 + 4, none⟩ = some (.slice d2 c.recvs.length l2) := j 4 _ rfl
      obtain ⟨w1, hw1⟩ : ∃ w1, w1 = wr.alloc (.cells (aggC a0 a1 a2 k0 k1 k2 c) 76) := ⟨_, rfl⟩
      obtain ⟨w2, hw2⟩ : ∃ w2, w2 = w1.alloc (.cells (aggC d0 d1 d2 l0 l1 l2 c) 76) := ⟨_, rfl⟩
      have hbw1 : Below wr.heap.size wr w1 := by rw [hw1]; exact (Below.refl _ wr).alloc (Nat.le_refl _) _
      have hs1 : w1.heap.size = wr.heap.size + 1 := by rw [hw1]; simp
      have hb2 : Below wr.heap.size wr w2 := by rw [hw2]; exact hbw1.alloc (by omega) _
      have hx1 : ∀ (j : Nat) (u : Value), (aggC a0 a1 a2 k0 k1 k2 c)[j]? = some u → w2.cell? ⟨wr.heap.size, j, none⟩ = some u := fun j u hu => by
        rw [hw2, World.cell?_alloc_past _ _ _ (by show wr.heap.size < w1.heap.size; omega), hw1]; exact alloc_cells _ _ _ j u hu
      have hy1 : ∀ (j : Nat) (u : Value), (aggC d0 d1 d2 l0 l1 l2 c)[j]? = some u → w2.cell? ⟨wr.heap.size + 1, j, none⟩ = some u := fun j u hu => by
        rw [hw2, ← hs1]; exact alloc_cells _ _ _ j u hu
      have s0 := (hbw1.cell (p := ⟨b2, i * 5 + 0, none⟩) hl2).trans r0
      have s1 := (hbw1.cell (p := ⟨b2, i * 5 + 1, none⟩) hl2).trans r1
      have s2 := (hbw1.cell (p := ⟨b2, i * 5 + 2, none⟩) hl2).trans r2
      have s3 := (hbw1.cell (p := ⟨b2, i * 5 + 3, none⟩) hl2).trans r3
      have s4 := (hbw1.cell (p := ⟨b2, i * 5 + 4, none⟩) hl2).trans r4
      have x0 : w2.cell? ⟨wr.heap.size, 0, none⟩ = some (.int .i64 (c.size : Int)) := hx1 0 _ rfl
      have x1 : w2.cell? ⟨wr.heap.size, 1, none⟩ = some (.slice a0 c.nums.length k0) := hx1 1 _ rfl
      have x2 : w2.cell? ⟨wr.heap.size, 2, none⟩ = some (.bool c.shut) := hx1 2 _ rfl
      have x3 : w2.cell? ⟨wr.heap.size, 3, none⟩ = some (.slice a1 c.sends.length k1) := hx1 3 _ rfl
      have x4 : w2.cell? ⟨wr.heap.size, 4, none⟩ = some (.slice a2 c.recvs.length k2) := hx1 4 _ rfl
      have y0 : w2.cell? ⟨wr.heap.size + 1, 0, none⟩ = some (.int .i64 (c.size : Int)) := hy1 0 _ rfl
      have y1 : w2.cell? ⟨wr.heap.size + 1, 1, none⟩ = some (.slice d0 c.nums.length l0) := hy1 1 _ rfl
      have y2 : w2.cell? ⟨wr.heap.size + 1, 2, none⟩ = some (.bool c.shut) := hy1 2 _ rfl
      have y3 : w2.cell? ⟨wr.heap.size + 1, 3, none⟩ = some (.slice d1 c.sends.length l1) := hy1 3 _ rfl
      have y4 : w2.cell? ⟨wr.heap.size + 1, 4, none⟩ = some (.slice d2 c.recvs.length l2) := hy1 4 _ rfl
      have HC := Lib.hid (samePipe_any (hr1.below hb2) (hr2.below hb2))
      have HB2 := Lib.hid hb2
      have hii : (0 : Int) ≤ (i : Int) ∧ (i : Int) < (n : Int) := by omega
      unfold aggC at hw1 hw2 HC
      simp only [Nat.add_zero] at q0 r0 s0
      clear hx1 hy1 f j g1 g2 hr1 hr2 hb2 hb hx hl1 hl2 hbw1 r0 r1 r2 r3 r4
      go_upto_region 6 with fail
      rw [← hw1]
      clear hw1 q0 q1 q2 q3 q4
      generalize hab : wr.heap.size = ab at *
      go_upto_region 7 with fail
      rw [← hw2]
      clear hw2 s0 s1 s2 s3 s4 hs1
      go_wp2_with fail
      refine HC.out.mono ?_
      rintro e w3 ⟨rfl, hb3⟩
      have HB3 : Hid (Below w.heap.size w w3) := Lib.hid (bel_then (HB.out.trans (HB2.out.mono (by have := HB.out.size; omega))) hb3 (by have := HB.out.size; have := HB2.out.size; omega))
      clear hb3 x0 x1 x2 x3 x4 y0 y1 y2 y3 y4
      go_wp2_with fail
      go_roundw
      case rel => exact ⟨i + 1, by omega, by go_num, HB3.out⟩
      case measure => simp [intOf]; omega
    · obtain rfl : i = n := by omega
      have hnn : ¬ (i : Int) < (i : Int) := by omega
      go_wp2_with fail
      go_ret
      exact ⟨rfl, HB.out⟩
/-- What two rooms have that look the same. -/
structure LooksAs {α β : Type} (s : Rm.S α) (s' : Rm.S β) : Prop where
  fin : s'.fin = s.fin
  now : s'.now = s.now
  tasks : s'.tasks = s.tasks
  wakes : wakesV s' = wakesV s
  globals : s'.globals = s.globals
  out : s'.out = s.out
  chs : s'.pipes.chs = s.pipes.chs
theorem LooksAs.refl {α : Type} (s : Rm.S α) : LooksAs s s := ⟨rfl, rfl, rfl, rfl, rfl, rfl, rfl⟩
/-- A hall, to be read. -/
structure ReadH {α : Type} (w : World) (v : Value) (s : Rm.S α) : Prop where
  ex : ∃ at_ kt ak kk ag kg ap kp ao ko, v = .agg #[.int .i64 s.fin, .int .i64 s.now, .int .i64 (s.pipes.chs.length : Nat), .slice at_ s.tasks.length kt, .slice ak (wakesV s).length kk, .slice ag s.globals.length kg, .slice ap s.pipes.chs.length kp, .slice ao s.out.length ko] ∧
    IntsAt w (.slice at_ s.tasks.length kt) s.tasks ∧ IntsAt w (.slice ak (wakesV s).length kk) (wakesV s) ∧ IntsAt w (.slice ag s.globals.length kg) s.globals ∧ ReadP w (.slice ap s.pipes.chs.length kp) s.pipes.chs ∧ IntsAt w (.slice ao s.out.length ko) s.out
theorem HallSays.read {α : Type} {w : World} {B : Nat} {v : Value} {s : Rm.S α} (h : HallSays w B v s) : ReadH w v s := by
  obtain ⟨vt, vk, vg, vp, vo, rfl, h1, h2, h3, ⟨ap, kp, rfl, L, hL, h4⟩, h5⟩ := h.ex
  obtain ⟨a1, k1, rfl⟩ := OwnI.slice h1
  obtain ⟨a2, k2, rfl⟩ := OwnI.slice h2
  obtain ⟨a3, k3, rfl⟩ := OwnI.slice h3
  obtain ⟨a5, k5, rfl⟩ := OwnI.slice h5
  exact ⟨a1, k1, a2, k2, a3, k3, ap, kp, a5, k5, rfl, h1.ints, h2.ints, h3.ints, readP_of hL h4, h5.ints⟩
theorem ReadH.below {α : Type} {w w' : World} {v : Value} {s : Rm.S α} (h : ReadH w v s) (hb : Below w.heap.size w w') : ReadH w' v s := by
  obtain ⟨a1, k1, a2, k2, a3, k3, a4, k4, a5, k5, e, h1, h2, h3, h4, h5⟩ := h.ex
  exact ⟨a1, k1, a2, k2, a3, k3, a4, k4, a5, k5, e, h1.below hb, h2.below hb, h3.below hb, h4.below hb, h5.below hb⟩
theorem ReadH.as {α β : Type} {w : World} {v : Value} {s : Rm.S α} {s' : Rm.S β} (h : ReadH w v s) (e : LooksAs s' s) : ReadH w v s' := by
  obtain ⟨a1, k1, a2, k2, a3, k3, a4, k4, a5, k5, hv, h1, h2, h3, h4, h5⟩ := h.ex
  rw [e.fin, e.now, e.chs, e.tasks, e.wakes, e.globals, e.out] at hv
  rw [e.tasks] at h1
  rw [e.wakes] at h2
  rw [e.globals] at h3
  rw [e.chs] at h4
  rw [e.out] at h5
  exact ⟨a1, k1, a2, k2, a3, k3, a4, k4, a5, k5, hv, h1, h2, h3, h4, h5⟩
set_option maxRecDepth 100000 in
set_option maxHeartbeats 12800000 in
theorem sameHall_any {α : Type} {w : World} {v1 v2 : Value} {s : Rm.S α} (h1 : ReadH w v1 s) (h2 : ReadH w v2 s) :
    Calls Tryz.prog 30 #[v1, v2] w fun e w' => e = .returned (.bool true) ∧ Below w.heap.size w w' := by
  obtain ⟨a1, k1, a2, k2, a3, k3, a4, k4, a5, k5, rfl, ht1, hk1, hg1, hp1, ho1⟩ := h1.ex
  obtain ⟨d1, l1, d2, l2, d3, l3, d4, l4, d5, l5, rfl, ht2, hk2, hg2, hp2, ho2⟩ := h2.ex
  clear h1 h2
  obtain ⟨fin, tasks, live, now, clock, pipes, globals, out, events, d⟩ := s
  simp only at ht1 hk1 hg1 hp1 ho1 ht2 hk2 hg2 hp2 ho2 ⊢
  generalize wakesV (α := α) ⟨fin, tasks, live, now, clock, pipes, globals, out, events, d⟩ = wk at *
  generalize pipes.chs = chs at *
  obtain ⟨w1, hw1⟩ : ∃ w1, w1 = w.alloc (.cells #[.int .i64 fin, .int .i64 now, .int .i64 (chs.length : Nat), .slice a1 tasks.length k1, .slice a2 wk.length k2, .slice a3 globals.length k3, .slice a4 chs.length k4, .slice a5 out.length k5] 47) := ⟨_, rfl⟩
  obtain ⟨w2, hw2⟩ : ∃ w2, w2 = w1.alloc (.cells #[.int .i64 fin, .int .i64 now, .int .i64 (chs.length : Nat), .slice d1 tasks.length l1, .slice d2 wk.length l2, .slice d3 globals.length l3, .slice d4 chs.length l4, .slice d5 out.length l5] 47) := ⟨_, rfl⟩
  have hs1 : w1.heap.size = w.heap.size + 1 := by rw [hw1]; simp
  have hs2 : w2.heap.size = w.heap.size + 2 := by rw [hw2]; simp [hs1]
  have hb2 : Below w.heap.size w w2 := by rw [hw2, hw1]; exact ((Below.refl _ w).alloc (Nat.le_refl _) _).alloc (by simp) _
  have hx : ∀ (j : Nat) (u : Value), (#[.int .i64 fin, .int .i64 now, .int .i64 (chs.length : Nat), .slice a1 tasks.length k1, .slice a2 wk.length k2, .slice a3 globals.length k3, .slice a4 chs.length k4, .slice a5 out.length k5] : Array Value)[j]? = some u → w2.cell? ⟨w.heap.size, j, none⟩ = some u := fun j u hu => by
    rw [hw2, World.cell?_alloc_past _ _ _ (by show w.heap.size < w1.heap.size; omega), hw1]; exact alloc_cells _ _ _ j u hu
  have hy : ∀ (j : Nat) (u : Value), (#[.int .i64 fin, .int .i64 now, .int .i64 (chs.length : Nat), .slice d1 tasks.length l1, .slice d2 wk.length l2, .slice d3 globals.length l3, .slice d4 chs.length l4, .slice d5 out.length l5] : Array Value)[j]? = some u → w2.cell? ⟨w.heap.size + 1, j, none⟩ = some u := fun j u hu => by
    rw [hw2, ← hs1]; exact alloc_cells _ _ _ j u hu
  have HX : Hid (∀ V, Below w2.heap.size w2 V → (V.cell? ⟨w.heap.size, 0, none⟩ = some (.int .i64 fin) ∧ V.cell? ⟨w.heap.size, 1, none⟩ = some (.int .i64 now) ∧ V.cell? ⟨w.heap.size, 2, none⟩ = some (.int .i64 (chs.length : Nat)) ∧ V.cell? ⟨w.heap.size, 3, none⟩ = some (.slice a1 tasks.length k1) ∧ V.cell? ⟨w.heap.size, 4, none⟩ = some (.slice a2 wk.length k2) ∧ V.cell? ⟨w.heap.size, 5, none⟩ = some (.slice a3 globals.length k3) ∧ V.cell? ⟨w.heap.size, 6, none⟩ = some (.slice a4 chs.length k4) ∧ V.cell? ⟨w.heap.size, 7, none⟩ = some (.slice a5 out.length k5)) ∧
      V.cell? ⟨w.heap.size + 1, 0, none⟩ = some (.int .i64 fin) ∧ V.cell? ⟨w.heap.size + 1, 1, none⟩ = some (.int .i64 now) ∧ V.cell? ⟨w.heap.size + 1, 2, none⟩ = some (.int .i64 (chs.length : Nat)) ∧ V.cell? ⟨w.heap.size + 1, 3, none⟩ = some (.slice d1 tasks.length l1) ∧ V.cell? ⟨w.heap.size + 1, 4, none⟩ = some (.slice d2 wk.length l2) ∧ V.cell? ⟨w.heap.size + 1, 5, none⟩ = some (.slice d3 globals.length l3) ∧ V.cell? ⟨w.heap.size + 1, 6, none⟩ = some (.slice d4 chs.length l4) ∧ V.cell? ⟨w.heap.size + 1, 7, none⟩ = some (.slice d5 out.length l5)) := Lib.hid fun V hV => by
    have hl : w.heap.size < w2.heap.size := by omega
    have hl' : w.heap.size + 1 < w2.heap.size := by omega
    exact ⟨⟨(hV.cell (p := ⟨w.heap.size, 0, none⟩) hl).trans (hx 0 _ rfl), (hV.cell (p := ⟨w.heap.size, 1, none⟩) hl).trans (hx 1 _ rfl), (hV.cell (p := ⟨w.heap.size, 2, none⟩) hl).trans (hx 2 _ rfl), (hV.cell (p := ⟨w.heap.size, 3, none⟩) hl).trans (hx 3 _ rfl), (hV.cell (p := ⟨w.heap.size, 4, none⟩) hl).trans (hx 4 _ rfl), (hV.cell (p := ⟨w.heap.size, 5, none⟩) hl).trans (hx 5 _ rfl), (hV.cell (p := ⟨w.heap.size, 6, none⟩) hl).trans (hx 6 _ rfl), (hV.cell (p := ⟨w.heap.size, 7, none⟩) hl).trans (hx 7 _ rfl)⟩,
      (hV.cell (p := ⟨w.heap.size + 1, 0, none⟩) hl').trans (hy 0 _ rfl), (hV.cell (p := ⟨w.heap.size + 1, 1, none⟩) hl').trans (hy 1 _ rfl), (hV.cell (p := ⟨w.heap.size + 1, 2, none⟩) hl').trans (hy 2 _ rfl), (hV.cell (p := ⟨w.heap.size + 1, 3, none⟩) hl').trans (hy 3 _ rfl), (hV.cell (p := ⟨w.heap.size + 1, 4, none⟩) hl').trans (hy 4 _ rfl), (hV.cell (p := ⟨w.heap.size + 1, 5, none⟩) hl').trans (hy 5 _ rfl), (hV.cell (p := ⟨w.heap.size + 1, 6, none⟩) hl').trans (hy 6 _ rfl), (hV.cell (p := ⟨w.heap.size + 1, 7, none⟩) hl').trans (hy 7 _ rfl)⟩
  have hEq : ∀ {v u : Value} {l : List Int}, IntsAt w v l → IntsAt w u l → ∀ V, Below w2.heap.size w2 V → Calls Tryz.prog 33 #[v, u] V fun e V' => e = .returned (.bool true) ∧ Below w2.heap.size w2 V' := fun {v u l} h3 h4 V hV =>
    (equalI_any v u l V (h3.below (hb2.trans (hV.mono (by omega)))) (h4.below (hb2.trans (hV.mono (by omega))))).mono fun e V' ⟨h5, n, h6⟩ => ⟨h5, by rw [h6]; exact hV.trans ((below_drewN V n).mono hV.size)⟩
  have HE3 := Lib.hid (hEq ht1 ht2)
  have HE4 := Lib.hid (hEq hk1 hk2)
  have HE5 := Lib.hid (hEq hg1 hg2)
  have HE7 := Lib.hid (hEq ho1 ho2)
  have HE6 : Hid (∀ V, Below w2.heap.size w2 V → Calls Tryz.prog 63 #[.slice a4 chs.length k4, .slice d4 chs.length l4, .func (.func 64) #[] #[]] V fun e V' => e = .returned (.bool true) ∧ Below w2.heap.size w2 V') := Lib.hid fun V hV =>
    (equalP_any (hp1.below (hb2.trans (hV.mono (by omega)))) (hp2.below (hb2.trans (hV.mono (by omega))))).mono fun e V' ⟨h5, h6⟩ => ⟨h5, hV.trans (h6.mono hV.size)⟩
  have HB2 : Hid (∀ V, Below w2.heap.size w2 V → Below w.heap.size w V) := Lib.hid fun V hV => hb2.trans (hV.mono (by omega))
  have z0 : (fin == fin) = true := by simp
  have z1 : (now == now) = true := by simp
  have z2 : ((chs.length : Int) == (chs.length : Int)) = true := by simp
  have hb20 : Below w2.heap.size w2 w2 := Below.refl _ _
  have hw2' := hw2
  rw [hw1] at hw2'
  clear ht1 hk1 hg1 hp1 ho1 ht2 hk2 hg2 hp2 ho2 hEq hx hy hw1 hw2 hs1 hs2 hb2
  go_enter Tryz.func30, Tryz.ntmps30
  go_upto_region 1 with fail
  rw [← hw2']
  clear hw2'
  generalize hab : w.heap.size = ab at *
  have HAB := Lib.hid hab
  clear hab
  have HB20 := Lib.hid hb20
  obtain ⟨⟨x0, x1, x2, x3, x4, x5, x6, x7⟩, y0, y1, y2, y3, y4, y5, y6, y7⟩ := HX.out _ hb20
  clear hb20
  go_wp2_with fail
  refine (HE3.out _ HB20.out).mono ?_
  rintro e V3 ⟨rfl, hv⟩
  have HV3 := Lib.hid hv
  clear x0 x1 x2 x3 x4 x5 x6 x7 y0 y1 y2 y3 y4 y5 y6 y7
  obtain ⟨⟨x0, x1, x2, x3, x4, x5, x6, x7⟩, y0, y1, y2, y3, y4, y5, y6, y7⟩ := HX.out _ hv
  clear hv
  go_wp2_with fail
  refine (HE4.out _ HV3.out).mono ?_
  rintro e V4 ⟨rfl, hv⟩
  have HV4 := Lib.hid hv
  clear x0 x1 x2 x3 x4 x5 x6 x7 y0 y1 y2 y3 y4 y5 y6 y7
  obtain ⟨⟨x0, x1, x2, x3, x4, x5, x6, x7⟩, y0, y1, y2, y3, y4, y5, y6, y7⟩ := HX.out _ hv
  clear hv
  go_wp2_with fail
  refine (HE5.out _ HV4.out).mono ?_
  rintro e V5 ⟨rfl, hv⟩
  have HV5 := Lib.hid hv
  clear x0 x1 x2 x3 x4 x5 x6 x7 y0 y1 y2 y3 y4 y5 y6 y7
  obtain ⟨⟨x0, x1, x2, x3, x4, x5, x6, x7⟩, y0, y1, y2, y3, y4, y5, y6, y7⟩ := HX.out _ hv
  clear hv
  go_wp2_with fail
  refine (HE7.out _ HV5.out).mono ?_
  rintro e V7 ⟨rfl, hv⟩
  have HV7 := Lib.hid hv
  clear x0 x1 x2 x3 x4 x5 x6 x7 y0 y1 y2 y3 y4 y5 y6 y7
  obtain ⟨⟨x0, x1, x2, x3, x4, x5, x6, x7⟩, y0, y1, y2, y3, y4, y5, y6, y7⟩ := HX.out _ hv
  clear hv
  go_wp2_with fail
  refine (HE6.out _ HV7.out).mono ?_
  rintro e V6 ⟨rfl, hv⟩
  have HV6 := Lib.hid hv
  clear x0 x1 x2 x3 x4 x5 x6 x7 y0 y1 y2 y3 y4 y5 y6 y7
  clear hv
  have HV := Lib.hid (HB2.out _ HV6.out)
  go_wp2_with fail
  go_ret
  exact ⟨rfl, by rw [HAB.out]; exact HV.out⟩
end Go.Proofs.YtnjdmijcoadidaaGreatDoor

namespace Go.Proofs.YtnjdmijcoadidaaGreatDoor
open Go.RowKit Go.Maps Pp

set_option maxHeartbeats 1600000 in
theorem longA_any (w : World) (x y : Int) (a1 a2 : Option Addr) (n1 n2 k1 k2 : Nat) : Calls Tryz.prog 62 #[.agg #[.int .i64 x, .int .i64 y, .slice a1 n1 k1, .slice a2 n2 k2]] w fun e w' => e = .returned (.bool (decide (6 < n1 ∨ 8 < n2))) ∧ Below w.heap.size w w' := by
  have hb := (Below.refl w.heap.size w).alloc (Nat.le_refl _) (.cells #[.int .i64 x, .int .i64 y, .slice a1 n1 k1, .slice a2 n2 k2] 88)
  have HB := Lib.hid hb
  have c2 : (w.alloc (.cells #[.int .i64 x, .int .i64 y, .slice a1 n1 k1, .slice a2 n2 k2] 88)).cell? ⟨w.heap.size, 2, none⟩ = some (.slice a1 n1 k1) := alloc_cells _ _ _ 2 _ rfl
  have c3 : (w.alloc (.cells #[.int .i64 x, .int .i64 y, .slice a1 n1 k1, .slice a2 n2 k2] 88)).cell? ⟨w.heap.size, 3, none⟩ = some (.slice a2 n2 k2) := alloc_cells _ _ _ 3 _ rfl
  clear hb
  by_cases h1 : 6 < n1
  · have h2 : (6 : Int) < (n1 : Int) := by omega
    go_enter Tryz.func62, Tryz.ntmps62
    go_wp2_with fail
    go_ret
    exact ⟨by simp [h1], HB.out⟩
  · have h2 : ¬ (6 : Int) < (n1 : Int) := by omega
    by_cases h3 : 8 < n2
    · have h4 : (8 : Int) < (n2 : Int) := by omega
      go_enter Tryz.func62, Tryz.ntmps62
      go_wp2_with fail
      go_ret
      exact ⟨by simp, HB.out⟩
    · have h4 : ¬ (8 : Int) < (n2 : Int) := by omega
      have H1 := Lib.hid h1
      have H3 := Lib.hid h3
      go_enter Tryz.func62, Tryz.ntmps62
      go_wp2_with fail
      go_ret
      exact ⟨by simp, HB.out⟩
theorem AsksRaw.cells {w : World} {a : Option Addr} {n cap : Nat} {l : List Rm.Ask} (h : AsksRaw w (.slice a n cap) l) {k : Nat} {x : Rm.Ask} (hx : l[k]? = some x) : ∃ b o a1 k1 a2 k2, a = some ⟨b, o, none⟩ ∧ b < w.heap.size ∧ w.cell? ⟨b, o + k * 4, none⟩ = some (.int .i64 x.what) ∧ w.cell? ⟨b, o + k * 4 + 1, none⟩ = some (.int .i64 x.n) ∧ w.cell? ⟨b, o + k * 4 + 2, none⟩ = some (.slice a1 x.args.length k1) ∧ w.cell? ⟨b, o + k * 4 + 3, none⟩ = some (.slice a2 x.cases.length k2) := by
  obtain ⟨ao, cap', e, h1, h2, h3⟩ := h
  injection e with e1 e2 e3
  have hl := (List.getElem?_eq_some_iff.1 hx).1
  obtain ⟨b, o, rfl, hb, h4⟩ := h3 (by omega)
  obtain ⟨va, vc, c0, c1, c2, c3, hr⟩ := h4 k x hx
  obtain ⟨a1, n1, k1, rfl, hn1, _⟩ := hr.args
  obtain ⟨a2, n2, k2, rfl, hn2, _⟩ := hr.cases
  subst hn1 hn2
  exact ⟨b, o, a1, k1, a2, k2, e1, hb, c0, c1, c2, c3⟩
set_option maxRecDepth 100000 in
set_option maxHeartbeats 3200000 in
theorem indexA_any (w : World) {v : Value} {l : List Rm.Ask} (h : AsksRaw w v l) (h30 : l.length ≤ 30) :
    Calls Tryz.prog 96 #[v, .func (.func 62) #[] #[]] w fun e w' => ∃ r : Int, e = .returned (.int .i64 r) ∧ (r < 0 → ∀ a ∈ l, a.args.length ≤ 6 ∧ a.cases.length ≤ 8) ∧ Below w.heap.size w w' := by
  have HX := Lib.hid h
  obtain ⟨a, cap, rfl, hc, hm, -⟩ := h
  obtain ⟨n, hn⟩ : ∃ n, n = l.length := ⟨_, rfl⟩
  have HN := Lib.hid hn
  rw [← hn] at h30 hc HX ⊢
  clear hn hm
  go_enter Tryz.func96, Tryz.ntmps96
  go_wp2_with fail
  go_loopw [8] (fun i wr => ∃ k : Nat, k ≤ n ∧ i = .int .i64 k ∧ (∀ (j : Nat) d, j < k → l[j]? = some d → d.args.length ≤ 6 ∧ d.cases.length ≤ 8) ∧ Below w.heap.size w wr) (fun i _ => n - (intOf i).toNat)
  case atStart => exact ⟨0, Nat.zero_le _, rfl, fun j _ h => absurd h (Nat.not_lt_zero j), Below.refl _ _⟩
  case round =>
    obtain ⟨k, hk, rfl, hs, hb⟩ := hrel
    rename World => wr
    have HS := Lib.hid hs
    have HB := Lib.hid hb
    clear hs
    by_cases hkn : k < n
    · obtain ⟨d, hget⟩ : ∃ d, l[k]? = some d := ⟨_, List.getElem?_eq_getElem (by rw [← HN.out]; exact hkn)⟩
      obtain ⟨b, o, a1, k1, a2, k2, hae, hbl, e0, e1, e2, e3⟩ := (HX.out.below hb).cells hget
      subst hae
      have hki : (0 : Int) ≤ (k : Int) ∧ (k : Int) < (n : Int) := by omega
      have HG := Lib.hid hget
      obtain ⟨n1, hn1⟩ : ∃ n1, n1 = d.args.length := ⟨_, rfl⟩
      obtain ⟨n2, hn2⟩ : ∃ n2, n2 = d.cases.length := ⟨_, rfl⟩
      rw [← hn1] at e2
      rw [← hn2] at e3
      have HM1 := Lib.hid hn1
      have HM2 := Lib.hid hn2
      clear hbl hget hb hn1 hn2
      go_wp2_with fail
      refine (longA_any wr d.what d.n a1 a2 n1 n2 k1 k2).mono ?_
      rintro e w3 ⟨rfl, hb3⟩
      have HB3 := Lib.hid (HB.out.trans (hb3.mono HB.out.size))
      have hr : decide (6 < n1 ∨ 8 < n2) = false → n1 ≤ 6 ∧ n2 ≤ 8 := fun h => by have := of_decide_eq_false h; omega
      generalize decide (6 < n1 ∨ 8 < n2) = r at *
      have HR := Lib.hid hr
      clear hb3 hr
      cases r with
      | true =>
        go_wp2_with fail
        go_ret
        exact ⟨_, rfl, fun h => by omega, HB3.out⟩
      | false =>
        have HR2 := Lib.hid (HR.out rfl)
        go_wp2_with fail
        go_roundw
        case rel => exact ⟨k + 1, by omega, by go_num, fun j x hj hx => by
          by_cases e : j = k
          · subst e
            rw [HG.out] at hx
            cases hx
            have := HR2.out
            have := HM1.out
            have := HM2.out
            omega
          · exact HS.out j x (by omega) hx, HB3.out⟩
        case measure => simp [intOf]; omega
    · obtain rfl : k = n := by omega
      have hkk : ¬ (k : Int) < (k : Int) := by omega
      go_wp2_with fail
      go_ret
      exact ⟨_, rfl, fun _ x hx => by
        obtain ⟨j, hj⟩ := List.mem_iff_getElem?.1 hx
        exact HS.out j x (by have := (List.getElem?_eq_some_iff.1 hj).1; have := HN.out; omega) hj, HB.out⟩
theorem containsA_any (w : World) {v : Value} {l : List Rm.Ask} (h : AsksRaw w v l) (h30 : l.length ≤ 30) :
    Calls Tryz.prog 61 #[v, .func (.func 62) #[] #[]] w fun e w' => ∃ b : Bool, e = .returned (.bool b) ∧ (b = false → ∀ a ∈ l, a.args.length ≤ 6 ∧ a.cases.length ≤ 8) ∧ Below w.heap.size w w' := by
  have HI := Lib.hid (indexA_any w h h30)
  clear h
  go_enter Tryz.func61, Tryz.ntmps61
  go_wp2_with fail
  refine HI.out.mono ?_
  rintro e w' ⟨r, rfl, hr, hb⟩
  have HR := Lib.hid hr
  have HB := Lib.hid hb
  clear hr hb
  go_wp2_with fail
  go_ret
  exact ⟨_, rfl, fun h => HR.out (by have := of_decide_eq_false h; omega), HB.out⟩
/-- What opened hands back. -/
inductive Opened (w0 w w' : World) (Sc : List (List Rm.Ask)) (gg : Nat) (np : Nat) (e : Ending) : Prop where
  | none (h : e = .returned (.pointer none)) (b : Below w.heap.size w w')
  | some (C : DoerW Py w0) (rb : Nat) (τ : Nat → RR) (hD : C.D = pyDoer Sc) (he : e = .returned (.pointer (some ⟨rb, 0, none⟩))) (hT : RoomT w0 C w' τ rb 0 (Rm.start (pyDoer Sc) gg py0)) (hA : Rm.At C.num C.big 0 (Rm.start (pyDoer Sc) gg py0))
      (hb : Below w.heap.size w w') (hf : ∀ b, b < w.heap.size → τ b = .free) (h6 : Held6 Sc) (hp : np ≤ 80)
theorem scRaw_row {w : World} {a : Option Addr} {n cap : Nat} {Sc : List (List Rm.Ask)} (h : ScRaw w (.slice a n cap) Sc) {k : Nat} {l : List Rm.Ask} (hx : Sc[k]? = some l) : ∃ b o a1 k1, a = some ⟨b, o, none⟩ ∧ w.cell? ⟨b, o + k, none⟩ = some (.slice a1 l.length k1) ∧ AsksRaw w (.slice a1 l.length k1) l := by
  obtain ⟨ao, cap', e, h1, h2, h3⟩ := h
  injection e with e1 e2 e3
  have hl := (List.getElem?_eq_some_iff.1 hx).1
  obtain ⟨b, o, rfl, hb, h4⟩ := h3 (by omega)
  obtain ⟨v, c0, hr⟩ := h4 k l hx
  obtain ⟨a1, k1, rfl, _⟩ := id hr
  exact ⟨b, o, a1, k1, e1, c0, hr⟩
set_option maxRecDepth 100000 in
set_option maxHeartbeats 6400000 in
theorem opened_any {w0 w : World} {sv pv : Value} {Sc : List (List Rm.Ask)} {pl : List (Int × Int)} (hbel : Below w0.heap.size w0 w) (hs : ScRaw w0 sv Sc) (hp : PicksAt w0 pv pl) (g : Int) :
    Calls Tryz.prog 28 #[sv, .int .i64 g, pv] w fun e w' => Opened w0 w w' Sc (pickN g 9) pl.length e := by
  have HS := Lib.hid hs
  have HSW := Lib.hid (hs.below hbel)
  have HBEL := Lib.hid hbel
  obtain ⟨so, scap, rfl, hsc, hsm, -⟩ := hs
  obtain ⟨po, pcap, rfl, hpc, hpm, -⟩ := hp
  obtain ⟨n, hn⟩ : ∃ n, n = Sc.length := ⟨_, rfl⟩
  obtain ⟨m, hm⟩ : ∃ m, m = pl.length := ⟨_, rfl⟩
  have HN := Lib.hid hn
  rw [← hn] at hsc HS HSW ⊢
  rw [← hm] at hpc ⊢
  clear hbel hn hm hsm hpm
  by_cases h0 : n = 0
  · subst h0
    have z0 : ((0 : Nat) : Int) = 0 := rfl
    go_enter Tryz.func28, Tryz.ntmps28
    go_wp2_with fail
    go_ret
    exact .none rfl (Below.refl _ _)
  have e0 : ((n : Int) == 0) = false := by rw [beq_eq_false_iff_ne]; omega
  have e1 : ¬ (n : Int) = 0 := by omega
  by_cases h6 : 6 < n
  · have e2 : (6 : Int) < (n : Int) := by omega
    go_enter Tryz.func28, Tryz.ntmps28
    go_wp2_with fail
    go_ret
    exact .none rfl (Below.refl _ _)
  have e2 : ¬ (6 : Int) < (n : Int) := by omega
  by_cases h80 : 80 < m
  · have e3 : (80 : Int) < (m : Int) := by omega
    go_enter Tryz.func28, Tryz.ntmps28
    go_wp2_with fail
    go_ret
    exact .none rfl (Below.refl _ _)
  have e3 : ¬ (80 : Int) < (m : Int) := by omega
  have H80 : Hid (m ≤ 80) := Lib.hid (by omega)
  have H6 : Hid (0 < n ∧ n ≤ 6) := Lib.hid (by omega)
  clear h80
  go_enter Tryz.func28, Tryz.ntmps28
  go_wp2_with fail
  go_loopw [7] (fun iv wr => ∃ i : Nat, i ≤ n ∧ iv = .int .i64 i ∧ (∀ (j : Nat) l, j < i → Sc[j]? = some l → l.length ≤ 30 ∧ ∀ a ∈ l, a.args.length ≤ 6 ∧ a.cases.length ≤ 8) ∧ Below w.heap.size w wr) (fun iv _ => n - (intOf iv).toNat)
  case atStart => exact ⟨0, Nat.zero_le _, rfl, fun j _ h => absurd h (Nat.not_lt_zero j), Below.refl _ _⟩
  case round =>
    obtain ⟨i, hi, rfl, hok, hb⟩ := hrel
    rename World => wr
    have HB := Lib.hid hb
    have HOK := Lib.hid hok
    clear hok
    by_cases hin : i < n
    · obtain ⟨l, hl⟩ : ∃ l, Sc[i]? = some l := ⟨_, List.getElem?_eq_getElem (by rw [← HN.out]; exact hin)⟩
      obtain ⟨b, o, a1, k1, hae, c0, hr⟩ := scRaw_row (HSW.out.below hb) hl
      subst hae
      have hii : (0 : Int) ≤ (i : Int) ∧ (i : Int) < (n : Int) := by omega
      have HL := Lib.hid hl
      obtain ⟨q, hq⟩ : ∃ q, q = l.length := ⟨_, rfl⟩
      have HQ := Lib.hid hq
      rw [← hq] at c0 hr
      have HR := Lib.hid hr
      clear hl hq hr hb
      by_cases h30 : 30 < q
      · have e4 : (30 : Int) < (q : Int) := by omega
        go_wp2_with fail
        go_ret
        exact .none rfl HB.out
      · have e4 : ¬ (30 : Int) < (q : Int) := by omega
        have HC := Lib.hid (containsA_any wr HR.out (by rw [← HQ.out]; omega))
        go_wp2_with fail
        refine HC.out.mono ?_
        rintro e w3 ⟨r, rfl, hr, hb3⟩
        have HB3 : Hid (Below w.heap.size w w3) := Lib.hid (HB.out.trans (hb3.mono HB.out.size))
        have HRR := Lib.hid hr
        clear hr hb3 c0
        cases r with
        | true =>
          go_wp2_with fail
          go_ret
          exact .none rfl HB3.out
        | false =>
          have HR2 := Lib.hid (HRR.out rfl)
          go_wp2_with fail
          go_roundw
          case rel => exact ⟨i + 1, by omega, by go_num, fun j x hj hx => by
            by_cases e : j = i
            · subst e
              rw [HL.out] at hx
              cases hx
              exact ⟨by have := HQ.out; omega, HR2.out⟩
            · exact HOK.out j x (by omega) hx, HB3.out⟩
          case measure => simp [intOf]; omega
    · obtain rfl : i = n := by omega
      have hnn : ¬ (i : Int) < (i : Int) := by omega
      have hheld : Held6 Sc := ⟨by rw [← HN.out]; exact H6.out.1, by rw [← HN.out]; exact H6.out.2, fun l hl => by
        obtain ⟨j, hj⟩ := List.mem_iff_getElem?.1 hl
        exact HOK.out j l (by have := (List.getElem?_eq_some_iff.1 hj).1; have := HN.out; omega) hj⟩
      have hsays : ScAt w0 (.slice so Sc.length scap) Sc := by rw [← HN.out]; exact HS.out.says hheld
      have hbw : Below w0.heap.size w0 wr := HBEL.out.trans (HB.out.mono HBEL.out.size)
      have hpy := pyAt_zero (w := wr) (Sc := Sc) (sv := .slice so Sc.length scap) 79
      have HW1 : Hid (Below wr.heap.size wr (wr.alloc (.cells #[.slice so Sc.length scap, .slice none 0 0, .slice none 0 0, .slice none 0 0] 79))) := Lib.hid ((Below.refl _ wr).alloc (Nat.le_refl _) _)
      have hsc0 : 0 < Sc.length := hheld.1
      have hsc1 : Sc.length ≤ 1000 := by have := hheld.2.1; omega
      obtain ⟨C, hC⟩ : ∃ C, C = pyW w0 Sc so scap wr.heap.size hsays hsc0 hsc1 := ⟨_, rfl⟩
      have hpk : pickN g 9 < 9 := pickN_lt g 9 (by decide) (by decide)
      have HNEW := Lib.hid (new_any (C := C) (w := wr.alloc (.cells #[.slice so Sc.length scap, .slice none 0 0, .slice none 0 0, .slice none 0 0] 79)) (F := fun b => b = wr.heap.size) (d := py0) (hbw.trans (HW1.out.mono hbw.size)) (by rw [hC]; exact hpy) (fun b hb => by rw [hb]; exact hbw.size) (pickN g 9) (by omega) (by rw [hC]; exact Nat.zero_le _))
      have HD : Hid (C.D = pyDoer Sc) := Lib.hid (by rw [hC]; rfl)
      have HAT : Hid (Rm.At C.num C.big 0 (Rm.start (pyDoer Sc) (pickN g 9) py0)) := Lib.hid (by rw [hC]; exact py_start _ (by omega))
      have hdt : C.dt = 77 := by rw [hC]; rfl
      have hdp : C.dp = .pointer (some ⟨wr.heap.size, 0, none⟩) := by rw [hC]; rfl
      rw [hdt, hdp, HD.out, ← HN.out] at HNEW
      rw [← HN.out] at HW1
      have HPK := Lib.hid (pickV_any g 9 (wr.alloc (.cells #[.slice so i scap, .slice none 0 0, .slice none 0 0, .slice none 0 0] 79)) (by decide) (by decide))
      have HHELD := Lib.hid hheld
      clear hb hheld hsays hbw hpy hsc0 hsc1 hpk hdt hdp hC
      go_wp2_with fail
      refine HPK.out.mono ?_
      rintro e w3 ⟨rfl, rfl⟩
      go_wp2_with fail
      refine HNEW.out.mono ?_
      rintro e w4 ⟨rb, τ, rfl, hT, hrb, hf, hk⟩
      have HT := Lib.hid hT
      have HF := Lib.hid hf
      have HK := Lib.hid hk
      clear hT hrb hf hk
      go_wp2_with fail
      go_ret
      have hw1 : Below w.heap.size w (wr.alloc (.cells #[.slice so i scap, .slice none 0 0, .slice none 0 0, .slice none 0 0] 79)) := HB.out.trans (HW1.out.mono HB.out.size)
      refine .some C rb τ HD.out rfl HT.out HAT.out (hw1.trans (HK.out.below hw1.size fun b hb e => by rw [e]; exact HB.out.size)) (fun b hb => HF.out b (Nat.lt_of_lt_of_le hb hw1.size) fun e => by have := HB.out.size; omega) HHELD.out H80.out
end Go.Proofs.YtnjdmijcoadidaaGreatDoor

namespace Go.Proofs.YtnjdmijcoadidaaGreatDoor
open Go.RowKit Go.Maps Pp

section
variable {α : Type} {w0 w : World} {C : DoerW α w0} {τ : Nat → RR} {rb N n : Nat} {s : Rm.S α}
theorem turn_open (h : RoomT w0 C w τ rb N s) (hA : Rm.At C.num C.big n s) (hE : ErrT w0) (hN : N ≤ 100000) (hn : n ≤ 1000) (who draw : Int) (hd : -9223372036854775808 ≤ draw ∧ draw ≤ 9223372036854775807) :
    Calls Tryz.prog 17 #[.pointer (some ⟨rb, 0, none⟩), .agg #[.int .i64 who, .int .i64 draw]] w fun e w' => e = .returned (.bool (decide (Rm.choices s ≠ 0))) ∧ Goes w0 C w w' τ rb (N + 1) (Rm.turn C.D s who draw) :=
  turnA_any h hE hN who draw (turnOk hA hn draw hd)
theorem choices_open (h : RoomT w0 C w τ rb N s) (hA : Rm.At C.num C.big n s) (hn : n ≤ 1000) :
    Calls Tryz.prog 15 #[.pointer (some ⟨rb, 0, none⟩)] w fun e w' => e = .returned (.int .i64 (Rm.choices s : Nat)) ∧ Below w.heap.size w w' :=
  choices_any h (fun t ht => (hA.inv.lt ht).1) (by have := hA.inv.few; omega) (by have := hA.tasks; omega)
theorem hall_open (h : RoomT w0 C w τ rb N s) (hA : Rm.At C.num C.big n s) (hN : N ≤ 100000) (hn : n ≤ 1000) :
    Calls Tryz.prog 20 #[.pointer (some ⟨rb, 0, none⟩)] w fun e w' => ∃ v, e = .returned v ∧ HallSays w' w.heap.size v s ∧ Below w.heap.size w w' :=
  hallA_any h (by omega) (fun t ht => (hA.inv.lt ht).1) (by have := hA.inv.few; omega) (by have := hA.tasks; omega) (by have := hA.inv.out; omega) (by have := hA.inv.glob; omega)
theorem events_open (h : RoomT w0 C w τ rb N s) (hA : Rm.At C.num C.big n s) (hn : n ≤ 1000) :
    Calls Tryz.prog 23 #[.pointer (some ⟨rb, 0, none⟩)] w fun e w' => ∃ u, e = .returned u ∧ w'.ownsRow w.heap.size 70 3 u s.events.length (cellsEv s.events) ∧ Below w.heap.size w w' :=
  eventsA_any h (by have := hA.events; omega)
theorem RoomT.own (h : RoomT w0 C w τ rb N s) : ∀ b, τ b ≠ .free → w0.heap.size ≤ b := by obtain ⟨V, l, hr⟩ := h; exact hr.own
theorem RoomT.dom (h : RoomT w0 C w τ rb N s) : ∀ b, τ b ≠ .free → b < w.heap.size := by obtain ⟨V, l, hr⟩ := h; exact hr.dom
theorem Goes.below {w' : World} {N' : Nat} {s' : Rm.S α} {B : Nat} (h : Goes w0 C w w' τ rb N' s') (hw : B ≤ w.heap.size) (hf : ∀ b, b < B → τ b = .free) : Below B w w' := h.keep.below hw fun b _ e => Nat.le_of_not_lt fun hl => e (hf b hl)
theorem play_open (h : RoomT w0 C w τ rb N s) (hA : Rm.At C.num C.big n s) (hE : ErrT w0) {v : Value} {pl : List (Int × Int)} (hp : PicksAt w0 v pl) (hwf : PicksWf pl) (hN : N + pl.length ≤ 1000) (hn : n + pl.length ≤ 1000) :
    Calls Tryz.prog 24 #[.pointer (some ⟨rb, 0, none⟩), v] w fun e w' => e = .returned (.int .i64 ((Rm.play C.D s pl).2 : Nat)) ∧ Goes w0 C w w' τ rb (N + pl.length) (Rm.play C.D s pl).1 := by
  refine playA_any h hE (hp.below h.bel) (fun h0 b hb e => Classical.byContradiction fun e2 => ?_) (by omega) fun i x hx hi => ?_
  · have h1 := h.own b e2
    obtain ⟨ao, cap, rfl, _, _, h4⟩ := hp
    obtain ⟨b', o, rfl, h5, _⟩ := h4 h0
    injection e with e
    have e3 : b' = b := e
    omega
  · have hl := (List.getElem?_eq_some_iff.1 hx).1
    refine turnOk (n := n + (pl.take i).length) (hA.play C.bd (pl.take i)) (by rw [List.length_take]; omega) x.2 (hwf x (List.mem_of_getElem? hx)).2
end
/-- The script of the fact. -/
def sc1 : List (List Rm.Ask) := [[⟨8, 5, [], []⟩]]
def st0 : Rm.S Py := Rm.start (pyDoer sc1) 1 py0
def st1 : Rm.S Py := Rm.turn (pyDoer sc1) st0 0 0
def st2 : Rm.S Py := Rm.turn (pyDoer sc1) st1 0 0
theorem st0_c : Rm.choices st0 = 1 := by kernel_rfl
theorem st1_c : Rm.choices st1 = 1 := by kernel_rfl
theorem st2_c : Rm.choices st2 = 0 := by kernel_rfl
theorem st2_f : st2.fin = 1 := by kernel_rfl
theorem st2_o : st2.out = [5] := by kernel_rfl
theorem st2_g : st2.globals.length = 1 := by kernel_rfl
theorem st2_t : Rm.turn (pyDoer sc1) st2 0 0 = st2 := if_pos st2_c
set_option maxRecDepth 100000 in
set_option maxHeartbeats 6400000 in
theorem roomed_any (w : World) (hE : ErrT w) : Calls Tryz.prog 27 #[] w fun e w' => e = .returned (.bool true) ∧ Below w.heap.size w w' := by
  obtain ⟨wA, hwA⟩ : ∃ wA, wA = w.alloc (.cells #[.int .i64 8, .int .i64 5, .slice none 0 0, .slice none 0 0] 88) := ⟨_, rfl⟩
  obtain ⟨wB, hwB⟩ : ∃ wB, wB = wA.alloc (.cells #[.slice (some ⟨w.heap.size, 0, none⟩) 1 1] 85) := ⟨_, rfl⟩
  obtain ⟨wC, hwC⟩ : ∃ wC, wC = wB.alloc (.cells #[.slice (some ⟨w.heap.size + 1, 0, none⟩) 1 1, .slice none 0 0, .slice none 0 0, .slice none 0 0] 79) := ⟨_, rfl⟩
  have hsA : wA.heap.size = w.heap.size + 1 := by rw [hwA]; simp
  have hsB : wB.heap.size = w.heap.size + 2 := by rw [hwB]; simp [hsA]
  have hbA : Below w.heap.size w wA := by rw [hwA]; exact (Below.refl _ w).alloc (Nat.le_refl _) _
  have hbB : Below w.heap.size w wB := by rw [hwB]; exact hbA.alloc (by omega) _
  have hbC : Below wB.heap.size wB wC := by rw [hwC]; exact (Below.refl _ wB).alloc (Nat.le_refl _) _
  have hlt : 0 < w.heap.size := block_lt_of_cell hE
  have hEB : ErrT wB := hE.below hbB hlt
  have hcA : ∀ j u, (#[.int .i64 8, .int .i64 5, .slice none 0 0, .slice none 0 0] : Array Value)[j]? = some u → wB.cell? ⟨w.heap.size, j, none⟩ = some u := fun j u hu => by
    rw [hwB, World.cell?_alloc_past _ _ _ (by show w.heap.size < wA.heap.size; omega), hwA]; exact alloc_cells _ _ _ j u hu
  have hcB : wB.cell? ⟨w.heap.size + 1, 0, none⟩ = some (.slice (some ⟨w.heap.size, 0, none⟩) 1 1) := by
    rw [hwB, ← hsA]; exact alloc_cells _ _ _ 0 _ rfl
  have hsc : ScAt wB (.slice (some ⟨w.heap.size + 1, 0, none⟩) sc1.length 1) sc1 := by
    refine ⟨_, 1, rfl, Nat.le_refl _, by decide, fun _ => ⟨w.heap.size + 1, 0, rfl, by omega, fun i l hl => ?_⟩⟩
    have hi : i = 0 := by have := (List.getElem?_eq_some_iff.1 hl).1; simp [sc1] at this; exact this
    subst hi
    cases hl
    refine ⟨_, hcB, _, 1, rfl, Nat.le_refl _, by decide, fun _ => ⟨w.heap.size, 0, rfl, by omega, fun i a ha => ?_⟩⟩
    have hi : i = 0 := by have := (List.getElem?_eq_some_iff.1 ha).1; simp at this; exact this
    subst hi
    cases ha
    exact ⟨.slice none 0 0, .slice none 0 0, hcA 0 _ rfl, hcA 1 _ rfl, hcA 2 _ rfl, hcA 3 _ rfl, ⟨intsAt_nil _, ⟨none, 0, 0, rfl, rfl, Nat.le_refl _, Nat.zero_le _, fun h => absurd h (Nat.lt_irrefl _)⟩, by decide, by decide, by decide, by decide⟩, fun g hg => by rcases hg with ⟨e, _⟩ | ⟨e, _⟩ <;> exact absurd e (Nat.lt_irrefl 0)⟩
  obtain ⟨C, hC⟩ : ∃ C, C = pyW wB sc1 (some ⟨w.heap.size + 1, 0, none⟩) 1 wB.heap.size hsc (by decide) (by decide) := ⟨_, rfl⟩
  have hpy := pyAt_zero (w := wB) (Sc := sc1) (sv := .slice (some ⟨w.heap.size + 1, 0, none⟩) sc1.length 1) 79
  have HNEW := Lib.hid (new_any (C := C) (w := wC) (F := fun b => b = wB.heap.size) (d := py0) hbC (by rw [hC, hwC]; exact hpy) (fun b hb => by rw [hb]; exact Nat.le_refl _) 1 (by omega) (by rw [hC]; exact Nat.zero_le _))
  have hD : C.D = pyDoer sc1 := by rw [hC]; rfl
  have hAT : Rm.At C.num C.big 0 st0 := by rw [hC]; exact py_start 1 (by omega)
  have hA1 := hAT.turn C.bd 0 0
  rw [hD] at hA1
  have hA2 : Rm.At C.num C.big 2 (Rm.turn (pyDoer sc1) st1 0 0) := by have h9 := Rm.At.turn C.bd (s := st1) (n := 1) hA1 0 0; rw [hD] at h9; exact h9
  have HA0 := Lib.hid hAT
  have HA1 : Hid (Rm.At C.num C.big 1 st1) := Lib.hid hA1
  have HA2 : Hid (Rm.At C.num C.big 2 st2) := Lib.hid hA2
  have HD := Lib.hid hD
  have HEB := Lib.hid hEB
  have hdt : C.dt = 77 := by rw [hC]; rfl
  have hdp : C.dp = .pointer (some ⟨w.heap.size + 2, 0, none⟩) := by rw [hC, ← hsB]; rfl
  rw [hdt, hdp, hD, show ((1 : Nat) : Int) = 1 from rfl] at HNEW
  have HBW : Hid (∀ V, Below wB.heap.size wB V → Below w.heap.size w V) := Lib.hid fun V hV => hbB.trans (hV.mono (by omega))
  have HBC := Lib.hid hbC
  have HSB : Hid (w.heap.size ≤ wB.heap.size ∧ wB.heap.size ≤ wC.heap.size) := Lib.hid ⟨by omega, hbC.size⟩
  have hwC' := hwC
  rw [hwB, hwA] at hwC'
  clear hwA hwB hwC hsA hsB hbA hbB hbC hlt hEB hcA hcB hsc hC hpy hD hAT hA1 hA2 hdt hdp hE
  go_enter Tryz.func27, Tryz.ntmps27
  go_wp2_with fail
  rw [← hwC']
  clear hwC'
  refine HNEW.out.mono ?_
  rintro e w4 ⟨rb, τ, rfl, hT, -, -, -⟩
  have hT' : RoomT wB C w4 τ rb 0 st0 := hT
  have HT := Lib.hid hT'
  have HC1 : Hid (Calls Tryz.prog 15 #[.pointer (some ⟨rb, 0, none⟩)] w4 fun e w' => e = .returned (.int .i64 1) ∧ Below w4.heap.size w4 w') := Lib.hid (by have h := choices_open hT' HA0.out (by omega); rw [st0_c] at h; exact h)
  clear hT hT' HNEW
  go_wp2_with fail
  refine HC1.out.mono ?_
  rintro e w5 ⟨rfl, hb5⟩
  have hT5 := HT.out.new (Keeps.of_new hb5)
  have HC2 : Hid (Calls Tryz.prog 17 #[.pointer (some ⟨rb, 0, none⟩), .agg #[.int .i64 0, .int .i64 0]] w5 fun e w' => e = .returned (.bool true) ∧ Goes wB C w5 w' τ rb 1 st1) := Lib.hid (by
    have h := turn_open hT5 HA0.out HEB.out (by omega) (by omega) 0 0 (by omega)
    rw [HD.out, st0_c] at h
    exact h)
  clear hT5 hb5 HC1 HT
  go_wp2_with fail
  refine HC2.out.mono ?_
  rintro e w6 ⟨rfl, hg6⟩
  obtain ⟨τ6, hT6, -⟩ := hg6.ex
  have HC3 : Hid (Calls Tryz.prog 17 #[.pointer (some ⟨rb, 0, none⟩), .agg #[.int .i64 0, .int .i64 0]] w6 fun e w' => e = .returned (.bool true) ∧ Goes wB C w6 w' τ6 rb 2 st2) := Lib.hid (by
    have h := turn_open hT6 HA1.out HEB.out (by omega) (by omega) 0 0 (by omega)
    rw [HD.out, st1_c] at h
    exact h)
  clear hg6 hT6 HC2
  go_wp2_with fail
  refine HC3.out.mono ?_
  rintro e w7 ⟨rfl, hg7⟩
  obtain ⟨τ7, hT7, -⟩ := hg7.ex
  have HC4 : Hid (Calls Tryz.prog 17 #[.pointer (some ⟨rb, 0, none⟩), .agg #[.int .i64 0, .int .i64 0]] w7 fun e w' => e = .returned (.bool false) ∧ Goes wB C w7 w' τ7 rb 3 st2) := Lib.hid (by
    have h := turn_open hT7 HA2.out HEB.out (by omega) (by omega) 0 0 (by omega)
    rw [HD.out, st2_c, st2_t] at h
    exact h)
  clear hg7 hT7 HC3
  go_wp2_with fail
  refine HC4.out.mono ?_
  rintro e w8 ⟨rfl, hg8⟩
  obtain ⟨τ8, hT8, -⟩ := hg8.ex
  have HC5 := Lib.hid (hall_open hT8 HA2.out (by omega) (by omega))
  have HB8 := Lib.hid (HBW.out _ hT8.bel)
  clear hg8 hT8 HC4
  go_wp2_with fail
  refine HC5.out.mono ?_
  rintro e w9 ⟨v, rfl, hs, hb9⟩
  obtain ⟨a1, k1, a2, k2, a3, k3, a4, k4, a5, k5, rfl, -, -, -, -, ho⟩ := hs.read.ex
  have HB9 : Hid (Below w.heap.size w w9) := Lib.hid (HB8.out.trans (hb9.mono HB8.out.size))
  rw [st2_o] at ho ⊢
  rw [st2_f, st2_g]
  obtain ⟨ao, no, co, e5, hn5, -, -, h5⟩ := ho
  have e6 : no = 1 := hn5
  subst e6
  injection e5 with e7 en e8
  subst e7
  obtain ⟨b5, o5, rfl, hl5, h6⟩ := h5 (by decide)
  have c5 : w9.cell? ⟨b5, o5, none⟩ = some (.int .i64 5) := h6 0 (by decide)
  have hl1 : ([5] : List Int).length = 1 := rfl
  have HL5 := Lib.hid hl5
  clear hs hb9 hn5 h5 e8 en h6 hl5
  obtain ⟨arr, harr⟩ : ∃ arr : Array Value, arr = #[.int .i64 1, .int .i64 st2.now, .int .i64 (st2.pipes.chs.length : Nat), .slice a1 st2.tasks.length k1, .slice a2 (wakesV st2).length k2, .slice a3 1 k3, .slice a4 st2.pipes.chs.length k4, .slice (some ⟨b5, o5, none⟩) 1 k5] := ⟨_, rfl⟩
  have hc := alloc_cells w9 arr 47
  have d0 : (w9.alloc (.cells arr 47)).cell? ⟨w9.heap.size, 0, none⟩ = some (.int .i64 1) := hc 0 _ (by rw [harr]; rfl)
  have d5 : (w9.alloc (.cells arr 47)).cell? ⟨w9.heap.size, 5, none⟩ = some (.slice a3 1 k3) := hc 5 _ (by rw [harr]; rfl)
  have d7 : (w9.alloc (.cells arr 47)).cell? ⟨w9.heap.size, 7, none⟩ = some (.slice (some ⟨b5, o5, none⟩) 1 k5) := hc 7 _ (by rw [harr]; rfl)
  have c6 := Go.Lib.cell?_alloc_some (.cells arr 47) c5
  have HBZ : Hid (Below w.heap.size w (w9.alloc (.cells arr 47))) := Lib.hid (HB9.out.alloc HB9.out.size _)
  go_upto_region 5 with fail
  rw [← harr]
  clear hc harr c5
  generalize hab : w9.heap.size = ab at *
  generalize w9.alloc (.cells arr 47) = wZ at *
  clear hab hl1
  go_wp2_with fail
  go_ret
  exact ⟨rfl, HBZ.out⟩
end Go.Proofs.YtnjdmijcoadidaaGreatDoor

namespace Go.Proofs.YtnjdmijcoadidaaGreatDoor
open Go.RowKit Go.Maps Pp

theorem cellsEv_at : ∀ (l : List Rm.Ev) (i : Nat) (x : Rm.Ev), l[i]? = some x → (cellsEv l)[i * 3]? = some (.int .i64 x.task) ∧ (cellsEv l)[i * 3 + 1]? = some (.int .i64 x.what) ∧ (cellsEv l)[i * 3 + 2]? = some (.int .i64 x.obj) := by
  intro l
  induction l with
  | nil => intro i x h; cases h
  | cons p r ih =>
    intro i x h
    have e : cellsEv (p :: r) = .int .i64 p.task :: .int .i64 p.what :: .int .i64 p.obj :: cellsEv r := rfl
    cases i with
    | zero => cases h; exact ⟨rfl, rfl, rfl⟩
    | succ i =>
      have := ih i x (by simpa using h)
      rw [e]
      refine ⟨?_, ?_, ?_⟩
      · rw [show (i + 1) * 3 = i * 3 + 1 + 1 + 1 by omega]; simpa using this.1
      · rw [show (i + 1) * 3 + 1 = i * 3 + 1 + 1 + 1 + 1 by omega]; simpa using this.2.1
      · rw [show (i + 1) * 3 + 2 = i * 3 + 2 + 1 + 1 + 1 by omega]; simpa using this.2.2
/-- Events, to be read. -/
def ReadE (w : World) (v : Value) (l : List Rm.Ev) : Prop :=
  ∃ ao cap, v = .slice ao l.length cap ∧ l.length ≤ cap ∧ cap ≤ maxLen ∧ (0 < l.length → ∃ g, ao = some ⟨g, 0, none⟩ ∧ g < w.heap.size ∧ ∀ (i : Nat) x, l[i]? = some x → w.cell? ⟨g, i * 3, none⟩ = some (.int .i64 x.task) ∧ w.cell? ⟨g, i * 3 + 1, none⟩ = some (.int .i64 x.what) ∧ w.cell? ⟨g, i * 3 + 2, none⟩ = some (.int .i64 x.obj))
theorem readE_of {w : World} {B : Nat} {v : Value} {l : List Rm.Ev} (h : w.ownsRow B 70 3 v l.length (cellsEv l)) : ReadE w v l := by
  have hc := h
  rcases h.2 with ⟨rfl, h0⟩ | ⟨g, cap, cur, rfl, hb, hg, h3, h4, h5, h6⟩
  · exact ⟨none, 0, by rw [h0], by omega, Nat.zero_le _, fun h => by omega⟩
  · refine ⟨_, _, rfl, h3, h4, fun _ => ⟨g, rfl, (Array.getElem?_eq_some_iff.1 hg).1, fun i x hx => ?_⟩⟩
    obtain ⟨e1, e2, e3⟩ := cellsEv_at l i x hx
    have f1 := World.ownsRow.cells hc (g := g) rfl _ _ e1
    have f2 := World.ownsRow.cells hc (g := g) rfl _ _ e2
    have f3 := World.ownsRow.cells hc (g := g) rfl _ _ e3
    rw [addr_addP, Nat.zero_add] at f1 f2 f3
    exact ⟨f1, f2, f3⟩
/-- An event of a row, in a later world. -/
theorem ReadE.at {w w' : World} {ao : Option Addr} {n cap : Nat} {l : List Rm.Ev} (h : ReadE w (.slice ao n cap) l) (hb : Below w.heap.size w w') {i : Nat} {x : Rm.Ev} (hx : l[i]? = some x) : ∃ g, ao = some ⟨g, 0, none⟩ ∧ w'.cell? ⟨g, i * 3, none⟩ = some (.int .i64 x.task) ∧ w'.cell? ⟨g, i * 3 + 1, none⟩ = some (.int .i64 x.what) ∧ w'.cell? ⟨g, i * 3 + 2, none⟩ = some (.int .i64 x.obj) := by
  obtain ⟨ao', cap', e, h1, h2, h3⟩ := h
  injection e with e1 e2 e3
  have hl := (List.getElem?_eq_some_iff.1 hx).1
  obtain ⟨g, h4, h5, h6⟩ := h3 (by omega)
  obtain ⟨c0, c1, c2⟩ := h6 i x hx
  exact ⟨g, by rw [e1, h4], (hb.cell (p := ⟨g, _, none⟩) h5).trans c0, (hb.cell (p := ⟨g, _, none⟩) h5).trans c1, (hb.cell (p := ⟨g, _, none⟩) h5).trans c2⟩
end Go.Proofs.YtnjdmijcoadidaaGreatDoor
