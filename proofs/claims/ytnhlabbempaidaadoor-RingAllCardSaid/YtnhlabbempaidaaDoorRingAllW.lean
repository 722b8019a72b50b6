/-
  The walk of the law RingAll: going through a ring tells each thing with its place, and ends where one stops.
-/
import Derived.Test.YtnhlabbempaidaaDoorRingSeq
import Derived.Test.YtnhlabbempaidaaDoorFilled
import Derived.Test.YtnhlabbempaidaaDoorRinged
import Derived.Test.YtnhlabbempaidaaDoorArgs
import Derived.TacticsIn
import Derived.RegionIn
import Derived.ControlIn
import Derived.RangeFuncCalls
import Derived.Deep.DeepCutAuto
import Derived.Deep.CutRange
namespace Go.Proofs.YtnhlabbempaidaaDoor
open Go.RowKit Go.Shelf
attribute [local go_sem] Oper.semAt_some

/-- A variable of its own block. -/
structure Box (W : World) (b : Nat) (x : Value) : Prop where
  cell : W.cell? ⟨b, 0, none⟩ = some x
  free : W.frozen? ⟨b, 0, none⟩ = false
theorem Box.lt {W : World} {b : Nat} {x : Value} (h : Box W b x) : b < W.heap.size := block_lt_of_cell h.cell
theorem Box.keeps {S : Nat → Prop} {W W' : World} {b : Nat} {x : Value} (h : Box W b x) (hk : Keeps S W W') (hS : ¬ S b) : Box W' b x :=
  ⟨hk.cell_of h.cell hS, by rw [hk.frozen (p := ⟨b, 0, none⟩) h.lt hS]; exact h.free⟩
theorem Box.new (W : World) (x : Value) (t : TypeId) : Box (W.alloc (.cells #[x] t)) W.heap.size x :=
  ⟨by rw [World.cell?_alloc_at _ _ _ _ rfl]; rfl, by rw [World.frozen?_alloc_at _ _ _ _ rfl]⟩
theorem Box.new' (W : World) (x : Value) (t : TypeId) {b : Nat} (hb : b = W.heap.size) : Box (W.alloc (.cells #[x] t)) b x := hb ▸ Box.new W x t
theorem Box.alloc {W : World} {b : Nat} {x : Value} (h : Box W b x) (o : Obj) : Box (W.alloc o) b x := h.keeps ((Keeps.refl (fun _ => False) W).alloc o) id
theorem two_boxes (W : World) (x y : Value) (t u : TypeId) : Box ((W.alloc (.cells #[x] t)).alloc (.cells #[y] u)) W.heap.size x ∧ Box ((W.alloc (.cells #[x] t)).alloc (.cells #[y] u)) (W.heap.size + 1) y ∧
    Keeps (fun _ => False) W ((W.alloc (.cells #[x] t)).alloc (.cells #[y] u)) ∧ ((W.alloc (.cells #[x] t)).alloc (.cells #[y] u)).heap.size = W.heap.size + 2 :=
  ⟨(Box.new W x t).alloc _, Box.new' _ _ _ (by simp), ((Keeps.refl _ W).alloc _).alloc _, by simp⟩
theorem Box.set {W : World} {b : Nat} {x : Value} (h : Box W b x) (y : Value) : Box (W.setCell ⟨b, 0, none⟩ y) b y :=
  ⟨cell_set_same h.cell, by rw [World.frozen?_setCell]; exact h.free⟩

theorem not_two {a b k : Nat} (h1 : k ≠ a) (h2 : k ≠ b) : ¬ Two a b k := by rintro (e | e) <;> contradiction
/-- The order in which the blocks lie. -/
structure Ap (lo bs br rb sb vb b9 b10 : Nat) : Prop where
  h1 : lo ≤ bs
  h2 : bs < br
  h3 : br < rb
  h4 : br < sb
  h5 : rb < vb
  h6 : sb < vb
  h7 : vb ≠ b9
  h8 : vb ≠ b10
  h9 : rb < b9
  h10 : sb < b9
  h11 : b9 < b10
/-- All that the law's body looks at: its variables, the ring, the list. -/
structure Env (w W : World) (bs br rb sb vb b9 b10 n vo ca : Nat) (s : Int) (a : Option Addr) (u : List Int) : Prop where
  ap : Ap w.heap.size bs br rb sb vb b9 b10
  hs : Box W bs (.int .i64 s)
  hr : Box W br (.bool false)
  h9 : Box W b9 (.pointer (some ⟨rb, 0, none⟩))
  h10 : Box W b10 (.slice a u.length ca)
  ring : RingL eI W rb sb n u
  vec : 0 < u.length → a = some ⟨vb, vo, none⟩ ∧ ∀ j, j < u.length → W.cell? ⟨vb, vo + j, none⟩ = some (.int .i64 (u[j]?.getD 0))
  bel : Below w.heap.size w W
theorem Env.keeps {S : Nat → Prop} {w W W' : World} {bs br rb sb vb b9 b10 n vo ca : Nat} {s : Int} {a : Option Addr} {u : List Int} (h : Env w W bs br rb sb vb b9 b10 n vo ca s a u) (hk : Keeps S W W')
    (h0 : ¬ S bs) (h1 : ¬ S br) (h2 : ¬ S b9) (h3 : ¬ S b10) (h4 : ¬ S rb) (h5 : ¬ S sb) (h6 : 0 < u.length → ¬ S vb) (h7 : ∀ k, k < W.heap.size → S k → w.heap.size ≤ k) : Env w W' bs br rb sb vb b9 b10 n vo ca s a u :=
  ⟨h.ap, h.hs.keeps hk h0, h.hr.keeps hk h1, h.h9.keeps hk h2, h.h10.keeps hk h3, h.ring.keeps hk h4 h5, fun h0 => ⟨(h.vec h0).1, fun j hj => hk.cell_of ((h.vec h0).2 j hj) (h6 h0)⟩, h.bel.trans (hk.below h.bel.size h7)⟩
theorem Env.fresh {w W W' : World} {bs br rb sb vb b9 b10 n vo ca : Nat} {s : Int} {a : Option Addr} {u : List Int} (h : Env w W bs br rb sb vb b9 b10 n vo ca s a u) (hk : Keeps (fun _ => False) W W') : Env w W' bs br rb sb vb b9 b10 n vo ca s a u :=
  h.keeps hk id id id id id id (fun _ => id) (fun _ _ e => e.elim)
theorem uptoP_snoc_ne {pre : List (Nat × Int)} {u : List Int} {x : Nat × Int} (h : x ≠ (pre.length, u[pre.length]?.getD 0)) : pre ++ [x] ≠ uptoP u (pre ++ [x]).length := by
  intro e
  have hl : (pre ++ [x]).length = pre.length + 1 := by simp
  rw [hl, uptoP_succ] at e
  have h1 := List.append_inj_right' e rfl
  exact h (List.singleton_inj.1 h1)
theorem keepsFrom_drewN (B : Nat) (W : World) (m : Nat) : KeepsFrom B W (W.drewN m) := ⟨Nat.le_refl _, fun _ _ _ h _ => h⟩
/-- At, said of the draws. -/
theorem latI_q {rb sb n : Nat} {l : List Int} {w : World} (h : RingL eI w rb sb n l) (k : Nat) (x : Int) (hx : l[k]? = some x) : Calls Tryd.prog 16 #[.pointer (some ⟨rb, 0, none⟩), .int .i64 k] w fun e w' =>
    e = .returned (.tuple #[.int .i64 x, .nilIface]) ∧ ∃ m, w' = w.drewN m := by
  obtain ⟨row, f, rfl, h⟩ := h
  exact atI_ok w h k x hx
/-- So many rounds are over. -/
def AllJ (w : World) (bs br rb sb vb b9 b10 n vo ca b12 s : Nat) (a : Option Addr) (u : List Int) (pre : List (Nat × Int)) (W : World) : Prop :=
  Env w W bs br rb sb vb b9 b10 n vo ca s a u ∧ Box W b12 (.int .i64 (pre.length : Nat)) ∧ pre = uptoP u pre.length ∧ pre.length ≤ s
/-- The loop was left: at its stop; or what came is not what is in the ring. -/
def AllX (w : World) (bs br rb sb vb b9 b10 n vo ca b12 s : Nat) (a : Option Addr) (u : List Int) (c : Code) (pre : List (Nat × Int)) (W : World) : Prop :=
  (c = .exit 2 ∧ Env w W bs br rb sb vb b9 b10 n vo ca s a u ∧ Box W b12 (.int .i64 (s : Nat)) ∧ pre.length = s + 1) ∨ (c = .ret ∧ pre ≠ uptoP u pre.length)
theorem allJ_next {w W : World} {bs br rb sb vb b9 b10 n vo ca b12 s : Nat} {a : Option Addr} {u : List Int} {pre : List (Nat × Int)} {y : Int} {m : Nat} (hE : Env w W bs br rb sb vb b9 b10 n vo ca s a u) (hN : Box W b12 (.int .i64 (pre.length : Nat))) (hp : pre = uptoP u pre.length)
    (hlt : pre.length < s) (hy : u[pre.length]?.getD 0 = y) (h1 : b10 < b12) (h2 : 0 < u.length → vb < b12) : AllJ w bs br rb sb vb b9 b10 n vo ca b12 s a u (pre ++ [(pre.length, y)]) ((W.drewN m).setCell ⟨b12, 0, none⟩ (.int .i64 ((pre.length : Int) + 1))) := by
  obtain ⟨p1, p2, p3, p4, p5, p6, p7, p8, p9, p10, p11⟩ := hE.ap
  have hl : (pre ++ [(pre.length, y)]).length = pre.length + 1 := by simp
  have hk : Keeps (fun k => k = b12) W ((W.drewN m).setCell ⟨b12, 0, none⟩ (.int .i64 ((pre.length : Int) + 1))) := (keeps_drewN (Keeps.refl (fun k => k = b12) W) m).setCell (p := ⟨b12, 0, none⟩) (Or.inl rfl) _
  refine ⟨hE.keeps hk (by omega) (by omega) (by omega) (by omega) (by omega) (by omega) (fun h0 => by have := h2 h0; omega) (fun k _ e => by omega), ?_, ?_, by rw [hl]; omega⟩
  · rw [hl, show (((pre.length + 1 : Nat)) : Int) = (pre.length : Int) + 1 from by omega]
    exact (hN.keeps (S := fun _ => False) (keeps_drewN (Keeps.refl _ W) m) id).set _
  · rw [hl, uptoP_succ, hy, ← hp]
theorem env_far {w W W' : World} {bs br rb sb vb b9 b10 n vo ca B : Nat} {s : Int} {a : Option Addr} {u : List Int} {row : Option Nat} (h : Env w W bs br rb sb vb b9 b10 n vo ca s a u) (hg : W.grownBy W' row) (hr : ∀ r, row = some r → B ≤ r ∧ ∃ o : Obj, W.heap[r]? = some o ∧ o.isCells = false)
    (h1 : b10 < B) (h2 : 0 < u.length → vb < B) (_h3 : w.heap.size ≤ B) : Env w W' bs br rb sb vb b9 b10 n vo ca s a u := by
  obtain ⟨p1, p2, p3, p4, p5, p6, p7, p8, p9, p10, p11⟩ := h.ap
  have key : ∀ k, k < B → ¬ row = some k := fun k hk e => by have := (hr k e).1; omega
  exact h.keeps (Keeps.of_grownBy (S := fun k => row = some k) hg fun _ _ e => e) (key _ (by omega)) (key _ (by omega)) (key _ (by omega)) (key _ h1) (key _ (by omega)) (key _ (by omega)) (fun h0 => key _ (h2 h0)) (fun k _ e => by have := (hr k e).1; omega)
theorem box_far {W W' : World} {b B : Nat} {x : Value} {row : Option Nat} (h : Box W b x) (hg : W.grownBy W' row) (hr : ∀ r, row = some r → B ≤ r ∧ ∃ o : Obj, W.heap[r]? = some o ∧ o.isCells = false) (h1 : b < B) : Box W' b x :=
  h.keeps (Keeps.of_grownBy (S := fun k => row = some k) hg fun _ _ e => e) fun e => by have := (hr b e).1; omega
theorem allJ_own {w : World} {bs br rb sb vb b9 b10 n vo ca b12 s B : Nat} {a : Option Addr} {u : List Int} (h1 : b10 < B) (h2 : 0 < u.length → vb < B) (h3 : w.heap.size ≤ B) (h4 : b12 < B) : OwnFrom B (AllJ w bs br rb sb vb b9 b10 n vo ca b12 s a u) :=
  fun _ _ _ _ hs hg hr => ⟨env_far hs.1 hg hr h1 h2 h3, box_far hs.2.1 hg hr h4, hs.2.2⟩
theorem allX_own {w : World} {bs br rb sb vb b9 b10 n vo ca b12 s B : Nat} {a : Option Addr} {u : List Int} (h1 : b10 < B) (h2 : 0 < u.length → vb < B) (h3 : w.heap.size ≤ B) (h4 : b12 < B) (c : Code) : OwnFrom B (AllX w bs br rb sb vb b9 b10 n vo ca b12 s a u c) :=
  fun _ _ _ _ hs hg hr => by
    rcases hs with ⟨e, he, hb, hl⟩ | hx
    · exact Or.inl ⟨e, env_far he hg hr h1 h2 h3, box_far hb hg hr h4, hl⟩
    · exact Or.inr hx

theorem Env.stop {w W : World} {bs br rb sb vb b9 b10 n vo ca : Nat} {s : Int} {a : Option Addr} {u : List Int} (h : Env w W bs br rb sb vb b9 b10 n vo ca s a u) (y : Int) : Env w (W.setCell ⟨bs, 0, none⟩ (.int .i64 y)) bs br rb sb vb b9 b10 n vo ca y a u := by
  have hk : Keeps (fun k => k = bs) W (W.setCell ⟨bs, 0, none⟩ (.int .i64 y)) := (Keeps.refl (fun k => k = bs) W).setCell (p := ⟨bs, 0, none⟩) (Or.inl rfl) _
  obtain ⟨p1, p2, p3, p4, p5, p6, p7, p8, p9, p10, p11⟩ := h.ap
  exact ⟨h.ap, h.hs.set _, h.hr.keeps hk (by omega), h.h9.keeps hk (by omega), h.h10.keeps hk (by omega), h.ring.keeps hk (by omega) (by omega), fun h0 => ⟨(h.vec h0).1, fun j hj => hk.cell_of ((h.vec h0).2 j hj) (show ¬ vb = bs by omega)⟩, h.bel.trans (hk.below h.bel.size fun k _ e => by omega)⟩
theorem Env.slt {w W : World} {bs br rb sb vb b9 b10 n vo ca : Nat} {s : Int} {a : Option Addr} {u : List Int} (h : Env w W bs br rb sb vb b9 b10 n vo ca s a u) : b10 < W.heap.size ∧ (0 < u.length → vb < W.heap.size) :=
  ⟨h.h10.lt, fun h0 => block_lt_of_cell ((h.vec h0).2 0 h0)⟩

set_option maxRecDepth 100000 in
set_option maxHeartbeats 3200000 in
theorem ringAll_any (size : Int) (v : Value) (l : List Int) (fst st : Int) (w : World) (_h1 : -9223372036854775808 ≤ size) (_h2 : size ≤ 9223372036854775807) (_h3 : -9223372036854775808 ≤ fst) (_h4 : fst ≤ 9223372036854775807) (_h5 : -9223372036854775808 ≤ st) (_h6 : st ≤ 9223372036854775807) (hv : NumsAt .i64 w v l) (hE : ErrT w) :
    Calls Tryd.prog 5 #[.int .i64 size, v, .int .i64 fst, .int .i64 st] w fun e w' => e = .returned (.bool true) ∧ Below w.heap.size w w' := by
  have HE := Lib.hid hE
  have hints := hv.ints
  obtain ⟨ao, m, cap, rfl, hm, hmc, hcm, hx, -⟩ := hv
  unfold maxLen at hcm
  have HI := Lib.hid hints
  have HM := Lib.hid hm
  clear hE hx hints hm
  by_cases hbig : 100 < m
  · have h1i : (100 : Int) < (m : Int) := by omega
    go_enter Tryd.func5, Tryd.ntmps5
    go_wp2_with fail
    refine (ringed_any _ ((HE.out.alloc _).alloc _)).mono ?_
    rintro e w1 ⟨rfl, hb1⟩
    have hb : Below w.heap.size w w1 := (((Below.refl _ w).alloc (Nat.le_refl _) _).alloc (by simp) _).trans (hb1.mono (by simp; omega))
    have hc := ((two_boxes w (.int .i64 st) (.bool false) 3 4).2.1.keeps (Keeps.of_new hb1) (S := fun _ => False) id)
    have hc1 := hc.cell
    have hc2 := hc.free
    have hc3 := (hc.set (.bool true)).cell
    go_wp2_with fail
    try simp only [Exit.inBlock, Exit.then]
    refine bodyPost_ret (v := .bool true) (by simp [results, Tryd.f5, go_sem, hc3]) rfl ⟨rfl, hb.setCell (by show w.heap.size ≤ w.heap.size + 1; omega) _⟩
  · have h1i : ¬ (100 : Int) < (m : Int) := by omega
    refine (callsIn_wide (n := 5)).1 (callsIn_of_wp_marks Tryd.func5 rfl trivial ?_ rfl)
    simp only [Tryd.ntmps5, List.size_toArray, List.length_cons, List.length_nil, Nat.reduceAdd, Nat.reduceSub, Array.replicate_succ, Array.replicate_zero, List.push_toArray, List.append_toArray, List.nil_append, List.cons_append]
    refine wpIn_wide.2 ?_
    go_wp2_with fail
    refine (ringed_any _ ((HE.out.alloc _).alloc _)).mono ?_
    rintro e w1 ⟨rfl, hb1⟩
    have HB1 : Hid (Below w.heap.size w w1) := Lib.hid ((((Below.refl _ w).alloc (Nat.le_refl _) _).alloc (by simp) _).trans (hb1.mono (by simp; omega)))
    have HX1 := Lib.hid (two_boxes w (.int .i64 st) (.bool false) 3 4)
    have BR1 : Hid (Box w1 (w.heap.size + 1) (.bool false)) := Lib.hid (HX1.out.2.1.keeps (Keeps.of_new hb1) (S := fun _ => False) id)
    have BS1 : Hid (Box w1 w.heap.size (.int .i64 st)) := Lib.hid (HX1.out.1.keeps (Keeps.of_new hb1) (S := fun _ => False) id)
    clear hb1 HX1
    go_wp2_with fail
    refine (filled_any size _ l _ (HI.out.below HB1.out)).mono ?_
    rintro e w2 ⟨rb, sb, B, n, vi, rfl, hn, hR, hb2⟩
    generalize l.take n = u0 at *
    obtain ⟨ai, ci, hvi⟩ := hR.own.slice
    subst hvi
    have HR2 := Lib.hid hR
    have hL : u0.length ≤ 64 := Nat.le_trans hR.ring.le hn
    have HB2 : Hid (Below w1.heap.size w1 w2) := Lib.hid hb2
    clear hR hb2
    go_wp2_with fail
    have hpk := pick_any fst (u0.length + 1) ((w2.alloc (.cells #[.pointer (some ⟨rb, 0, none⟩)] 23)).alloc (.cells #[.slice ai u0.length ci] 30)) (by omega) (by omega)
    rw [show (((u0.length + 1 : Nat)) : Int) = (u0.length : Int) + 1 from by omega] at hpk
    refine hpk.mono ?_
    rintro e w3 ⟨fk, hfk, rfl, hw3⟩
    have HX3 := Lib.hid (hw3 ▸ two_boxes w2 (.pointer (some ⟨rb, 0, none⟩)) (.slice ai u0.length ci) 23 30)
    clear hpk hw3
    go_wp2_with fail
    have c9 := HX3.out.1.cell
    have HRL : Hid (RingL eI w3 rb sb n (u0.drop 0) ∧ Keeps (Two rb sb) w3 w3) := Lib.hid ⟨HR2.out.ring.keeps HX3.out.2.2.1 id id, Keeps.refl _ _⟩
    go_loopw [11] (fun i wr => ∃ k : Nat, k ≤ fk ∧ i = .int .i64 k ∧ RingL eI wr rb sb n (u0.drop k) ∧ Keeps (Two rb sb) w3 wr) (fun i _ => fk - (intOf i).toNat)
    case atStart => exact ⟨0, Nat.zero_le _, rfl, HRL.out⟩
    case round =>
      obtain ⟨k, hk, rfl, hrl, hkr⟩ := hrel
      clear HRL
      have hlo1 := HR2.out.hi1
      have hlo2 := HR2.out.hi2
      have hlo3 := HR2.out.size
      have hn9 : ¬ Two rb sb w2.heap.size := not_two (by omega) (by omega)
      have hn10 : ¬ Two rb sb (w2.heap.size + 1) := not_two (by omega) (by omega)
      have hc9 : wr.cell? ⟨w2.heap.size, 0, none⟩ = some (.pointer (some ⟨rb, 0, none⟩)) := hkr.cell_of c9 hn9
      clear c9
      by_cases hkf : k < fk
      · have hdr : u0.drop k = u0[k]'(by omega) :: u0.drop (k + 1) := List.drop_eq_getElem_cons (by omega)
        rw [hdr] at hrl
        generalize u0[k]'(by omega) = y at *
        clear hdr
        have HRL := Lib.hid hrl
        have HKR := Lib.hid hkr
        clear hrl hkr
        go_wp2_with fail
        refine (lpopI_ok HRL.out).mono ?_
        rintro e w4 ⟨rfl, hr4, hk4⟩
        go_wp2_with fail
        go_roundw
        case rel => exact ⟨k + 1, by omega, by go_num, hr4, HKR.out.trans hk4⟩
        case measure => simp [intOf]; omega
      · obtain rfl : k = fk := by omega
        have hkk : ¬ (k : Int) < (k : Int) := by omega
        have hc10 : wr.cell? ⟨w2.heap.size + 1, 0, none⟩ = some (.slice ai u0.length ci) := hkr.cell_of HX3.out.2.1.cell hn10
        have hz10 : wr.frozen? ⟨w2.heap.size + 1, 0, none⟩ = false := (HX3.out.2.1.keeps hkr hn10).free
        go_upto_region 13 with fail
        go_cut [] from 42 to 44 (fun wx => ∃ (a : Option Addr) (vb vo : Nat), wx = wr.setCell ⟨w2.heap.size + 1, 0, none⟩ (.slice a (u0.drop k).length (ci - k)) ∧ B ≤ vb ∧ vb ≠ w2.heap.size ∧ vb ≠ w2.heap.size + 1 ∧ (0 < (u0.drop k).length → a = some ⟨vb, vo, none⟩ ∧ vb < w2.heap.size ∧ ∀ j, j < (u0.drop k).length → wr.cell? ⟨vb, vo + j, none⟩ = some (.int .i64 ((u0.drop k)[j]?.getD 0))))
        case first =>
          by_cases hck : ci = k
          · subst hck
            go_wp2_with fail
            go_meet
            have hown := HR2.out.own
            obtain ⟨ao', n', cap', hv', hn', hnc', -, -⟩ := hown.ints
            injection hv' with ha' hln' hcp'
            exact ⟨ai, w2.heap.size + 2, 0, by rw [List.length_drop]; simp, by omega, by omega, by omega, fun h => by rw [List.length_drop] at h; omega⟩
          · go_wp2_with fail
            go_meet
            have hown := HR2.out.own
            obtain ⟨ao', n', cap', hv', hn', hnc', -, hx'⟩ := hown.ints
            injection hv' with ha' hln' hcp'
            subst ha' hcp'
            by_cases h0 : 0 < u0.length
            · obtain ⟨b, o, rfl, hbl, hcell⟩ := hx' (by omega)
              have hoff := hown.off HR2.out.two
              refine ⟨_, b, o + k, by rw [List.length_drop]; cases k <;> simp [Addr.add], hown.le b rfl, by omega, by omega, fun _ => ⟨rfl, hbl, fun j hj => ?_⟩⟩
              rw [List.length_drop] at hj
              have h3 := hcell (k + j) (by omega)
              have h4 := hkr.cell_of (HX3.out.2.2.1.cell_of h3 id) (hoff b rfl)
              rw [List.getElem?_drop, Nat.add_assoc]
              rw [List.getD_eq_getElem?_getD] at h4
              exact h4
            · exact ⟨_, w2.heap.size + 2, 0, by rw [List.length_drop], by omega, by omega, by omega, fun h => by rw [List.length_drop] at h; omega⟩
        case rest =>
          obtain ⟨a, vb, vo, hwc, hvB, hv9, hv10, hvec⟩ := hcut
          have hu64 : (u0.drop k).length ≤ 64 := by rw [List.length_drop]; omega
          generalize u0.drop k = u at *
          generalize ci - k = ca at *
          have hrlo1 := HR2.out.lo1
          have hrlo2 := HR2.out.lo2
          have hsz1 := HB1.out.size
          have hk1 : Keeps (fun k => w1.heap.size ≤ k) w1 wr := ((Keeps.of_below HB2.out fun _ _ h => h).trans' HX3.out.2.2.1 (fun _ _ h => h.elim)).trans' hkr (fun i _ e => by rcases e with rfl | rfl <;> assumption)
          have hs0 := BS1.out.lt
          have hr0 := BR1.out.lt
          have hEnv0 : Env w wc w.heap.size (w.heap.size + 1) rb sb vb w2.heap.size (w2.heap.size + 1) n vo ca st a u := by
            have hkc : Keeps (fun k => k = w2.heap.size + 1) wr wc := by rw [hwc]; exact (Keeps.refl (fun k => k = w2.heap.size + 1) wr).setCell (p := ⟨w2.heap.size + 1, 0, none⟩) (Or.inl rfl) _
            have h2s := HB2.out.size
            refine ⟨⟨Nat.le_refl _, by omega, by omega, by omega, by omega, by omega, hv9, hv10, by omega, by omega, by omega⟩, (BS1.out.keeps hk1 (by omega)).keeps hkc (by omega), (BR1.out.keeps hk1 (by omega)).keeps hkc (by omega), (HX3.out.1.keeps hkr hn9).keeps hkc (by omega), ?_, hrl.keeps hkc (by omega) (by omega), ?_, ?_⟩
            · rw [hwc]
              exact (HX3.out.2.1.keeps hkr hn10).set _
            · intro h0
              obtain ⟨e1, e2, e3⟩ := hvec h0
              exact ⟨e1, fun j hj => hkc.cell_of (e3 j hj) (show ¬ vb = w2.heap.size + 1 from hv10)⟩
            · exact (HB1.out.trans ((hk1.below (Nat.le_refl _) fun _ _ h => h).mono hsz1)).trans (hkc.below (by have := hkr.size; have := HX3.out.2.2.2; omega) (fun k _ e => by omega))
          clear hvec hwc hrl hkr hk1 hc9 hc10 hz10 hrlo1 hrlo2 hlo1 hlo2 hlo3
          have HV0 := Lib.hid hEnv0
          have d1 := hEnv0.hs.cell
          have d2 := hEnv0.hs.free
          have d3 := hEnv0.h10.cell
          have d4 := hEnv0.h9.cell
          clear hEnv0
          generalize w2.heap.size + 1 = b10 at *
          generalize w2.heap.size = b9 at *
          go_wp2_with fail
          have hpk := pick_any st (u.length + 2) wc (by omega) (by omega)
          rw [show (((u.length + 2 : Nat)) : Int) = (u.length : Int) + 2 from by omega] at hpk
          refine hpk.mono ?_
          rintro e w6 ⟨s, hs, rfl, rfl⟩
          have HV1 : Hid (Env w ((wc.setCell ⟨w.heap.size, 0, none⟩ (.int .i64 s)).alloc (.cells #[.int .i64 0] 3)) w.heap.size (w.heap.size + 1) rb sb vb b9 b10 n vo ca s a u) := Lib.hid ((HV0.out.stop s).fresh ((Keeps.refl _ _).alloc _))
          have HN1 : Hid (Box ((wc.setCell ⟨w.heap.size, 0, none⟩ (.int .i64 s)).alloc (.cells #[.int .i64 0] 3)) wc.heap.size (.int .i64 0)) := Lib.hid (Box.new' _ _ _ (by simp))
          have e4 := HV1.out.h9.cell
          have hslt0 := HV0.out.slt
          clear hpk HV0
          go_wp2_with fail
          refine (allI_any _ HV1.out.ring).mono ?_
          rintro e w9 ⟨Bs, rfl, hA⟩
          have HA := Lib.hid hA
          clear hA
          go_wp2_with fail
          have HV9 := Lib.hid (HV1.out.fresh HA.out.keep)
          have HN9 := Lib.hid (HN1.out.keeps HA.out.keep id)
          obtain ⟨B1, hB1⟩ : ∃ B1, B1 = ((wc.setCell ⟨w.heap.size, 0, none⟩ (.int .i64 s)).alloc (.cells #[.int .i64 0] 3)).heap.size := ⟨_, rfl⟩
          have hb12 : wc.heap.size < B1 := by rw [hB1]; simp
          have hlo9 := HA.out.lo
          have hhi9 := HA.out.hi
          have hbox9 := HA.out.box
          have hcel9 := HA.out.cell
          rw [← hB1] at hlo9 hbox9 hcel9
          have hv9' := HV9.out.slt
          have hsz9 := HV9.out.bel.size
          clear HV1 HN1 HA hB1 e4 d2 d4 d1
          generalize wc.heap.size = b12 at *
          have HAP := Lib.hid HV9.out.ap
          refine (wpIn_wide (n := 5)).1 (wpIn_rangeFunc_ownG rfl (by omega) (gf := 49) (lb := #[.pointer (some ⟨Bs, 0, none⟩)]) rfl trivial (enters_of Tryd.func49 (by kernel_rfl) rfl)
            (all_stops Fence.wide _ trivial rfl (by omega) Bs B1 u hu64 w9 hbox9 hcel9) kpA_t (kpA_b (by omega) (by omega)) (Below.refl _ _) (fun _ => rfl)
            (AllJ w w.heap.size (w.heap.size + 1) rb sb vb b9 b10 n vo ca b12 s a u) (AllX w w.heap.size (w.heap.size + 1) rb sb vb b9 b10 n vo ca b12 s a u)
            (allJ_own hv9'.1 hv9'.2 hsz9 (by omega)) (fun c => allX_own hv9'.1 hv9'.2 hsz9 (by omega) c) ⟨HV9.out, HN9.out, rfl, Nat.zero_le _⟩ ?act ?assign ?body ?done ?stop)
          case assign =>
            intro l x W K hK
            gi_wp2
            exact hK
          case body =>
            rintro l pre ⟨kx, vx⟩ W ⟨hE, hN, hp, hps⟩ hlt
            have HEv := Lib.hid hE
            have HNv := Lib.hid hN
            have HPv := Lib.hid hp
            have f1 := hN.cell
            have f1z := hN.free
            have f2 := hE.hs.cell
            have f3 := hE.h9.cell
            have f4 := hE.h10.cell
            have f5 := hE.hr.cell
            have f5z := hE.hr.free
            have hl64 : pre.length < 64 := by omega
            clear hE hN hp
            by_cases hst : pre.length = s
            · have g1 : ((pre.length : Int) == (s : Int)) = true := by simp [hst]
              have g2 : decide ((pre.length : Int) = (s : Int)) = true := by simp [hst]
              have g3 : (pre.length == s) = true := by simp [hst]
              have g4 : decide (pre.length = s) = true := by simp [hst]
              have HST := Lib.hid hst
              clear hst hps
              gi_wp2
              exact ⟨KeepsFrom.refl _ _, Or.inl ⟨rfl, HEv.out, HST.out ▸ HNv.out, by simp [HST.out]⟩⟩
            · have g1 : ((pre.length : Int) == (s : Int)) = false := by rw [beq_eq_false_iff_ne]; omega
              have g2 : decide ((pre.length : Int) = (s : Int)) = false := by rw [decide_eq_false_iff_not]; omega
              have g3 : (pre.length == s) = false := by rw [beq_eq_false_iff_ne]; omega
              have g4 : decide (pre.length = s) = false := by rw [decide_eq_false_iff_not]; omega
              have hps' : pre.length < s := by omega
              by_cases hkx : kx = pre.length
              · subst hkx
                have hy : u[pre.length]? = some u[pre.length] := List.getElem?_eq_getElem hlt
                obtain ⟨ha, hcs⟩ := HEv.out.vec (by omega)
                have hcv := hcs _ hlt
                have HX : Hid (u[pre.length]?.getD 0 = u[pre.length]) := Lib.hid (by rw [hy]; rfl)
                rw [HX.out] at hcv
                generalize u[pre.length] = y at *
                have HY := Lib.hid hy
                have hki : (0 : Int) ≤ (pre.length : Int) ∧ (pre.length : Int) < (u.length : Int) := by omega
                clear hcs hy
                subst ha
                by_cases hv : y = vx
                · subst hv
                  gi_wp2
                  refine ⟨trivial, (CallsIn.inRound l (callsIn_wide.2 (latI_q HEv.out.ring pre.length y HY.out))).mono ?_⟩
                  rintro e W2 ⟨rfl, m, rfl⟩
                  gi_wp2
                  exact ⟨(keepsFrom_drewN _ _ _).trans ((KeepsOthers.setCell _ _ _).from _), (keeps_drewN (Keeps.refl _ _) m).setCell (Or.inl ⟨by show b12 ≠ B1; omega, by show b12 ≠ Bs; omega⟩) _, allJ_next HEv.out HNv.out HPv.out hps' HX.out hslt0.1 hslt0.2⟩
                · have hv1 : (y == vx) = false := by rw [beq_eq_false_iff_ne]; exact hv
                  have hv2 : decide (y = vx) = false := by rw [decide_eq_false_iff_not]; exact hv
                  gi_wp2
                  refine ⟨trivial, (CallsIn.inRound l (callsIn_wide.2 (latI_q HEv.out.ring pre.length y HY.out))).mono ?_⟩
                  rintro e W2 ⟨rfl, m, rfl⟩
                  gi_wp2
                  exact ⟨(keepsFrom_drewN _ _ _).trans ((KeepsOthers.setCell _ _ _).from _), Or.inr ⟨rfl, uptoP_snoc_ne fun e => by rw [HX.out] at e; injection e with _ e; exact hv e.symm⟩⟩
              · have hk2 : ¬ (kx : Int) = (pre.length : Int) := by omega
                have hk3 : (kx == pre.length) = false := by rw [beq_eq_false_iff_ne]; exact hkx
                have hk4 : decide (kx = pre.length) = false := by rw [decide_eq_false_iff_not]; exact hkx
                by_cases hku : kx < u.length
                · have hy : u[kx]? = some u[kx] := List.getElem?_eq_getElem hku
                  generalize u[kx] = y at *
                  have HY := Lib.hid hy
                  clear hy
                  gi_wp2
                  refine ⟨trivial, (CallsIn.inRound l (callsIn_wide.2 (latI_q HEv.out.ring kx y HY.out))).mono ?_⟩
                  rintro e W2 ⟨rfl, m, rfl⟩
                  gi_wp2
                  exact ⟨(keepsFrom_drewN _ _ _).trans ((KeepsOthers.setCell _ _ _).from _), Or.inr ⟨rfl, uptoP_snoc_ne fun e => by injection e with e _; exact hkx e⟩⟩
                · gi_wp2
                  refine ⟨trivial, (CallsIn.inRound l (callsIn_wide.2 (latI_no HEv.out.ring kx (Or.inr (by omega))))).mono ?_⟩
                  rintro e W2 ⟨rfl, rfl⟩
                  gi_wp2
                  exact ⟨(KeepsOthers.setCell _ _ _).from _, Or.inr ⟨rfl, uptoP_snoc_ne fun e => by injection e with e _; exact hkx e⟩⟩
          case done =>
            rintro D ys W hD rfl ⟨hE, hN, hp, hps⟩ hK
            rw [uptoP_length] at hN hps
            have HEv := Lib.hid hE
            have f1 := hN.cell
            have f2 := hE.hs.cell
            have f3 := hE.h9.cell
            have f4 := hE.h10.cell
            have f5 := hE.hr.cell
            have f5z := hE.hr.free
            clear hE hN hp
            by_cases hls : u.length < s
            · have hli : (u.length : Int) < (s : Int) := by omega
              go_wp2_with fail
              have Q : Hid (∀ v, (W.setCell ⟨w.heap.size + 1, 0, none⟩ v).cell? ⟨b12, 0, none⟩ = W.cell? ⟨b12, 0, none⟩ ∧ (W.setCell ⟨w.heap.size + 1, 0, none⟩ v).cell? ⟨w.heap.size, 0, none⟩ = some (.int .i64 (s : Nat)) ∧ (W.setCell ⟨w.heap.size + 1, 0, none⟩ v).cell? ⟨b9, 0, none⟩ = some (.pointer (some ⟨rb, 0, none⟩)) ∧ (W.setCell ⟨w.heap.size + 1, 0, none⟩ v).cell? ⟨b10, 0, none⟩ = some (.slice a u.length ca)) := Lib.hid fun v => by
                obtain ⟨p1, p2, p3, p4, p5, p6, p7, p8, p9, p10, p11⟩ := HAP.out
                have p12 := hslt0.1
                exact ⟨cell_set_other (slot_ne (by omega) _ _), (cell_set_other (slot_ne (by omega) _ _)).trans f2, (cell_set_other (slot_ne (by omega) _ _)).trans f3, (cell_set_other (slot_ne (by omega) _ _)).trans f4⟩
              refine wp_region_noPanic ?_
              go_region_held3 (fun W' : World => W'.cell? ⟨b12, 0, none⟩ = W.cell? ⟨b12, 0, none⟩ ∧ W'.cell? ⟨w.heap.size, 0, none⟩ = some (.int .i64 (s : Nat)) ∧ W'.cell? ⟨b9, 0, none⟩ = some (.pointer (some ⟨rb, 0, none⟩)) ∧ W'.cell? ⟨b10, 0, none⟩ = some (.slice a u.length ca)) (first | exact ⟨rfl, f2, f3, f4⟩ | exact Q.out _) ((first | (go_at_call 17; refine (llenI (by first | exact HEv.out.ring | exact (HEv.out.fresh (Keeps.refl _ _).drew).ring)).mono ?_; rintro e w' ⟨rfl, rfl⟩)))
              refine NoPanic.normal ?_
              go_wp2_with fail
              have hK' : ((W.setCell ⟨w.heap.size + 1, 0, none⟩ (.bool true)).drew).heap[D]? = some (.deferred (some [])) := (KeepsOthers.setCell W ⟨w.heap.size + 1, 0, none⟩ (.bool true)).same D _ hK rfl
              have hc5 := cell_kept (W := (W.setCell ⟨w.heap.size + 1, 0, none⟩ (.bool true)).drew) (HEv.out.hr.set (.bool true)).cell (grownBy_putObj' _ D (.deferred none)) (fun r e => by cases e; exact ⟨_, hK', rfl⟩)
              refine ⟨by simp, .inl ⟨_, _, rfl, run_takeDeferred hK', ?_⟩⟩
              exact ⟨.bool true, by simp [results, Tryd.f5, go_sem, hc5], rfl, ((HEv.out.bel.setCell (p := ⟨w.heap.size + 1, 0, none⟩) (by show w.heap.size ≤ w.heap.size + 1; omega) _).drew).trans (belowK_b (w := w) (Nat.le_refl _) _ D _ _ (by omega) hK' rfl rfl)⟩
            · have l1 : ¬ (u.length : Int) < (s : Int) := by omega
              have l2 : ((u.length : Int) == (s : Int)) = true := by rw [beq_iff_eq]; omega
              have l3 : (u.length == s) = true := by rw [beq_iff_eq]; omega
              have l4 : decide (u.length = s) = true := by rw [decide_eq_true_eq]; omega
              go_wp2_with fail
              have Q : Hid (∀ v, (W.setCell ⟨w.heap.size + 1, 0, none⟩ v).cell? ⟨b12, 0, none⟩ = W.cell? ⟨b12, 0, none⟩ ∧ (W.setCell ⟨w.heap.size + 1, 0, none⟩ v).cell? ⟨w.heap.size, 0, none⟩ = some (.int .i64 (s : Nat)) ∧ (W.setCell ⟨w.heap.size + 1, 0, none⟩ v).cell? ⟨b9, 0, none⟩ = some (.pointer (some ⟨rb, 0, none⟩)) ∧ (W.setCell ⟨w.heap.size + 1, 0, none⟩ v).cell? ⟨b10, 0, none⟩ = some (.slice a u.length ca)) := Lib.hid fun v => by
                obtain ⟨p1, p2, p3, p4, p5, p6, p7, p8, p9, p10, p11⟩ := HAP.out
                have p12 := hslt0.1
                exact ⟨cell_set_other (slot_ne (by omega) _ _), (cell_set_other (slot_ne (by omega) _ _)).trans f2, (cell_set_other (slot_ne (by omega) _ _)).trans f3, (cell_set_other (slot_ne (by omega) _ _)).trans f4⟩
              refine wp_region_noPanic ?_
              go_region_held3 (fun W' : World => W'.cell? ⟨b12, 0, none⟩ = W.cell? ⟨b12, 0, none⟩ ∧ W'.cell? ⟨w.heap.size, 0, none⟩ = some (.int .i64 (s : Nat)) ∧ W'.cell? ⟨b9, 0, none⟩ = some (.pointer (some ⟨rb, 0, none⟩)) ∧ W'.cell? ⟨b10, 0, none⟩ = some (.slice a u.length ca)) (first | exact ⟨rfl, f2, f3, f4⟩ | exact Q.out _) ((first | (go_at_call 17; refine (llenI (by first | exact HEv.out.ring | exact (HEv.out.fresh (Keeps.refl _ _).drew).ring)).mono ?_; rintro e w' ⟨rfl, rfl⟩)))
              refine NoPanic.normal ?_
              go_wp2_with fail
              have hK' : ((W.setCell ⟨w.heap.size + 1, 0, none⟩ (.bool true)).drew).heap[D]? = some (.deferred (some [])) := (KeepsOthers.setCell W ⟨w.heap.size + 1, 0, none⟩ (.bool true)).same D _ hK rfl
              have hc5 := cell_kept (W := (W.setCell ⟨w.heap.size + 1, 0, none⟩ (.bool true)).drew) (HEv.out.hr.set (.bool true)).cell (grownBy_putObj' _ D (.deferred none)) (fun r e => by cases e; exact ⟨_, hK', rfl⟩)
              refine ⟨by simp, .inl ⟨_, _, rfl, run_takeDeferred hK', ?_⟩⟩
              exact ⟨.bool true, by simp [results, Tryd.f5, go_sem, hc5], rfl, ((HEv.out.bel.setCell (p := ⟨w.heap.size + 1, 0, none⟩) (by show w.heap.size ≤ w.heap.size + 1; omega) _).drew).trans (belowK_b (w := w) (Nat.le_refl _) _ D _ _ (by omega) hK' rfl rfl)⟩
          case stop =>
            rintro D c pre W hD ⟨k', hk', rfl⟩ hX hK
            rcases hX with ⟨rfl, hE, hN, hl⟩ | ⟨rfl, hne⟩
            · rw [uptoP_length] at hl
              have HEv := Lib.hid hE
              have f1 := hN.cell
              have f2 := hE.hs.cell
              have f3 := hE.h9.cell
              have f4 := hE.h10.cell
              have f5 := hE.hr.cell
              have f5z := hE.hr.free
              have l1 : ¬ (u.length : Int) < (s : Int) := by omega
              have l0 : ¬ u.length < s := by omega
              have l3 : s ≤ u.length := by omega
              clear hE hN
              refine wpIn_wide.2 ?_
              go_wp2_with fail
              have Q : Hid (∀ v, (W.setCell ⟨w.heap.size + 1, 0, none⟩ v).cell? ⟨b12, 0, none⟩ = W.cell? ⟨b12, 0, none⟩ ∧ (W.setCell ⟨w.heap.size + 1, 0, none⟩ v).cell? ⟨w.heap.size, 0, none⟩ = some (.int .i64 (s : Nat)) ∧ (W.setCell ⟨w.heap.size + 1, 0, none⟩ v).cell? ⟨b9, 0, none⟩ = some (.pointer (some ⟨rb, 0, none⟩)) ∧ (W.setCell ⟨w.heap.size + 1, 0, none⟩ v).cell? ⟨b10, 0, none⟩ = some (.slice a u.length ca)) := Lib.hid fun v => by
                obtain ⟨p1, p2, p3, p4, p5, p6, p7, p8, p9, p10, p11⟩ := HAP.out
                have p12 := hslt0.1
                exact ⟨cell_set_other (slot_ne (by omega) _ _), (cell_set_other (slot_ne (by omega) _ _)).trans f2, (cell_set_other (slot_ne (by omega) _ _)).trans f3, (cell_set_other (slot_ne (by omega) _ _)).trans f4⟩
              refine wp_region_noPanic ?_
              go_region_held3 (fun W' : World => W'.cell? ⟨b12, 0, none⟩ = W.cell? ⟨b12, 0, none⟩ ∧ W'.cell? ⟨w.heap.size, 0, none⟩ = some (.int .i64 (s : Nat)) ∧ W'.cell? ⟨b9, 0, none⟩ = some (.pointer (some ⟨rb, 0, none⟩)) ∧ W'.cell? ⟨b10, 0, none⟩ = some (.slice a u.length ca)) (first | exact ⟨rfl, f2, f3, f4⟩ | exact Q.out _) ((first | (go_at_call 17; refine (llenI (by first | exact HEv.out.ring | exact (HEv.out.fresh (Keeps.refl _ _).drew).ring)).mono ?_; rintro e w' ⟨rfl, rfl⟩)))
              refine NoPanic.normal ?_
              go_wp2_with fail
              have hK' : ((W.setCell ⟨w.heap.size + 1, 0, none⟩ (.bool true)).drew).heap[D]? = some (.deferred (some [])) := (KeepsOthers.setCell W ⟨w.heap.size + 1, 0, none⟩ (.bool true)).same D _ hK rfl
              have hc5 := cell_kept (W := (W.setCell ⟨w.heap.size + 1, 0, none⟩ (.bool true)).drew) (HEv.out.hr.set (.bool true)).cell (grownBy_putObj' _ D (.deferred none)) (fun r e => by cases e; exact ⟨_, hK', rfl⟩)
              refine ⟨by simp, .inl ⟨_, _, rfl, run_takeDeferred hK', ?_⟩⟩
              exact ⟨.bool true, by simp [results, Tryd.f5, go_sem, hc5], rfl, ((HEv.out.bel.setCell (p := ⟨w.heap.size + 1, 0, none⟩) (by show w.heap.size ≤ w.heap.size + 1; omega) _).drew).trans (belowK_b (w := w) (Nat.le_refl _) _ D _ _ (by omega) hK' rfl rfl)⟩
            · exact absurd (by rw [uptoP_length]) hne
end Go.Proofs.YtnhlabbempaidaaDoor
