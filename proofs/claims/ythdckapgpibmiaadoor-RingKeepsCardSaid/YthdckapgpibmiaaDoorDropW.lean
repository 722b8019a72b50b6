/-
  Ring.Drop, at any function that says so without a panic.
-/
import Derived.Test.YthdckapgpibmiaaDoorDropL
import Derived.Test.YthdckapgpibmiaaDoorRingSeq
import Derived.Test.YthdckapgpibmiaaDoorBox
import Derived.Test.YthdckapgpibmiaaDoorOwnIIn
import Derived.TacticsIn
import Derived.RegionIn
import Derived.ControlIn
import Derived.Lib.SliceRun
import Derived.Laws.IdiomCopy
import Derived.StillTailTactics
import Derived.RangeFuncCalls
import Derived.Deep.DeepCutAuto
import Derived.Deep.CutRange
namespace Go.Proofs.YthdckapgpibmiaaDoor
open Go.RowKit Go.Shelf
attribute [local go_sem] Oper.semAt_some

theorem keepsFrom_of {S : Nat → Prop} {B : Nat} {W W' : World} (hk : Keeps S W W') (h : ∀ k, S k → k < B ∨ ∃ o : Obj, W.heap[k]? = some o ∧ o.isCells = true) : KeepsFrom B W W' :=
  ⟨hk.size, fun k o hB ho hc => by
    by_cases hS : S k
    · rcases h k hS with h1 | ⟨o', h1, h2⟩
      · omega
      · rw [ho] at h1; cases h1; rw [hc] at h2; cases h2
    · rw [hk.block k (Array.getElem?_eq_some_iff.1 ho).1 hS]; exact ho⟩
theorem keeps_setCells (b : Nat) : ∀ (vs : List Value) (o : Nat) (w : World), Keeps (fun k => k = b) w (w.setCells b o vs)
  | [], _, w => Keeps.refl _ w
  | v :: r, o, w => ((Keeps.refl (fun k => k = b) w).setCell (p := ⟨b, o, none⟩) (Or.inl rfl) v).trans (keeps_setCells b r (o + 1) _)
theorem zero_int (w : World) : (zeroValue 3).run Tryd.prog w = .ok (eI 0) w := by
  have h := Tryd.zeroValue3
  simp [h]
theorem run_clearI (w : World) (ty : TypeId) (b n : Nat) (hc : ∀ j, j < n → (w.cell? ⟨b, 0 + j, none⟩).isSome = true) (hf : ∀ j, j < n → w.frozen? ⟨b, 0 + j, none⟩ = false) :
    (Builtin.clear_ #[30] ty #[.slice (some ⟨b, 0, none⟩) n n]).run Tryd.prog w = .ok (.tuple #[]) (w.setCells b 0 (List.replicate n (eI 0))) := by
  rcases Nat.eq_zero_or_pos n with rfl | h
  · simp [Builtin.clear_, run_underlying Tryd.underlying30, World.setCells]
  · exact Lib.run_clear_slice w 30 3 ty (eI 0) Tryd.underlying30 zero_int rfl rfl b 0 n n h hc hf
theorem addr_add (sb so j : Nat) : (⟨sb, so, none⟩ : Addr).add j = ⟨sb, so + j, none⟩ := by
  unfold Addr.add
  split <;> simp_all
theorem run_copyI (w : World) (ty : TypeId) (b n : Nat) (a : Option Addr) (K : List Int) (ck : Nat) (hK : K.length ≤ n) (hI : IntsAt w (.slice a K.length ck) K) (hc : ∀ j, j < n → (w.cell? ⟨b, 0 + j, none⟩).isSome = true) (hf : ∀ j, j < n → w.frozen? ⟨b, 0 + j, none⟩ = false) :
    (Builtin.copy_ #[30, 30] ty #[.slice (some ⟨b, 0, none⟩) n n, .slice a K.length ck]).run Tryd.prog w = .ok (goInt K.length) (w.setCells b 0 (K.map eI)) := by
  have hs : (Tryd.prog.info? 3).map (·.size) = some 1 := by kernel_rfl
  rcases Nat.eq_zero_or_pos K.length with h | h
  · obtain rfl : K = [] := List.eq_nil_of_length_eq_zero h
    simpa [World.setCells] using run_copy_none (P := Tryd.prog) w 30 30 ty 3 (some ⟨b, 0, none⟩) a n n 0 ck Tryd.underlying30 hs (Nat.zero_min n)
  · obtain ⟨a', n', c', hv, hn', _, _, hx⟩ := hI
    rw [Value.slice.injEq] at hv
    obtain ⟨rfl, _, _⟩ := hv
    obtain ⟨sb, so, rfl, _, hcell⟩ := hx (by omega)
    have := run_copy_cells (P := Tryd.prog) w 30 30 ty 3 b 0 n n ⟨sb, so, none⟩ K.length ck (K.map eI) Tryd.underlying30 hs (by rw [List.length_map]; exact (Nat.min_eq_left hK).symm)
      (fun j v hj => by
        rw [List.getElem?_map] at hj
        obtain ⟨x, hx1, rfl⟩ := Option.map_eq_some_iff.1 hj
        have hjl := (List.getElem?_eq_some_iff.1 hx1).1
        have ha := addr_add sb so j
        rw [ha, hcell j (by omega), List.getD_eq_getElem?_getD, hx1]; rfl)
      (fun j hj => hc j (by rw [List.length_map] at hj; omega)) (fun j hj => hf j (by rw [List.length_map] at hj; omega)) (fun v hv => by
        obtain ⟨x, _, rfl⟩ := List.mem_map.1 hv
        rfl)
    rw [List.length_map] at this
    exact this
theorem uptoP_map (l : List Int) : (uptoP l l.length).map (·.2) = l := by
  apply List.ext_getElem
  · simp [uptoP]
  · intro i h1 h2
    simp [uptoP, h2]
/-- So many were asked. -/
structure DropJ (fv : Value) (p : Int → Bool) (Z : Nat → Prop) (Fst : Value → List Int → World → Prop) (w : World) (va : Value) (rb sb n : Nat) (l : List Int) (bf bd bk B : Nat) (pre : List (Nat × Int)) (W : World) : Prop where
  ring : RingL eI W rb sb n l
  hf : Box W bf fv
  hd : Box W bd (.int .i64 (((pre.map (·.2)).filter p).length : Nat))
  hk : ∃ vk, Box W bk vk ∧ OwnI W B vk ((pre.map (·.2)).filter fun x => !p x) ∧ ∃ va', Fst va' (pre.map (·.2)) W ∧ (∀ k, va'.ownBlock = some k → va.ownBlock = some k ∨ B ≤ k) ∧ ApartI va' vk
  tot : Keeps (fun k => Z k ∨ va.ownBlock = some k) w W
  big : B ≤ W.heap.size
/-- How the blocks lie. -/
structure DropA (Z : Nat → Prop) (w : World) (va : Value) (rb sb bf bd bk B1 Bs B : Nat) : Prop where
  z : ∀ k, Z k → k < w.heap.size ∧ k ≠ rb ∧ k ≠ sb
  v : ∀ k, va.ownBlock = some k → k < w.heap.size ∧ k ≠ rb ∧ k ≠ sb
  r : rb < w.heap.size
  s : sb < w.heap.size
  f : w.heap.size ≤ bf
  d : bf < bd
  k : bd < bk
  b1 : bk < B1
  bs : B1 < Bs
  b : Bs < B
theorem DropA.off {Z : Nat → Prop} {w : World} {va va' : Value} {rb sb bf bd bk B1 Bs B : Nat} (h : DropA Z w va rb sb bf bd bk B1 Bs B) (hv : ∀ k, va'.ownBlock = some k → va.ownBlock = some k ∨ B ≤ k) (c : Nat) (hc : c = rb ∨ c = sb ∨ (w.heap.size ≤ c ∧ c < B)) : ¬ (Z c ∨ va'.ownBlock = some c) := by
  obtain ⟨z, v, r, s, f, d, k, b1, bs, b⟩ := h
  rintro (e | e)
  · have := z c e; omega
  · rcases hv c e with e | e
    · have := v c e; omega
    · omega
theorem DropJ.far {fv : Value} {p : Int → Bool} {Z : Nat → Prop} {Fst : Value → List Int → World → Prop} (hF : FSpec fv p Z Fst) {w : World} {va : Value} {rb sb n : Nat} {l : List Int} {bf bd bk B1 Bs B : Nat} (hA : DropA Z w va rb sb bf bd bk B1 Bs B) :
    OwnFrom B (DropJ fv p Z Fst w va rb sb n l bf bd bk B) := fun pre W W' row h hg hrow => by
  obtain ⟨z, v, r, s, f, d, k, b1, bs, b⟩ := hA
  have key : ∀ k, k < B → ¬ row = some k := fun k hk e => by have := (hrow k e).1; omega
  have keyc : ∀ k, (∃ o : Obj, W.heap[k]? = some o ∧ o.isCells = true) → ¬ row = some k := fun k ⟨o, h1, h2⟩ e => by
    obtain ⟨_, o', h3, h4⟩ := hrow k e
    rw [h1] at h3; cases h3; rw [h2] at h4; cases h4
  have hk : Keeps (fun k => row = some k) W W' := Keeps.of_grownBy hg fun _ _ e => e
  obtain ⟨vk, h1, h2, va', h3, h4, h5⟩ := h.hk
  refine ⟨h.ring.keeps hk (key _ (by omega)) (key _ (by omega)), h.hf.keeps hk (key _ (by omega)), h.hd.keeps hk (key _ (by omega)), ⟨vk, h1.keeps hk (key _ (by omega)), h2.keeps hk (fun k e => keyc k (ownI_cells h2 k e).2), va', ?_, h4, h5⟩, ?_, Nat.le_trans h.big hk.size⟩
  · exact hF.keeps va' _ W W' _ h3 hk (fun k e => key k (by have := z k e; omega)) (fun k e => keyc k (hF.own va' _ W h3 k e).2)
  · exact h.tot.trans' hk (fun i hi e => absurd e (key i (by omega)))

/-- Behind the question: one more was asked, nothing is noted yet. -/
structure DropM (fv : Value) (p : Int → Bool) (Fst : Value → List Int → World → Prop) (Z : Nat → Prop) (w : World) (va : Value) (rb sb n : Nat) (l : List Int) (bf bd bk B : Nat) (pre : List (Nat × Int)) (x : Int) (vk va' : Value) (W : World) : Prop where
  ring : RingL eI W rb sb n l
  hf : Box W bf fv
  hd : Box W bd (.int .i64 (((pre.map (·.2)).filter p).length : Nat))
  hk : Box W bk vk
  own : OwnI W B vk ((pre.map (·.2)).filter fun x => !p x)
  fst : Fst va' (pre.map (·.2) ++ [x]) W
  hv : ∀ k, va'.ownBlock = some k → va.ownBlock = some k ∨ B ≤ k
  ap : ApartI va' vk
  tot : Keeps (fun k => Z k ∨ va.ownBlock = some k) w W
  big : B ≤ W.heap.size
section
variable {fv : Value} {p : Int → Bool} {Z : Nat → Prop} {Fst : Value → List Int → World → Prop} {w W W2 : World} {va vk va' va2 : Value} {rb sb n : Nat} {l : List Int} {bf bd bk B1 Bs B : Nat} {pre : List (Nat × Int)} {x : Int}
theorem DropM.of (hA : DropA Z w va rb sb bf bd bk B1 Bs B) (hJ : DropJ fv p Z Fst w va rb sb n l bf bd bk B pre W) (hb : Box W bk vk) (ho : OwnI W B vk ((pre.map (·.2)).filter fun x => !p x)) (hv : ∀ k, va'.ownBlock = some k → va.ownBlock = some k ∨ B ≤ k) (hap : ApartI va' vk)
    (hf2 : Fst va2 (pre.map (·.2) ++ [x]) W2) (hk2 : Keeps (fun k => Z k ∨ va'.ownBlock = some k) W W2) (hn2 : ∀ k, va2.ownBlock = some k → va'.ownBlock = some k ∨ W.heap.size ≤ k) : DropM fv p Fst Z w va rb sb n l bf bd bk B pre x vk va2 W2 := by
  have hoff := hA.off hv
  have hz := hA.z
  have hwB : w.heap.size ≤ B := by have := hA.f; have := hA.d; have := hA.k; have := hA.b1; have := hA.bs; have := hA.b; omega
  have g : ∀ c, w.heap.size ≤ c → c < B → ¬ (Z c ∨ va'.ownBlock = some c) := fun c h1 h2 => hoff c (Or.inr (Or.inr ⟨h1, h2⟩))
  obtain ⟨_, _, _, _, a1, a2, a3, a4, a5, a6⟩ := hA
  refine ⟨hJ.ring.keeps hk2 (hoff rb (Or.inl rfl)) (hoff sb (Or.inr (Or.inl rfl))), hJ.hf.keeps hk2 (g _ a1 (by omega)), hJ.hd.keeps hk2 (g _ (by omega) (by omega)), hb.keeps hk2 (g _ (by omega) (by omega)), ho.keeps hk2 ?_, hf2, ?_, ?_, ?_, Nat.le_trans hJ.big hk2.size⟩
  · rintro k e (e2 | e2)
    · have := ho.le k e; have := hz k e2; omega
    · exact hap k e2 e
  · intro k e
    rcases hn2 k e with h | h
    · exact hv k h
    · exact Or.inr (Nat.le_trans hJ.big h)
  · intro k e e2
    rcases hn2 k e with h | h
    · exact hap k h e2
    · have := (World.ownsRow.lt ho k e2).2; omega
  · refine hJ.tot.trans' hk2 fun i hi e => ?_
    rcases e with e | e
    · exact Or.inl e
    · rcases hv i e with h | h
      · exact Or.inr h
      · omega
theorem DropM.yes (hA : DropA Z w va rb sb bf bd bk B1 Bs B) (hF : FSpec fv p Z Fst) (h : DropM fv p Fst Z w va rb sb n l bf bd bk B pre x vk va2 W2) (hp : p x = true) (kx : Nat) :
    DropJ fv p Z Fst w va rb sb n l bf bd bk B (pre ++ [(kx, x)]) (W2.setCell ⟨bd, 0, none⟩ (.int .i64 ((((pre.map (·.2)).filter p).length : Int) + 1))) := by
  have hk := keeps_set W2 bd (.int .i64 ((((pre.map (·.2)).filter p).length : Int) + 1))
  obtain ⟨z, v, r, s, a1, a2, a3, a4, a5, a6⟩ := hA
  have e1 : (((pre ++ [(kx, x)]).map (·.2)).filter p) = (pre.map (·.2)).filter p ++ [x] := by simp [hp]
  have e2 : (((pre ++ [(kx, x)]).map (·.2)).filter fun x => !p x) = (pre.map (·.2)).filter fun x => !p x := by simp [hp]
  refine ⟨h.ring.keeps hk (by omega) (by omega), h.hf.keeps hk (by omega), ?_, ⟨vk, h.hk.keeps hk (by omega), ?_, va2, ?_, h.hv, h.ap⟩, ?_, Nat.le_trans h.big hk.size⟩
  · rw [e1, List.length_append]
    exact h.hd.set _
  · rw [e2]
    exact h.own.keeps hk (h.own.off fun k e => by omega)
  · rw [List.map_append]
    exact hF.keeps _ _ _ _ _ h.fst hk (fun k e => by have := z k e; omega) (fun k e => by
      rcases h.hv k e with h1 | h1
      · have := v k h1; omega
      · omega)
  · exact h.tot.trans' hk fun i hi e => by omega
theorem DropM.no {W3 : World} {a4 : Option Addr} {c4 : Nat} (hA : DropA Z w va rb sb bf bd bk B1 Bs B) (hF : FSpec fv p Z Fst) (h : DropM fv p Fst Z w va rb sb n l bf bd bk B pre x vk va2 W2) (hp : p x = false) (kx : Nat) (hO : OwnI W3 B (.slice a4 (((pre.map (·.2)).filter fun x => !p x).length + 1) c4) (((pre.map (·.2)).filter fun x => !p x) ++ [x]))
    (hk3 : Keeps (fun b => vk.ownBlock = some b) W2 W3) (hn : ∀ k, (Value.slice a4 (((pre.map (·.2)).filter fun x => !p x).length + 1) c4).ownBlock = some k → vk.ownBlock = some k ∨ W2.heap.size ≤ k) :
    DropJ fv p Z Fst w va rb sb n l bf bd bk B (pre ++ [(kx, x)]) (W3.setCell ⟨bk, 0, none⟩ (.slice a4 (((pre.map (·.2)).filter fun x => !p x).length + 1) c4)) := by
  have hk := keeps_set W3 bk (.slice a4 (((pre.map (·.2)).filter fun x => !p x).length + 1) c4)
  obtain ⟨z, v, r, s, a1, a2, a3, a4', a5, a6⟩ := hA
  have e1 : (((pre ++ [(kx, x)]).map (·.2)).filter p) = (pre.map (·.2)).filter p := by simp [hp]
  have e2 : (((pre ++ [(kx, x)]).map (·.2)).filter fun x => !p x) = ((pre.map (·.2)).filter fun x => !p x) ++ [x] := by simp [hp]
  have g : ∀ c, c < B → ¬ vk.ownBlock = some c := fun c hc e => by have := h.own.le c e; omega
  refine ⟨(h.ring.keeps hk3 (g _ (by omega)) (g _ (by omega))).keeps hk (by omega) (by omega), (h.hf.keeps hk3 (g _ (by omega))).keeps hk (by omega), ?_, ⟨_, (h.hk.keeps hk3 (g _ (by omega))).set _, ?_, va2, ?_, h.hv, ?_⟩, ?_, Nat.le_trans h.big (Nat.le_trans hk3.size hk.size)⟩
  · rw [e1]
    exact (h.hd.keeps hk3 (g _ (by omega))).keeps hk (by omega)
  · rw [e2]
    exact hO.keeps hk (hO.off fun k e => by omega)
  · rw [List.map_append]
    refine hF.keeps _ _ _ _ _ (hF.keeps _ _ _ _ _ h.fst hk3 (fun k e => g k (by have := z k e; omega)) (fun k e e' => h.ap k e e')) hk (fun k e => by have := z k e; omega) (fun k e => ?_)
    rcases h.hv k e with h1 | h1
    · have := v k h1; omega
    · omega
  · intro k e e'
    rcases hn k e' with h1 | h1
    · exact h.ap k e h1
    · have := (hF.own _ _ _ h.fst k e).1; omega
  · refine (h.tot.trans' hk3 fun i hi e => ?_).trans' hk fun i hi e => by omega
    exact absurd e (g i (by omega))
end

set_option maxRecDepth 100000 in
set_option maxHeartbeats 3200000 in
theorem dropI_any {fn : Fn} {caps : Array Value} {p : Int → Bool} {Z : Nat → Prop} {Fst : Value → List Int → World → Prop} (hF : FSpec (.func fn #[] caps) p Z Fst) (va : Value) {rb sb n : Nat} {l : List Int} (w : World) (h : RingL eI w rb sb n l) (hn : n ≤ 64) (h0 : Fst va [] w) (hs : sb < w.heap.size)
    (hZ : ∀ k, Z k → k < w.heap.size ∧ k ≠ rb ∧ k ≠ sb) (hv : ∀ k, va.ownBlock = some k → k < w.heap.size ∧ k ≠ rb ∧ k ≠ sb) :
    Calls Tryd.prog 10 #[.pointer (some ⟨rb, 0, none⟩), .func fn #[] caps] w fun e w' => e = .returned (.int .i64 ((l.filter p).length : Nat)) ∧ RingL eI w' rb sb n (l.filter fun x => !p x) ∧
      ∃ va', Fst va' l w' ∧ Keeps (fun k => k = rb ∨ k = sb ∨ Z k ∨ va.ownBlock = some k) w w' ∧ (∀ k, va'.ownBlock = some k → va.ownBlock = some k ∨ w.heap.size ≤ k) := by
  have HR := Lib.hid h
  have H0 := Lib.hid h0
  have HZ := Lib.hid hZ
  have HV := Lib.hid hv
  have hl64 : l.length ≤ 64 := Nat.le_trans h.le hn
  clear h h0 hZ hv
  refine (callsIn_wide (n := 5)).1 (callsIn_of_wp_marks Tryd.func10 rfl trivial ?_ rfl)
  simp only [Tryd.ntmps10, List.size_toArray, List.length_cons, List.length_nil, Nat.reduceAdd, Nat.reduceSub, Array.replicate_succ, Array.replicate_zero, List.push_toArray, List.append_toArray, List.nil_append, List.cons_append]
  refine wpIn_wide.2 ?_
  go_wp2_with fail
  have hk4 : Keeps (fun _ => False) w (((w.alloc (.cells #[.func fn #[] caps] 37)).alloc (.cells #[.int .i64 0] 3)).alloc (.cells #[.slice none 0 0] 30)) := (((Keeps.refl _ w).alloc _).alloc _).alloc _
  have q1 : Box (((w.alloc (.cells #[.func fn #[] caps] 37)).alloc (.cells #[.int .i64 0] 3)).alloc (.cells #[.slice none 0 0] 30)) w.heap.size (.func fn #[] caps) := ((Box.new w _ _).alloc _).alloc _
  have q2 : Box (((w.alloc (.cells #[.func fn #[] caps] 37)).alloc (.cells #[.int .i64 0] 3)).alloc (.cells #[.slice none 0 0] 30)) (w.heap.size + 1) (.int .i64 0) := (Box.new' _ _ _ (by simp)).alloc _
  have q3 : Box (((w.alloc (.cells #[.func fn #[] caps] 37)).alloc (.cells #[.int .i64 0] 3)).alloc (.cells #[.slice none 0 0] 30)) (w.heap.size + 1 + 1) (.slice none 0 0) := Box.new' _ _ _ (by simp)
  have hR4 := HR.out.keeps hk4 id id
  refine (allI_any _ hR4).mono ?_
  rintro e w9 ⟨Bs, rfl, hA⟩
  have HA := Lib.hid hA
  obtain ⟨B1, hB1⟩ : ∃ B1, B1 = (((w.alloc (.cells #[.func fn #[] caps] 37)).alloc (.cells #[.int .i64 0] 3)).alloc (.cells #[.slice none 0 0] 30)).heap.size := ⟨_, rfl⟩
  have hB1' : B1 = w.heap.size + 3 := by rw [hB1]; simp
  have hlo9 := hA.lo
  have hhi9 := hA.hi
  have hbox9 := hA.box
  have hcel9 := hA.cell
  rw [← hB1] at hlo9 hbox9 hcel9
  have hk9 := hk4.trans hA.keep
  have hrlt := HR.out.lt
  have HAP : Hid (DropA Z w va rb sb w.heap.size (w.heap.size + 1) (w.heap.size + 1 + 1) B1 Bs w9.heap.size) := Lib.hid ⟨HZ.out, HV.out, hrlt, hs, Nat.le_refl _, by omega, by omega, by omega, hlo9, hhi9⟩
  have HJ : Hid (DropJ (.func fn #[] caps) p Z Fst w va rb sb n l w.heap.size (w.heap.size + 1) (w.heap.size + 1 + 1) w9.heap.size [] w9) := Lib.hid
    ⟨HR.out.keeps hk9 id id, q1.keeps hA.keep id, q2.keeps hA.keep id, ⟨.slice none 0 0, q3.keeps hA.keep id, ownI_nil _ _, va, hF.keeps va [] w w9 _ H0.out hk9 (fun _ _ => id) (fun _ _ => id), fun k e => Or.inl e, fun k _ e => by cases e⟩, hk9.mono fun _ _ e => e.elim, Nat.le_refl _⟩
  clear hA HA hk4 hk9 q1 q2 q3 hR4 hB1
  generalize hbd : w.heap.size + 1 = bd at *
  generalize hbk : bd + 1 = bk at *
  go_wp2_with fail
  refine (wpIn_wide (n := 5)).1 (wpIn_rangeFunc_ownG rfl (by omega) (gf := 49) (lb := #[.pointer (some ⟨Bs, 0, none⟩)]) rfl trivial (enters_of Tryd.func49 (by kernel_rfl) rfl)
    (all_stops Fence.wide _ trivial rfl (by omega) Bs B1 l hl64 w9 hbox9 hcel9) kpA_t (kpA_b (by omega) (by omega)) (Below.refl _ _) (fun _ => rfl)
    (DropJ (.func fn #[] caps) p Z Fst w va rb sb n l w.heap.size bd bk w9.heap.size) (fun _ _ _ => False)
    (DropJ.far hF HAP.out) (fun _ _ _ _ _ hs _ _ => hs) HJ.out ?act ?assign ?body ?done ?stop)
  case assign =>
    intro l x W K hK
    gi_wp2
    exact hK
  case body =>
    rintro l' pre ⟨kx, x⟩ W hJ hlt
    obtain ⟨vk, hbk0, hok, va', hfs, hvo, hap⟩ := hJ.hk
    have c1 := hJ.hf.cell
    have HSAY := Lib.hid (hF.says va' _ x W hfs (by rw [List.length_map]; omega))
    have HJJ := Lib.hid hJ
    have HOK := Lib.hid hok
    have HFS := Lib.hid hfs
    have HBK := Lib.hid hbk0
    have HVO := Lib.hid hvo
    have HPP := Lib.hid hap
    have hlt64 : ((pre.map (·.2)).filter p).length ≤ 64 := Nat.le_trans (List.length_filter_le _ _) (by rw [List.length_map]; omega)
    have hlt65 : ((pre.map (·.2)).filter fun x => !p x).length ≤ 64 := Nat.le_trans (List.length_filter_le _ _) (by rw [List.length_map]; omega)
    clear hJ hok hfs hbk0 hvo hap
    gi_wp2
    refine ⟨trivial, (CallsIn.inRound l' (callsIn_wide.2 HSAY.out)).mono ?_⟩
    rintro e W2 ⟨rfl, va2, hfs2, hk2, hn2⟩
    have HM := Lib.hid (DropM.of HAP.out HJJ.out HBK.out HOK.out HVO.out HPP.out hfs2 hk2 hn2)
    have hoff := HAP.out.off HVO.out
    have HKP : Hid (KpA B1 Bs W W2) := Lib.hid (hk2.mono fun k _ e => ⟨fun e' => hoff k (Or.inr (Or.inr ⟨by omega, by omega⟩)) e, fun e' => hoff k (Or.inr (Or.inr ⟨by omega, by omega⟩)) e⟩)
    have HKF : Hid (KeepsFrom w9.heap.size W W2) := Lib.hid (keepsFrom_of hk2 fun k e => e.elim (fun e => Or.inl (by have := HZ.out k e; omega)) (fun e => Or.inr (hF.own va' _ W HFS.out k e).2))
    have d1 := HM.out.hd.cell
    have d2 := HM.out.hd.free
    have d3 := HM.out.hk.cell
    have d4 := HM.out.hk.free
    clear hfs2 hk2 hn2 hoff
    cases hp : p x with
    | true =>
      gi_wp2
      exact ⟨HKF.out.trans ((KeepsOthers.setCell _ _ _).from _), HKP.out.trans ((keeps_set W2 bd _).mono fun k _ e => ⟨by omega, by omega⟩), DropM.yes HAP.out hF HM.out hp kx⟩
    | false =>
      obtain ⟨ak, ck, hvk⟩ := HM.out.own.slice
      subst hvk
      have hdA := HAP.out.d
      have hkA := HAP.out.k
      have hb1A := HAP.out.b1
      have hbsA := HAP.out.bs
      have hbA := HAP.out.b
      have hgv : ∀ c, c < w9.heap.size → ¬ (Value.slice ak ((pre.map (·.2)).filter fun x => !p x).length ck).ownBlock = some c := fun c hc e => by have := HM.out.own.le c e; omega
      have HGV := Lib.hid hgv
      have HOWN := Lib.hid HM.out.own
      have HHK := Lib.hid HM.out.hk
      clear hgv
      generalize hAf : (pre.map (·.2)).filter (fun x => !p x) = Af at *
      have HAF := Lib.hid hAf
      clear hAf
      gi_wp2_with (gi_at_builtin; go_loud (refine wpListIn_appendI rfl _ _ rfl _ w9.heap.size _ Af x HOWN.out rfl rfl (by omega) HM.out.big ?_; intro a4 c4 w4 hO4 hK4 hN4; have HO4 := Lib.hid hO4; have HK4 := Lib.hid hK4; have HN4 := Lib.hid hN4; have c4k := (HHK.out.keeps hK4 (HGV.out bk (by omega))).cell; have z4k := (HHK.out.keeps hK4 (HGV.out bk (by omega))).free; clear hO4 hK4 hN4))
      have hAf := HAF.out
      subst hAf
      exact ⟨(HKF.out.trans (keepsFrom_of HK4.out fun k e => Or.inr (ownI_cells HM.out.own k e).2)).trans ((KeepsOthers.setCell _ _ _).from _), (HKP.out.trans (HK4.out.mono fun k _ e => ⟨fun e' => HGV.out k (by omega) e, fun e' => HGV.out k (by omega) e⟩)).trans ((keeps_set w4 bk _).mono fun k _ e => ⟨by omega, by omega⟩), DropM.no HAP.out hF HM.out hp kx HO4.out HK4.out HN4.out⟩
  case done =>
    rintro D ys W hD rfl hJ hK
    obtain ⟨vk, hbk0, hok, va', hfs, hvo, hap⟩ := hJ.hk
    rw [uptoP_map] at hok hfs
    have hd0 := hJ.hd
    rw [uptoP_map] at hd0
    have HD0 := Lib.hid hd0
    have HJJ := Lib.hid hJ
    obtain ⟨ak, ck, hvk⟩ := hok.slice
    subst hvk
    have HOK := Lib.hid hok
    have HFS := Lib.hid hfs
    have HBK := Lib.hid hbk0
    have HVO := Lib.hid hvo
    have HPP := Lib.hid hap
    have hKl : (l.filter fun x => !p x).length ≤ n := Nat.le_trans (List.length_filter_le _ _) hJ.ring.le
    obtain ⟨row, f, hrow, hra⟩ := hJ.ring
    have HRA := Lib.hid hra
    have c0 := hra.c0
    rw [hrow] at c0
    have hsc : ∀ j, j < n → (W.cell? ⟨sb, 0 + j, none⟩).isSome = true := fun j hj => by rw [Nat.zero_add, hra.cell j _ (List.getElem?_eq_getElem (by omega))]; rfl
    have hsf : ∀ j, j < n → W.frozen? ⟨sb, 0 + j, none⟩ = false := fun j hj => by rw [Nat.zero_add]; exact hra.free j (by omega)
    have hcl := fun ty => run_clearI W ty sb n hsc hsf
    have hA := HAP.out
    have hrs : rb ≠ sb := hra.ne
    have hbs : sb < bk := by have := hA.s; have := hA.f; have := hA.d; have := hA.k; omega
    have hbr : rb < bk := by have := hA.r; have := hA.f; have := hA.d; have := hA.k; omega
    have hbdb : sb < bd ∧ rb < bd := by have := hA.s; have := hA.r; have := hA.f; have := hA.d; exact ⟨by omega, by omega⟩
    have hwD : w.heap.size ≤ w9.heap.size := by have := hA.f; have := hA.d; have := hA.k; have := hA.b1; have := hA.bs; have := hA.b; omega
    obtain ⟨W1, hW1⟩ : ∃ W1, W1 = W.setCells sb 0 (List.replicate n (eI 0)) := ⟨_, rfl⟩
    have hk1 : Keeps (fun k => k = sb) W W1 := hW1 ▸ keeps_setCells sb (List.replicate n (eI 0)) 0 W
    have hs1 : ∀ j, j < n → W1.cell? ⟨sb, 0 + j, none⟩ = some (eI 0) := fun j hj => by
      rw [hW1, World.cell?_setCells_in sb (List.replicate n (eI 0)) 0 W (fun i hi => hsc i (by rw [List.length_replicate] at hi; exact hi)) j (by rw [List.length_replicate]; exact hj), List.getElem_replicate]
    have hf1 : ∀ j, j < n → W1.frozen? ⟨sb, 0 + j, none⟩ = false := fun j hj => by
      rw [hW1, World.frozen?_setCells]; exact hsf j hj
    have hoS : Off (.slice ak (l.filter fun x => !p x).length ck) (fun k => k = sb ∨ k = rb) := hok.off fun k e => by have := hA.s; have := hA.r; omega
    have hi1 : IntsAt W1.drew (.slice ak (l.filter fun x => !p x).length ck) (l.filter fun x => !p x) := hok.ints.keeps hk1.drew fun k e h => hoS k e (Or.inl h)
    have hcp := fun ty => run_copyI W1.drew ty sb n ak (l.filter fun x => !p x) ck hKl hi1 (fun j hj => by
      show (W1.cell? _).isSome = true
      rw [hs1 j hj]; rfl) (fun j hj => hf1 j hj)
    obtain ⟨W2, hW2⟩ : ∃ W2, W2 = W1.drew.setCells sb 0 ((l.filter fun x => !p x).map eI) := ⟨_, rfl⟩
    have hk2 : Keeps (fun k => k = sb) W W2 := hW2 ▸ hk1.drew.trans (keeps_setCells sb _ 0 W1.drew)
    have hs2 : ∀ j v, ((l.filter fun x => !p x) ++ List.replicate (n - (l.filter fun x => !p x).length) 0)[j]? = some v → W2.cell? ⟨sb, j, none⟩ = some (eI v) := fun j v hj => by
      have hjl := (List.getElem?_eq_some_iff.1 hj).1
      rw [List.length_append, List.length_replicate] at hjl
      have hc1 : W1.drew.cell? ⟨sb, 0 + j, none⟩ = some (eI 0) := hs1 j (by omega)
      rw [hW2, show (⟨sb, j, none⟩ : Addr) = ⟨sb, 0 + j, none⟩ by rw [Nat.zero_add]]
      by_cases e : j < (l.filter fun x => !p x).length
      · rw [World.cell?_setCells_in sb _ 0 W1.drew (fun i hi => by
          have hcc : W1.drew.cell? ⟨sb, 0 + i, none⟩ = some (eI 0) := hs1 i (by rw [List.length_map] at hi; omega)
          rw [hcc]; rfl) j (by rw [List.length_map]; exact e), List.getElem_map]
        rw [List.getElem?_append_left e, List.getElem?_eq_getElem e] at hj
        injection hj with hj
        rw [hj]
      · rw [World.cell?_setCells_out sb _ 0 W1.drew _ (fun _ _ => Or.inr (by rw [List.length_map]; show _ ≤ 0 + j; omega)), hc1]
        rw [List.getElem?_append_right (by omega), List.getElem?_replicate, if_pos (by omega)] at hj
        injection hj with hj
        rw [hj]
    have hf2 : ∀ j, j < n → W2.frozen? ⟨sb, j, none⟩ = false := fun j hj => by
      rw [hW2, World.frozen?_setCells, show (⟨sb, j, none⟩ : Addr) = ⟨sb, 0 + j, none⟩ by rw [Nat.zero_add]]
      exact hf1 j hj
    have a10 : W1.cell? ⟨rb, 0, none⟩ = some (.slice (some ⟨sb, 0, none⟩) n n) := hk1.cell_of c0 hrs
    have a1k := (hbk0.keeps hk1 (by omega)).cell
    have a20 : W2.cell? ⟨rb, 0, none⟩ = some (.slice (some ⟨sb, 0, none⟩) n n) := hk2.cell_of c0 hrs
    have a21 := hk2.cell_of hra.c1 hrs
    have a22 := hk2.cell_of hra.c2 hrs
    have b21 : W2.frozen? ⟨rb, 1, none⟩ = false := by rw [hk2.frozen hra.lt hrs]; exact hra.z1
    have b22 : W2.frozen? ⟨rb, 2, none⟩ = false := by rw [hk2.frozen hra.lt hrs]; exact hra.z2
    have a2k := (hbk0.keeps hk2 (by omega)).cell
    have a2d := (hd0.keeps hk2 (by omega)).cell
    have hKl64 : (l.filter fun x => !p x).length ≤ 64 := by omega
    have HS2 := Lib.hid hs2
    have HF2 := Lib.hid hf2
    have HK2 := Lib.hid hk2
    have HA21 := Lib.hid a21
    have HA22 := Lib.hid a22
    have hdl : (l.filter p).length ≤ 64 := Nat.le_trans (List.length_filter_le _ _) hl64
    clear hok hfs hbk0 hvo hap hJ hra hd0 hA hs1 hf1 hoS hi1 hk1 hk2 hs2 hf2 hsc hsf
    generalize hKe : (l.filter fun x => !p x) = K at *
    generalize hDe : (l.filter p).length = d at *
    rw [← hW1] at hcl
    rw [← hW2] at hcp
    clear hW1 hW2
    go_wp2_with fail
    go_still_tail 5, (by kernel_rfl)
    change wpList _ _ _ _ _ W1.drew
    go_wp2_with fail
    have hrk : (⟨rb, 1, none⟩ : Addr) ≠ ⟨bk, 0, none⟩ := slot_ne (by omega) _ _
    have hrk2 : (⟨rb, 2, none⟩ : Addr) ≠ ⟨bk, 0, none⟩ := slot_ne (by omega) _ _
    refine wp_region_noPanic ?_
    go_region
    all_goals refine NoPanic.normal ?_
    have hrd : (⟨rb, 1, none⟩ : Addr) ≠ ⟨bd, 0, none⟩ := slot_ne (by omega) _ _
    have hrd2 : (⟨rb, 2, none⟩ : Addr) ≠ ⟨bd, 0, none⟩ := slot_ne (by omega) _ _
    go_wp2_with fail
    have hk3 : Keeps (fun k => k = sb ∨ k = rb) W (((W2.setCell ⟨rb, 1, none⟩ (.int .i64 0)).setCell ⟨rb, 2, none⟩ (.int .i64 (K.length : Nat))).drew) :=
      (((HK2.out.mono (S' := fun k => k = sb ∨ k = rb) fun _ _ e => Or.inl e).setCell (p := ⟨rb, 1, none⟩) (Or.inl (Or.inr rfl)) _).setCell (p := ⟨rb, 2, none⟩) (Or.inl (Or.inr rfl)) _).drew
    have hRA3 : RingAt eI (((W2.setCell ⟨rb, 1, none⟩ (.int .i64 0)).setCell ⟨rb, 2, none⟩ (.int .i64 (K.length : Nat))).drew) rb sb (K ++ List.replicate (row.length - K.length) 0) 0 K :=
      HRA.out.refill K 0 (by rw [hrow]; exact hKl) (by
          rw [hrow]
          exact (cell_set_other (off_ne (by decide) _)).trans ((cell_set_other (off_ne (by decide) _)).trans a20)) ((cell_set_other (off_ne (by decide) _)).trans (cell_set_same HA21.out)) (cell_set_same ((cell_set_other (off_ne (by decide) _)).trans HA22.out))
        (by simpa using b21) (by simpa using b22) (fun j x hx => (cell_set_other (slot_ne hrs _ _)).trans ((cell_set_other (slot_ne hrs _ _)).trans (HS2.out j x (by rw [← hrow]; exact hx)))) (fun j hj => by simpa using HF2.out j (by rw [← hrow]; exact hj))
    generalize hW3 : ((W2.setCell ⟨rb, 1, none⟩ (.int .i64 0)).setCell ⟨rb, 2, none⟩ (.int .i64 (K.length : Nat))).drew = W3 at *
    have hDW : D < W.heap.size := (Array.getElem?_eq_some_iff.1 hK).1
    have hK' : W3.heap[D]? = some (.deferred (some [])) := by
      rw [hk3.block D hDW (by have := HAP.out.s; have := HAP.out.r; omega)]
      exact hK
    have hk4 : Keeps (fun k => k = D) W3 (W3.putObj D (.deferred none)) := Keeps.of_grownBy (grownBy_putObj' W3 D _) fun k _ e => by injection e with e; exact e.symm
    have hk5 : Keeps (fun k => k = sb ∨ k = rb ∨ k = D) W (W3.putObj D (.deferred none)) := (hk3.mono fun k _ e => e.elim Or.inl fun e => Or.inr (Or.inl e)).trans (hk4.mono fun k _ e => Or.inr (Or.inr e))
    have hZA := HZ.out
    have hVA := HV.out
    have hVO := HVO.out
    subst hKe
    subst hDe
    refine ⟨by simp, .inl ⟨_, _, rfl, run_takeDeferred hK', ?_⟩⟩
    refine ⟨_, results_tmp rfl _ _ _, rfl, ⟨(l.filter fun x => !p x) ++ List.replicate (row.length - (l.filter fun x => !p x).length) 0, 0, by rw [List.length_append, List.length_replicate, hrow]; exact Nat.add_sub_cancel' hKl, hRA3.keeps hk4 (by have := HAP.out.r; omega) (by have := HAP.out.s; omega)⟩, va', ?_, ?_, fun k e => (hVO k e).imp id fun e => by omega⟩
    · refine hF.keeps va' l W _ _ HFS.out hk5 (fun k e => ?_) (fun k e => ?_)
      · have := hZA k e
        rintro (e | e | e) <;> omega
      · rintro (e2 | e2 | e2)
        · rcases hVO k e with e3 | e3
          · have := hVA k e3; omega
          · have := HAP.out.s; omega
        · rcases hVO k e with e3 | e3
          · have := hVA k e3; omega
          · have := HAP.out.r; omega
        · obtain ⟨_, o, ho, hoc⟩ := hF.own va' l W HFS.out k e
          rw [e2, hK] at ho
          cases ho
          cases hoc
    · exact (HJJ.out.tot.mono fun k _ e => Or.inr (Or.inr e)).trans' hk5 fun i hi e => by
        rcases e with e | e | e
        · exact Or.inr (Or.inl e)
        · exact Or.inl e
        · omega
  case stop =>
    rintro D c pre W _ _ h _
    exact h.elim
end Go.Proofs.YthdckapgpibmiaaDoor
