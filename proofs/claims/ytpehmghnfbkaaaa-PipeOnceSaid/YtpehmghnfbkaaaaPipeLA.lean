/-
  The walk of package pipe's look at a channel: all that is to be seen of it.
-/
import Derived.Test.YtpehmghnfbkaaaaPipeW8
import Derived.Test.YtpehmghnfbkaaaaPipeWC
import Derived.Test.YtpehmghnfbkaaaaRingSeq
import Derived.Test.YtpehmghnfbkaaaaBox
import Derived.Test.YtpehmghnfbkaaaaOwnIIn
import Derived.TacticsIn
import Derived.RegionIn
import Derived.ControlIn
import Derived.RangeFuncCalls
import Derived.Deep.RegionHeld3
import Derived.Deep.DeepCutAuto
import Derived.Deep.CutRange
namespace Go.Proofs.Ytpehmghnfbkaaaa
open Go.RowKit Go.Shelf Go.Maps Pp
attribute [local go_sem] Oper.semAt_some

theorem kf_cells {S : Nat → Prop} {B : Nat} {W W' : World} (hk : Keeps S W W') (h : ∀ k, S k → k < B ∨ ∃ o : Obj, W.heap[k]? = some o ∧ o.isCells = true) : KeepsFrom B W W' :=
  ⟨hk.size, fun k o hB ho hc => by
    by_cases hS : S k
    · rcases h k hS with h1 | ⟨o', h1, h2⟩
      · omega
      · rw [ho] at h1; cases h1; rw [hc] at h2; cases h2
    · rw [hk.block k (Array.getElem?_eq_some_iff.1 ho).1 hS]; exact ho⟩
theorem rowCells {W : World} {B : Nat} {t : TypeId} {n : Nat} {v : Value} {m : Nat} {cs : List Value} (h : W.ownsRow B t n v m cs) : ∀ k, v.ownBlock = some k → ∃ o : Obj, W.heap[k]? = some o ∧ o.isCells = true := fun k hk => by
  rcases h.2 with ⟨rfl, h0⟩ | ⟨g, cap, cur, rfl, hb, hg, _⟩
  · cases hk
  · cases hk
    exact ⟨_, hg, rfl⟩
theorem uptoP_snd (l : List Int) : (uptoP l l.length).map (·.2) = l := by
  apply List.ext_getElem
  · simp [uptoP]
  · intro i h1 h2
    simp [uptoP, h2]
theorem bel_step {W V V' : World} (h : Below W.heap.size W V) (k : Below V.heap.size V V') : Below W.heap.size W V' := h.trans (k.mono h.size)
theorem bel_step' {W V V' : World} (h : Below W.heap.size W V) (k : Below V.drew.heap.size V.drew V') : Below W.heap.size W V' := bel_step h.drew k
theorem cloneS_any (w : World) {v : Value} {r : List (Int × Nat)} (hl : RowW w v r) (h6 : r.length ≤ 1000000000) :
    Calls Try.prog 19 #[v] w fun e w' => ∃ au cu, e = .returned (.slice au r.length cu) ∧ w'.ownsRow w.heap.size 58 2 (.slice au r.length cu) r.length (cellsW r) ∧ Below w.heap.size w w' := by
  refine (cloneW_any w hl h6).mono ?_
  rintro e w' ⟨u, rfl, h1, h2⟩
  have h3 := h1
  rcases h1.2 with ⟨rfl, h0⟩ | ⟨g, cap, cur, rfl, _⟩
  · exact ⟨none, 0, by rw [h0], by rw [h0] at h3 ⊢; exact h3, h2⟩
  · exact ⟨_, _, rfl, h3, h2⟩
theorem set5 {w V : World} {r : Nat} (h : Keeps (fun k => k = r) w V) (a b c d e : Value) : Keeps (fun k => k = r) w (((((V.setCell ⟨r, 0, none⟩ a).setCell ⟨r, 1, none⟩ b).setCell ⟨r, 2, none⟩ c).setCell ⟨r, 3, none⟩ d).setCell ⟨r, 4, none⟩ e) :=
  ((((h.setCell (Or.inl rfl) a).setCell (Or.inl rfl) b).setCell (Or.inl rfl) c).setCell (Or.inl rfl) d).setCell (Or.inl rfl) e
theorem get5 {V : World} {r : Nat} {x0 x1 x2 x3 x4 : Value} (h0 : V.cell? ⟨r, 0, none⟩ = some x0) (h1 : V.cell? ⟨r, 1, none⟩ = some x1) (h2 : V.cell? ⟨r, 2, none⟩ = some x2) (h3 : V.cell? ⟨r, 3, none⟩ = some x3) (h4 : V.cell? ⟨r, 4, none⟩ = some x4) (a b c d e : Value) :
    let Z := ((((V.setCell ⟨r, 0, none⟩ a).setCell ⟨r, 1, none⟩ b).setCell ⟨r, 2, none⟩ c).setCell ⟨r, 3, none⟩ d).setCell ⟨r, 4, none⟩ e
    Z.cell? ⟨r, 0, none⟩ = some a ∧ Z.cell? ⟨r, 1, none⟩ = some b ∧ Z.cell? ⟨r, 2, none⟩ = some c ∧ Z.cell? ⟨r, 3, none⟩ = some d ∧ Z.cell? ⟨r, 4, none⟩ = some e := by
  have o : ∀ {W : World} {i j : Nat} {v : Value}, j ≠ i → (W.setCell ⟨r, j, none⟩ v).cell? ⟨r, i, none⟩ = W.cell? ⟨r, i, none⟩ := fun h => cell_set_other (off_ne h r)
  refine ⟨?_, ?_, ?_, ?_, ?_⟩
  · rw [o (by decide), o (by decide), o (by decide), o (by decide)]; exact cell_set_same h0
  · rw [o (by decide), o (by decide), o (by decide)]; exact cell_set_same ((o (by decide)).trans h1)
  · rw [o (by decide), o (by decide)]; exact cell_set_same ((o (by decide)).trans ((o (by decide)).trans h2))
  · rw [o (by decide)]; exact cell_set_same ((o (by decide)).trans ((o (by decide)).trans ((o (by decide)).trans h3)))
  · exact cell_set_same ((o (by decide)).trans ((o (by decide)).trans ((o (by decide)).trans ((o (by decide)).trans h4))))
theorem own_lower {w : World} {B B' : Nat} {t : TypeId} {n : Nat} {v : Value} {m : Nat} {cs : List Value} (h : w.ownsRow B t n v m cs) (hB : B' ≤ B) : w.ownsRow B' t n v m cs :=
  ⟨h.1, h.2.imp id fun ⟨g, cap, cur, e, hb, r⟩ => ⟨g, cap, cur, e, Nat.le_trans hB hb, r⟩⟩
/-- So many were noted. -/
structure LookJ (w9 : World) (bn : Nat) (pre : List (Nat × Int)) (W : World) : Prop where
  keep : Keeps (fun k => k = bn) w9 W
  row : ∃ vk, Box W bn vk ∧ OwnI W w9.heap.size vk (pre.map (·.2))
theorem lookJ_own {w9 : World} {bn : Nat} (hb : bn < w9.heap.size) : OwnFrom w9.heap.size (LookJ w9 bn) := fun pre W W' row h hg hrow => by
  have key : ∀ k, k < w9.heap.size → ¬ row = some k := fun k hk e => by have := (hrow k e).1; omega
  have keyc : ∀ k, (∃ o : Obj, W.heap[k]? = some o ∧ o.isCells = true) → ¬ row = some k := fun k ⟨o, h1, h2⟩ e => by
    obtain ⟨_, o', h3, h4⟩ := hrow k e
    rw [h1] at h3; cases h3; rw [h2] at h4; cases h4
  have hk : Keeps (fun k => row = some k) W W' := Keeps.of_grownBy hg fun _ _ e => e
  obtain ⟨vk, h1, h2⟩ := h.row
  exact ⟨h.keep.trans' hk fun i hi e => absurd e (key i hi), vk, h1.keeps hk (key _ hb), h2.keeps hk fun k e => keyc k (rowCells h2 k e)⟩

/-- What is seen of a channel. -/
structure SeenC (w' : World) (B : Nat) (c : Ch) (vn u1 u2 : Value) : Prop where
  nums : OwnI w' B vn c.nums
  sends : w'.ownsRow B 58 2 u1 c.sends.length (cellsW c.sends)
  recvs : w'.ownsRow B 58 2 u2 c.recvs.length (cellsW c.recvs)

set_option maxRecDepth 100000 in
set_option maxHeartbeats 3200000 in
theorem lookC_any (w : World) {ρ : Nat → Role} {k cb rb sb : Nat} {v1 v2 : Value} {c : Ch} (h : ChC w ρ k cb rb sb v1 v2 c) (hn : c.nums.length ≤ 64) (h1 : c.sends.length ≤ 1000000000) (h2 : c.recvs.length ≤ 1000000000) :
    Calls Try.prog 27 #[.pointer (some ⟨cb, 0, none⟩)] w fun e w' => ∃ vn u1 u2, e = .returned (.agg #[.int .i64 c.size, vn, .bool c.shut, u1, u2]) ∧ SeenC w' w.heap.size c vn u1 u2 ∧ Below w.heap.size w w' := by
  obtain ⟨size, nums, shut, sends, recvs⟩ := c
  have HC := Lib.hid h
  have H1 := Lib.hid h1
  have H2 := Lib.hid h2
  have hcl := block_lt_of_cell h.c0
  have c0 := h.c0
  simp only at hn
  clear h h1 h2
  refine (callsIn_wide (n := 5)).1 (callsIn_of_wp_marks Try.func27 rfl trivial ?_ rfl)
  simp only [Try.ntmps27, List.size_toArray, List.length_cons, List.length_nil, Nat.reduceAdd, Nat.reduceSub, Array.replicate_succ, Array.replicate_zero, List.push_toArray, List.append_toArray, List.nil_append, List.cons_append]
  refine wpIn_wide.2 ?_
  go_wp2_with fail
  have q0 : Box ((w.alloc (.cells #[.int .i64 0, .slice none 0 0, .bool false, .slice none 0 0, .slice none 0 0] 52)).alloc (.cells #[.slice none 0 0] 35)) (w.heap.size + 1) (.slice none 0 0) := Box.new' _ _ _ (by simp)
  obtain ⟨wA, hwA⟩ : ∃ wA, wA = (w.alloc (.cells #[.int .i64 0, .slice none 0 0, .bool false, .slice none 0 0, .slice none 0 0] 52)).alloc (.cells #[.slice none 0 0] 35) := ⟨_, rfl⟩
  have hkA : Keeps (fun _ => False) w wA := hwA ▸ ((Keeps.refl _ w).alloc _).alloc _
  have hsA : wA.heap.size = w.heap.size + 2 := by rw [hwA]; simp
  have hrA : ∀ i, i < 5 → (wA.cell? ⟨w.heap.size, i, none⟩).isSome = true ∧ wA.frozen? ⟨w.heap.size, i, none⟩ = false := fun i hi => by
    rw [hwA, World.cell?_alloc_past _ _ _ (by simp), World.frozen?_alloc_past _ _ _ (by simp), World.cell?_alloc_at _ _ _ _ rfl, World.frozen?_alloc_at _ _ _ _ rfl]
    match i, hi with
    | 0, _ => exact ⟨rfl, rfl⟩
    | 1, _ => exact ⟨rfl, rfl⟩
    | 2, _ => exact ⟨rfl, rfl⟩
    | 3, _ => exact ⟨rfl, rfl⟩
    | 4, _ => exact ⟨rfl, rfl⟩
  rw [← hwA] at q0 ⊢
  have HRA := Lib.hid hrA
  clear hwA hrA
  refine (allI_any _ (HC.out.keeps hkA fun _ _ _ => id).ring).mono ?_
  rintro e w9 ⟨Bs, rfl, hA⟩
  have HA := Lib.hid hA
  obtain ⟨B1, hB1⟩ : ∃ B1, B1 = wA.heap.size := ⟨_, rfl⟩
  have hlo9 := hA.lo
  have hhi9 := hA.hi
  have hbox9 := hA.box
  have hcel9 := hA.cell
  rw [← hB1] at hlo9 hbox9 hcel9
  have q9 := q0.keeps hA.keep id
  have HK9 := Lib.hid (hkA.trans hA.keep)
  have HJ : Hid (LookJ w9 (w.heap.size + 1) [] w9) := Lib.hid ⟨Keeps.refl _ _, _, q9, ownI_nil _ _⟩
  have hb1 : w.heap.size + 2 = B1 := by omega
  clear hA q0 hkA hB1 q9
  generalize hbn : w.heap.size + 1 = bn at *
  go_wp2_with fail
  refine (wpIn_wide (n := 5)).1 (wpIn_rangeFunc_ownG rfl (by omega) (gf := 45) (lb := #[.pointer (some ⟨Bs, 0, none⟩)]) rfl trivial (enters_of Try.func45 (by kernel_rfl) rfl)
    (all_stops Fence.wide _ trivial rfl (by omega) Bs B1 nums hn w9 hbox9 hcel9) kpA_t (kpA_b (by omega) (by omega)) (Below.refl _ _) (fun _ => rfl)
    (LookJ w9 bn) (fun _ _ _ => False) (lookJ_own (by omega)) (fun _ _ _ _ _ hs _ _ => hs) HJ.out ?act ?assign ?body ?done ?stop)
  case assign =>
    intro l x W K hK
    gi_wp2
    exact hK
  case body =>
    rintro l' pre ⟨kx, x⟩ W hJ hlt
    obtain ⟨vk, hbk, hok⟩ := hJ.row
    obtain ⟨ak, ck, hvk⟩ := hok.slice
    subst hvk
    have HJJ := Lib.hid hJ
    have HOK := Lib.hid hok
    have HBK := Lib.hid hbk
    have hpl : (pre.map (·.2)).length ≤ 64 := by rw [List.length_map]; omega
    have c1 := hbk.cell
    have c2 := hbk.free
    have hgv : ∀ c, c < w9.heap.size → ¬ (Value.slice ak (pre.map (·.2)).length ck).ownBlock = some c := fun c hc e => by have := hok.le c e; omega
    have HGV := Lib.hid hgv
    have hbig : w9.heap.size ≤ W.heap.size := hJ.keep.size
    clear hJ hok hbk hgv
    generalize hAf : pre.map (·.2) = Af at *
    have HAF := Lib.hid hAf
    clear hAf
    gi_wp2_with (gi_at_builtin; go_loud (refine wpListIn_appendI rfl _ _ rfl _ w9.heap.size _ Af x HOK.out rfl rfl (by omega) hbig ?_; intro a4 c4 w4 hO4 hK4 hN4; have HO4 := Lib.hid hO4; have HK4 := Lib.hid hK4; have c4k := (HBK.out.keeps hK4 (HGV.out bn (by omega))).cell; have z4k := (HBK.out.keeps hK4 (HGV.out bn (by omega))).free; clear hO4 hK4 hN4))
    have hAf := HAF.out
    subst hAf
    have hKs := keeps_set w4 bn (.slice a4 ((pre.map (·.2)).length + 1) c4)
    refine ⟨(kf_cells HK4.out fun k e => Or.inr (rowCells HOK.out k e)).trans ((KeepsOthers.setCell _ _ _).from _), (HK4.out.mono fun k _ e => ⟨fun e' => HGV.out k (by omega) e, fun e' => HGV.out k (by omega) e⟩).trans (hKs.mono fun k _ e => ⟨by omega, by omega⟩), ?_, _, (HBK.out.keeps HK4.out (HGV.out bn (by omega))).set _, ?_⟩
    · exact (HJJ.out.keep.trans' HK4.out fun i hi e => absurd e (HGV.out i hi)).trans hKs
    · rw [List.map_append]
      exact HO4.out.keeps hKs (HO4.out.off fun k e => by omega)
  case done =>
    rintro D ys W hD rfl hJ hK
    obtain ⟨vk, hbk, hok⟩ := hJ.row
    rw [uptoP_snd] at hok
    obtain ⟨ak, ck, rfl⟩ := hok.slice
    have hkW : Keeps (fun _ => False) w W := HK9.out.trans' hJ.keep fun i hi e => by omega
    have hCW := HC.out.keeps hkW fun _ _ _ => id
    have hkA : Keeps (fun k => k = bn) wA W := (HA.out.keep.mono fun _ _ e => e.elim).trans hJ.keep
    have hr0 : ∀ i, i < 5 → ∃ x, W.cell? ⟨w.heap.size, i, none⟩ = some x ∧ W.frozen? ⟨w.heap.size, i, none⟩ = false := fun i hi => by
      obtain ⟨x, hx⟩ := Option.isSome_iff_exists.1 (HRA.out i hi).1
      exact ⟨x, hkA.cell_of hx (by show ¬ w.heap.size = bn; omega), by rw [hkA.frozen (p := ⟨w.heap.size, i, none⟩) (by show w.heap.size < wA.heap.size; omega) (by show ¬ w.heap.size = bn; omega)]; exact (HRA.out i hi).2⟩
    obtain ⟨x0, y0, z0⟩ := hr0 0 (by omega)
    obtain ⟨x1, y1, z1⟩ := hr0 1 (by omega)
    obtain ⟨x2, y2, z2⟩ := hr0 2 (by omega)
    obtain ⟨x3, y3, z3⟩ := hr0 3 (by omega)
    obtain ⟨x4, y4, z4⟩ := hr0 4 (by omega)
    have hsW : w.heap.size + 2 < W.heap.size := by have := hJ.keep.size; omega
    have hn1 : ∀ b, v1.ownBlock = some b → ¬ b = w.heap.size := fun b hb e => by have := HC.out.r1.lt b hb; omega
    have hn2 : ∀ b, v2.ownBlock = some b → ¬ b = w.heap.size := fun b hb e => by have := HC.out.r2.lt b hb; omega
    have HS1 : Hid (∀ V, Keeps (fun k => k = w.heap.size) W V → Calls Try.prog 19 #[v1] V fun e V' => ∃ au cu, e = .returned (.slice au sends.length cu) ∧ V'.ownsRow V.heap.size 58 2 (.slice au sends.length cu) sends.length (cellsW sends) ∧ Below V.heap.size V V') := Lib.hid fun V hV => cloneS_any V (hCW.r1.keeps hV hn1) H1.out
    have HS2 : Hid (∀ V, Keeps (fun k => k = w.heap.size) W V → Calls Try.prog 19 #[v2] V fun e V' => ∃ au cu, e = .returned (.slice au recvs.length cu) ∧ V'.ownsRow V.heap.size 58 2 (.slice au recvs.length cu) recvs.length (cellsW recvs) ∧ Below V.heap.size V V') := Lib.hid fun V hV => cloneS_any V (hCW.r2.keeps hV hn2) H2.out
    have hrl : rb < w.heap.size := HC.out.ring.lt
    have hslt : sb < w.heap.size := HC.out.lt
    have HSZ : Hid (∀ V, Keeps (fun k => k = w.heap.size) W V → Calls Try.prog 39 #[.pointer (some ⟨rb, 0, none⟩)] V fun e V' => e = .returned (.int .i64 size) ∧ V = V') := Lib.hid fun V hV => lsizeI (hCW.ring.keeps hV (by omega) (by omega))
    have c1 := hCW.c0
    have c2 := hCW.c1
    have c3 := hCW.c2
    have c4 := hCW.c3
    have c5 := hbk.cell
    simp only at c2
    have HF : Hid (∀ V, Keeps (fun k => k = w.heap.size) W V → V.cell? ⟨cb, 0, none⟩ = some (.pointer (some ⟨rb, 0, none⟩)) ∧ V.cell? ⟨cb, 1, none⟩ = some (.bool shut) ∧ V.cell? ⟨cb, 2, none⟩ = some v1 ∧ V.cell? ⟨cb, 3, none⟩ = some v2 ∧ V.cell? ⟨bn, 0, none⟩ = some (.slice ak nums.length ck)) := Lib.hid fun V hV => by
      have hc : ¬ cb = w.heap.size := by omega
      have hb : ¬ bn = w.heap.size := by omega
      exact ⟨hV.cell_of c1 hc, hV.cell_of c2 hc, hV.cell_of c3 hc, hV.cell_of c4 hc, hV.cell_of c5 hb⟩
    have HR : Hid (∀ V, Below W.heap.size W V → (V.cell? ⟨w.heap.size, 0, none⟩ = some x0 ∧ V.cell? ⟨w.heap.size, 1, none⟩ = some x1 ∧ V.cell? ⟨w.heap.size, 2, none⟩ = some x2 ∧ V.cell? ⟨w.heap.size, 3, none⟩ = some x3 ∧ V.cell? ⟨w.heap.size, 4, none⟩ = some x4) ∧
        V.frozen? ⟨w.heap.size, 0, none⟩ = false ∧ V.frozen? ⟨w.heap.size, 1, none⟩ = false ∧ V.frozen? ⟨w.heap.size, 2, none⟩ = false ∧ V.frozen? ⟨w.heap.size, 3, none⟩ = false ∧ V.frozen? ⟨w.heap.size, 4, none⟩ = false) := Lib.hid fun V hV => by
      have h0W : w.heap.size < W.heap.size := by omega
      exact ⟨⟨(hV.cell (p := ⟨w.heap.size, 0, none⟩) h0W).trans y0, (hV.cell (p := ⟨w.heap.size, 1, none⟩) h0W).trans y1, (hV.cell (p := ⟨w.heap.size, 2, none⟩) h0W).trans y2, (hV.cell (p := ⟨w.heap.size, 3, none⟩) h0W).trans y3, (hV.cell (p := ⟨w.heap.size, 4, none⟩) h0W).trans y4⟩,
        (hV.frozen (p := ⟨w.heap.size, 0, none⟩) h0W).trans z0, (hV.frozen (p := ⟨w.heap.size, 1, none⟩) h0W).trans z1, (hV.frozen (p := ⟨w.heap.size, 2, none⟩) h0W).trans z2, (hV.frozen (p := ⟨w.heap.size, 3, none⟩) h0W).trans z3, (hV.frozen (p := ⟨w.heap.size, 4, none⟩) h0W).trans z4⟩
    have HKW := Lib.hid hkW
    have HOK := Lib.hid hok
    clear hJ hCW hkA hr0 hn1 hn2 hkW hok hbk HC HA HJ HK9 HRA c0 hbox9 hcel9
    have hb0 : Below W.heap.size W W := Below.refl _ _
    go_wp2_with fail
    refine wp_region_noPanic ?_
    go_region_held3 (fun V : World => V.cell? ⟨cb, 0, none⟩ = some (.pointer (some ⟨rb, 0, none⟩)) ∧ V.cell? ⟨cb, 1, none⟩ = some (.bool shut) ∧ V.cell? ⟨cb, 2, none⟩ = some v1 ∧ V.cell? ⟨cb, 3, none⟩ = some v2 ∧ V.cell? ⟨bn, 0, none⟩ = some (.slice ak nums.length ck))
      (first | exact HF.out _ (Keeps.of_new (by assumption)) | exact HF.out _ (Keeps.of_new (Below.drew (by assumption))) | exact HF.out _ (set5 (Keeps.of_new (by assumption)) _ _ _ _ _) | exact HF.out _ (set5 (Keeps.of_new (Below.drew (by assumption))) _ _ _ _ _)) ((first
      | (go_at_call 39; refine (HSZ.out _ ?_).mono ?_; (first | exact Keeps.of_new (by assumption) | exact Keeps.of_new (Below.drew (by assumption))); rintro e V ⟨rfl, rfl⟩)
      | (go_at_call 19; refine (HS1.out _ ?_).mono ?_; (first | exact Keeps.of_new (by assumption) | exact Keeps.of_new (Below.drew (by assumption))); rintro e V1 ⟨a1, k1, rfl, hu1, hv1⟩; have hw1 : Below W.heap.size W V1 := (by first | exact bel_step (by assumption) hv1 | exact bel_step' (by assumption) hv1); obtain ⟨⟨p10, p11, p12, p13, p14⟩, f10, f11, f12, f13, f14⟩ := HR.out _ hw1)
      | (go_at_call 19; refine (HS2.out _ ?_).mono ?_; (first | exact Keeps.of_new (by assumption) | exact Keeps.of_new (Below.drew (by assumption))); rintro e V2 ⟨a2, k2, rfl, hu2, hv2⟩; have hw2 : Below W.heap.size W V2 := (by first | exact bel_step (by assumption) hv2 | exact bel_step' (by assumption) hv2); obtain ⟨⟨p20, p21, p22, p23, p24⟩, f20, f21, f22, f23, f24⟩ := HR.out _ hw2)))
    all_goals refine NoPanic.normal ?_
    all_goals (go_wp2_with fail)
    have HU1 := Lib.hid hu1
    have HV1 := Lib.hid hv1
    have HU2 := Lib.hid hu2
    have HV2 := Lib.hid hv2
    have HW2 := Lib.hid hw2
    have hkz := set5 (w := V2) (V := V2) (r := w.heap.size) (Keeps.refl _ _) (.int .i64 size) (.slice ak nums.length ck) (.bool shut) (.slice a1 sends.length k1) (.slice a2 recvs.length k2)
    obtain ⟨g0, g1, g2, g3, g4⟩ := get5 (V := V2) (r := w.heap.size) p20 p21 p22 p23 p24 (.int .i64 size) (.slice ak nums.length ck) (.bool shut) (.slice a1 sends.length k1) (.slice a2 recvs.length k2)
    generalize (((((V2.setCell ⟨w.heap.size, 0, none⟩ (.int .i64 size)).setCell ⟨w.heap.size, 1, none⟩ (.slice ak nums.length ck)).setCell ⟨w.heap.size, 2, none⟩ (.bool shut)).setCell ⟨w.heap.size, 3, none⟩ (.slice a1 sends.length k1)).setCell ⟨w.heap.size, 4, none⟩ (.slice a2 recvs.length k2)) = VZ at *
    have hDW : D < W.heap.size := (Array.getElem?_eq_some_iff.1 hK).1
    have hDr : ¬ D = w.heap.size := by omega
    have hK' : VZ.heap[D]? = some (.deferred (some [])) := by
      rw [hkz.block D (Nat.lt_of_lt_of_le hDW HW2.out.size) hDr, HW2.out.block D hDW]; exact hK
    have hkD : Keeps (fun k => k = D) VZ (VZ.putObj D (.deferred none)) := Keeps.of_grownBy (grownBy_putObj' VZ D _) fun k _ e => by injection e with e; exact e.symm
    have hno : ∀ {B : Nat} {t : TypeId} {n : Nat} {v : Value} {m : Nat} {cs : List Value}, VZ.ownsRow B t n v m cs → (VZ.putObj D (.deferred none)).ownsRow B t n v m cs := fun h => hkD.row h fun b hb e => by
      obtain ⟨o, h1, h2⟩ := rowCells h b hb
      rw [e, hK'] at h1; cases h1; cases h2
    have CK : ∀ {q : Addr} {x : Value}, VZ.cell? q = some x → (VZ.putObj D (.deferred none)).cell? q = some x := fun h => cell_kept h (grownBy_putObj' _ D (.deferred none)) (fun r e => by cases e; exact ⟨_, hK', rfl⟩)
    have e0 := CK g0
    have e1 := CK g1
    have e2 := CK g2
    have e3 := CK g3
    have e4 := CK g4
    have hbel : Below w.heap.size w (VZ.putObj D (.deferred none)) := ((HKW.out.trans' (Keeps.of_new HW2.out) fun i hi e => e).trans' hkz fun i hi e => by omega).trans' hkD (fun i hi e => by omega) |>.below (Nat.le_refl _) fun _ _ e => e.elim
    have hseen : SeenC (VZ.putObj D (.deferred none)) w.heap.size ⟨size, nums, shut, sends, recvs⟩ (.slice ak nums.length ck) (.slice a1 sends.length k1) (.slice a2 recvs.length k2) := by
      have hW2 : W.heap.size ≤ V2.heap.size := HW2.out.size
      have hV1s : W.heap.size ≤ V1.heap.size := HV1.out.size
      have r1 : V2.ownsRow W.heap.size 58 2 (.slice a1 sends.length k1) sends.length (cellsW sends) := (Keeps.of_new (S := fun _ => False) HV2.out).row HU1.out fun _ _ => id
      have r2 : V2.ownsRow W.heap.size 58 2 (.slice a2 recvs.length k2) recvs.length (cellsW recvs) := own_lower HU2.out hV1s
      have r0 : V2.ownsRow w9.heap.size 3 1 (.slice ak nums.length ck) nums.length (nums.map (Value.int .i64)) := (Keeps.of_new (S := fun _ => False) HW2.out).row HOK.out fun _ _ => id
      have off : ∀ {B : Nat} {t : TypeId} {n : Nat} {v : Value} {m : Nat} {cs : List Value}, w.heap.size < B → V2.ownsRow B t n v m cs → (VZ.putObj D (.deferred none)).ownsRow w.heap.size t n v m cs := fun hB h => hno (own_lower (hkz.row h fun b hb e => by have := (World.ownsRow.lt h b hb).1; omega) (by omega))
      exact ⟨off (by omega) r0, off (by omega) r1, off (by omega) r2⟩
    refine ⟨by simp, .inl ⟨_, _, rfl, run_takeDeferred hK', ?_⟩⟩
    exact ⟨.agg #[.int .i64 size, .slice ak nums.length ck, .bool shut, .slice a1 sends.length k1, .slice a2 recvs.length k2], by simp [results, Try.f27, go_sem, e0, e1, e2, e3, e4] <;> rfl, _, _, _, rfl, hseen, hbel⟩
  case stop =>
    rintro D c pre W _ _ h _
    exact h.elim
end Go.Proofs.Ytpehmghnfbkaaaa
