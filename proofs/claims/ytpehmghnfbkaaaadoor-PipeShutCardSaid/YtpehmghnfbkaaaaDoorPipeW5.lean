/-
  The walk of slices.DeleteFunc at a row of those that wait.
-/
import Derived.Test.YtpehmghnfbkaaaaDoorPipeW4
namespace Go.Proofs.YtpehmghnfbkaaaaDoor
open Go.RowKit Go.Maps Pp

theorem run_clearW (w : World) (ty : TypeId) (b o n c : Nat) (hn : 0 < n) (hc : ∀ j, j < n * 2 → (w.cell? ⟨b, o + j, none⟩).isSome = true) (hf : ∀ j, j < n * 2 → w.frozen? ⟨b, o + j, none⟩ = false) :
    (Builtin.clear_ #[77] ty #[.slice (some ⟨b, o, none⟩) n c]).run Tryd.prog w = .ok (.tuple #[]) (w.setCells b o (List.replicate (n * 2) (.int .i64 0))) := by
  have hzc : (Builtin.zeroCells (Value.agg #[.int .i64 0, .int .i64 0]).cells n).toList = List.replicate (n * 2) (.int .i64 0) := by
    simp only [Value.cells, Builtin.zeroCells]
    apply List.ext_getElem
    · simp
    · intro i h1 h2
      simp
      rcases Nat.mod_two_eq_zero_or_one i with e | e <;> simp [e]
  have hst := run_storeCells_cells (P := Tryd.prog) b o (List.replicate (n * 2) (.int .i64 0)) 0 w (by simpa using hc) (by simpa using hf) (by intro v hv'; rw [List.eq_of_mem_replicate hv']; rfl)
  simp only [Nat.add_zero] at hst
  obtain ⟨m, rfl⟩ : ∃ m, n = m + 1 := ⟨n - 1, by omega⟩
  simp [Builtin.clear_, run_underlying Tryd.underlying77, hzc, hst]

theorem set_take_drop {α : Type} {cur r : List α} {m k : Nat} {x : α} (hx : r[k]? = some x) (hm : m < k) (hd : cur.drop k = r.drop k) (hl : cur.length = r.length) : (cur.set m x).take (m + 1) = cur.take m ++ [x] ∧ (cur.set m x).drop (k + 1) = r.drop (k + 1) := by
  have hk := (List.getElem?_eq_some_iff.1 hx).1
  constructor
  · rw [List.take_succ_eq_append_getElem (by rw [List.length_set]; omega), List.getElem_set_self]
    congr 1
    rw [List.take_set, List.set_eq_of_length_le (by rw [List.length_take]; omega)]
  · rw [List.drop_set]
    rw [if_pos (by omega)]
    have := congrArg (List.drop 1) hd
    rw [List.drop_drop, List.drop_drop] at this
    rw [this]
theorem getD_of_drop {α : Type} {cur r : List α} {k : Nat} {x : α} (hx : r[k]? = some x) (hd : cur.drop k = r.drop k) : cur[k]? = some x := by
  have h1 : (cur.drop k)[0]? = (r.drop k)[0]? := by rw [hd]
  rw [List.getElem?_drop, List.getElem?_drop, Nat.add_zero] at h1
  rw [h1]; exact hx
/-- So far: the first m of the row are those of the first k that are left. -/
structure DelJ (w wr : World) (g n cap : Nat) (r cur : List (Int × Nat)) (task : Int) (m k : Nat) : Prop where
  row : RowW wr (.slice (some ⟨g, 0, none⟩) n cap) cur
  len : cur.length = r.length
  fst : cur.take m = off task (r.take k)
  rest : cur.drop k = r.drop k
  lt : m < k
  le : k ≤ n
  keep : Keeps (fun b => b = g) w wr

set_option maxRecDepth 100000 in
set_option maxHeartbeats 6400000 in
theorem deleteW_any (w : World) (v : Value) (r : List (Int × Nat)) (h : RowW w v r) (hl : r.length ≤ 1000000) (task : Int) (bx : Nat) (hb : w.cell? ⟨bx, 0, none⟩ = some (.int .i64 task)) (hne : ∀ b, v.ownBlock = some b → b ≠ bx) :
    Calls Tryd.prog 51 #[v, delF bx] w fun e w' => ∃ v', e = .returned v' ∧ RowW w' v' (off task r) ∧ (∀ b, v'.ownBlock = some b → v.ownBlock = some b) ∧ Keeps (fun b => v.ownBlock = some b) w w' := by
  obtain ⟨ao, cap, rfl, hcap, hmax⟩ := h.slice
  unfold maxLen at hmax
  have HH := Lib.hid h
  have HB := Lib.hid hb
  have HNE := Lib.hid hne
  have HI := Lib.hid (indexW_any w _ r h task bx hb)
  obtain ⟨n, hn⟩ : ∃ n, n = r.length := ⟨_, rfl⟩
  rw [← hn] at hcap HH HI HNE hl ⊢
  have HN := Lib.hid hn
  clear h hb hne hn
  go_enter Tryd.func51, Tryd.ntmps51
  go_wp2_with fail
  refine HI.out.mono ?_
  rintro e w1 ⟨x, rfl, hx, hb1⟩
  have H1 := Lib.hid (HH.out.keeps (Keeps.of_new hb1) (S := fun _ => False) (fun _ _ e => e))
  have HB1 := Lib.hid hb1
  rcases hx with ⟨rfl, hno⟩ | ⟨k0, rfl, x0, hx0, ht0, hno⟩
  · have HO : Hid (off task r = r) := Lib.hid (off_none hno)
    clear hno hb1
    go_wp2_with fail
    go_ret
    exact ⟨_, rfl, by rw [HO.out]; have := H1.out; exact this, fun _ e => e, Keeps.of_new HB1.out⟩
  · have hk0 : k0 < n := by rw [HN.out]; exact (List.getElem?_eq_some_iff.1 hx0).1
    obtain ⟨g, rfl, -, -, -, hg, hfz⟩ := HH.out.addr (by have := HN.out; omega)
    have HJ0 : Hid (DelJ w w1 g n cap r r task k0 (k0 + 1)) := Lib.hid ⟨H1.out, rfl, by rw [off_take_succ hx0, if_pos ht0, off_none hno], rfl, Nat.lt_succ_self _, hk0, Keeps.of_new HB1.out⟩
    have HBX : Hid (g ≠ bx) := Lib.hid (HNE.out g rfl)
    have HG := Lib.hid hg
    have HFZ := Lib.hid hfz
    have e1 : ¬ ((k0 : Int) = -1) := by omega
    have e2 : ((k0 : Int) == -1) = false := by rw [beq_eq_false_iff_ne]; exact e1
    clear hno hb1 hx0 ht0 hg hfz
    go_wp2_with fail
    go_loopw [5, 6] (fun i j wr => ∃ (m k : Nat) (cur : List (Int × Nat)), i = .int .i64 m ∧ j = .int .i64 k ∧ DelJ w wr g n cap r cur task m k) (fun _ j _ => n - (intOf j).toNat)
    case atStart => exact ⟨k0, k0 + 1, r, rfl, by go_num, HJ0.out⟩
    case round =>
      obtain ⟨m, k, cur, rfl, rfl, hJ⟩ := hrel
      have HJ := Lib.hid hJ
      have hmk := hJ.lt
      have hkn' := hJ.le
      have hcl : cur.length = n := by rw [hJ.len, HN.out]
      have HCL := Lib.hid hcl
      have hlt : g < wr.heap.size := Nat.lt_of_lt_of_le HG.out hJ.keep.size
      have hfz : ∀ j, wr.frozen? ⟨g, j, none⟩ = false := by
        obtain ⟨g', q, -, -, -, -, h2⟩ := hJ.row.addr (by rw [hcl]; omega)
        cases q; exact h2
      have HFR := Lib.hid hfz
      clear HJ0 hJ hcl hfz
      by_cases hkn : k < n
      · obtain ⟨x, hx⟩ : ∃ x, r[k]? = some x := ⟨_, List.getElem?_eq_getElem (by have := HN.out; omega)⟩
        have HX := Lib.hid hx
        have hxc := getD_of_drop hx HJ.out.rest
        obtain ⟨hc1, hc2⟩ := HJ.out.row.cell hxc
        obtain ⟨x1, x2⟩ := x
        simp only at hc1 hc2
        have HB2 : Hid ((wr.alloc (.cells #[.int .i64 x1, .int .i64 (x2 : Int)] 90)).cell? ⟨bx, 0, none⟩ = some (.int .i64 task)) := Lib.hid (by
          have h1 : wr.cell? ⟨bx, 0, none⟩ = some (.int .i64 task) := HJ.out.keep.cell_of HB.out (fun e => HBX.out e.symm)
          rw [World.cell?_alloc_past _ _ _ (block_lt_of_cell h1)]; exact h1)
        have hki : (0 : Int) ≤ (k : Int) ∧ (k : Int) < (n : Int) := by omega
        have hmi : (0 : Int) ≤ (m : Int) ∧ (m : Int) < (n : Int) := by omega
        have HD := Lib.hid (del_any x1 (x2 : Nat) task bx _ HB2.out)
        clear hxc hx
        by_cases ht : x1 = task
        · have hd : decide (x1 = task) = true := by rw [decide_eq_true_eq]; exact ht
          have HT := Lib.hid ht
          rw [hd] at HD
          clear ht hd
          go_wp2_with fail
          refine HD.out.mono ?_
          rintro e w2 ⟨rfl, hb2⟩
          have HJ2 : Hid (DelJ w w2 g n cap r cur task m (k + 1)) := Lib.hid (by
            have hk2 : Keeps (fun _ => False) wr w2 := ((Keeps.refl (fun _ => False) wr).alloc _).trans (Keeps.of_new hb2)
            refine ⟨HJ.out.row.keeps hk2 (fun _ _ e => e), HJ.out.len, ?_, ?_, by omega, by omega, HJ.out.keep.trans (hk2.mono fun _ _ e => e.elim)⟩
            · rw [off_take_succ HX.out, if_pos HT.out]; exact HJ.out.fst
            · have := congrArg (List.drop 1) HJ.out.rest
              rw [List.drop_drop, List.drop_drop] at this
              exact this)
          clear hb2 hc1 hc2
          go_wp2_with fail
          go_roundw
          case rel => exact ⟨m, k + 1, cur, rfl, by go_num, HJ2.out⟩
          case measure => simp [intOf]; omega
        · have hd : decide (x1 = task) = false := by rw [decide_eq_false_iff_not]; exact ht
          have HT := Lib.hid ht
          rw [hd] at HD
          clear ht hd
          go_wp2_with fail
          refine HD.out.mono ?_
          rintro e w2 ⟨rfl, hb2⟩
          have hk2 : Keeps (fun _ => False) wr w2 := ((Keeps.refl (fun _ => False) wr).alloc _).trans (Keeps.of_new hb2)
          have HR2 := Lib.hid (HJ.out.row.keeps hk2 (fun _ _ e => e))
          have HK2 := Lib.hid hk2
          have b1 : w2.cell? ⟨wr.heap.size, 0, none⟩ = some (.int .i64 x1) := by rw [hb2.cell (p := ⟨wr.heap.size, 0, none⟩) (by simp), World.cell?_alloc_at _ _ _ _ rfl]; rfl
          have b2 : w2.cell? ⟨wr.heap.size, 1, none⟩ = some (.int .i64 (x2 : Int)) := by rw [hb2.cell (p := ⟨wr.heap.size, 1, none⟩) (by simp), World.cell?_alloc_at _ _ _ _ rfl]; rfl
          obtain ⟨y, hy⟩ : ∃ y, cur[m]? = some y := ⟨_, List.getElem?_eq_getElem (by have := HCL.out; omega)⟩
          obtain ⟨m1, m2⟩ := HR2.out.cell hy
          have hfz : ∀ j, w2.frozen? ⟨g, j, none⟩ = false := fun j => by rw [hk2.frozen (p := ⟨g, j, none⟩) hlt id]; exact HFR.out j
          have z1 := hfz (m * 2)
          have z2 := hfz (m * 2 + 1)
          have HJ2 : Hid (DelJ w ((w2.setCell ⟨g, m * 2, none⟩ (.int .i64 x1)).setCell ⟨g, m * 2 + 1, none⟩ (.int .i64 (x2 : Int))) g n cap r (cur.set m (x1, x2)) task (m + 1) (k + 1)) := Lib.hid (by
            obtain ⟨t1, t2⟩ := set_take_drop HX.out HJ.out.lt HJ.out.rest HJ.out.len
            refine ⟨HR2.out.set HCL.out.symm (by have := HCL.out; omega) (x1, x2), by rw [List.length_set]; exact HJ.out.len, ?_, t2, by omega, by omega, ?_⟩
            · rw [off_take_succ HX.out, if_neg HT.out, t1, HJ.out.fst]
            · exact HJ.out.keep.trans (((HK2.out.mono (S' := fun b => b = g) fun _ _ e => e.elim).setCell (p := ⟨g, m * 2, none⟩) (Or.inl rfl) _).setCell (p := ⟨g, m * 2 + 1, none⟩) (Or.inl rfl) _))
          clear hb2 hc1 hc2 hk2 hy hfz
          go_wp2_with fail
          go_roundw
          case rel => exact ⟨m + 1, k + 1, _, by go_num, by go_num, HJ2.out⟩
          case measure => simp [intOf]; omega
      · obtain rfl : k = n := by omega
        have hmn : m < k := hmk
        have hki : ¬ (k : Int) < (k : Int) := by omega
        have hcl := fun ty => run_clearW wr ty g (m * 2) (k - m) (cap - m) (by omega) (fun j hj => by
          have hq := HJ.out.row
          obtain ⟨y, hy⟩ : ∃ y, (cellsW cur)[m * 2 + j]? = some y := ⟨_, List.getElem?_eq_getElem (by rw [cellsW_len, HCL.out]; omega)⟩
          have := World.ownsRow.cells hq (g := g) rfl _ _ hy
          have ha : (⟨g, 0, none⟩ : Addr).add (m * 2 + j) = ⟨g, m * 2 + j, none⟩ := by unfold Addr.add; split <;> simp_all
          rw [ha] at this
          rw [this]; rfl) (fun j _ => HFR.out _)
        go_wp2_with fail
        go_ret
        have hcutR : RowW wr (.slice (some ⟨g, 0, none⟩) m cap) (off task r) := by
          have h1 := HJ.out.row.cut (i := m) HCL.out.symm (by have := HCL.out; omega)
          rw [HJ.out.fst] at h1
          rw [HN.out, List.take_length] at h1
          exact h1
        have hlen : (cellsW (off task r)).length ≤ m * 2 := by
          rw [cellsW_len]
          have h2 : (off task r).length = m := by
            have h3 := congrArg List.length HJ.out.fst
            rw [List.length_take, HCL.out, Nat.min_eq_left (by omega)] at h3
            rw [h3]
            have h4 : r.take k = r := by rw [HN.out, List.take_length]
            rw [h4]
          omega
        have hnl : (off task r).length = m := by
          obtain ⟨_, _, q, _⟩ := hcutR.slice
          injection q with _ q _
          exact q.symm
        refine ⟨_, rfl, ?_, fun b e => e, (HJ.out.keep.mono fun b _ e => by rw [e]; rfl).trans ((keeps_setCellsG g _ _ _).mono fun b _ e => by rw [e]; rfl)⟩
        unfold RowW at hcutR ⊢
        rw [hnl] at hcutR ⊢
        exact own_setCells _ _ hcutR hlen
end Go.Proofs.YtpehmghnfbkaaaaDoor
