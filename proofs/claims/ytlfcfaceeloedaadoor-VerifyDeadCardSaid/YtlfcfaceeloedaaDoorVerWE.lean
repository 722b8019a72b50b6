/-
  The walk of package verify's Shapes (the walk).
-/
import Derived.Test.YtlfcfaceeloedaaDoorVerWD
namespace Go.Proofs.YtlfcfaceeloedaaDoor
open Go.RowKit Go.Shelf Cd Ve

structure LookOk (p : Pg) (l : List (List Sd)) : Prop where
  right : PgR p
  head : headB p = true
  fns : fnsS p 0 p.fns = .ok l
theorem look_ok {p : Pg} {l : List (List Sd)} (h : lookA p = .ok l) : LookOk p l := by
  unfold lookA at h
  split at h
  · cases h
  · rename_i h1
    have h1' : progE p = 0 := by
      apply Decidable.byContradiction
      exact h1
    split at h
    · rename_i h2
      split at h
      · cases h
      · rename_i l' h3
        cases h
        exact ⟨(progE_iff p).1 h1', h2, h3⟩
    · cases h
theorem LookOk.bounds {p : Pg} {l : List (List Sd)} (h : LookOk p l) : l.length = p.fns.length ∧ ∀ (j : Nat) (f : FnV), p.fns[j]? = some f → (fnS p f).wrong = 0 ∧ l[j]? = some (fnS p f).ahead ∧ FnB f (fnS p f).ahead := by
  obtain ⟨h1, h2⟩ := fns_ok h.fns
  exact ⟨h1, fun j f hf => ⟨(h2 j f hf).1, (h2 j f hf).2, fn_bounds (pgR_k h.right) (fnR_k (h.right.each f (List.mem_of_getElem? hf))) (h2 j f hf).1⟩⟩
theorem LookOk.short {p : Pg} {l : List (List Sd)} (h : LookOk p l) : ∀ s ∈ l, s.length ≤ 9000 ∧ ∀ d ∈ s, (d.getD []).length ≤ 256 := by
  intro s hs
  obtain ⟨j, hj, rfl⟩ := List.mem_iff_getElem.1 hs
  obtain ⟨h1, h2⟩ := h.bounds
  have hj2 : j < p.fns.length := by omega
  obtain ⟨_, h4, h5⟩ := h2 j _ (List.getElem?_eq_getElem hj2)
  rw [List.getElem?_eq_getElem hj] at h4
  injection h4 with h4
  rw [h4]
  refine ⟨by rw [h5.len]; exact (h.right.each _ (List.getElem_mem hj2)).code, fun d hd => ?_⟩
  obtain ⟨i, hi, rfl⟩ := List.mem_iff_getElem.1 hd
  cases e : (fnS p p.fns[j]).ahead[i] with
  | none => exact Nat.zero_le _
  | some u =>
    exact (h5.kok i u (by rw [List.getD_eq_getElem?_getD, List.getElem?_eq_getElem hi, e]; rfl)).1
theorem look_err {p : Pg} {m : Nat} (ha : lookA p = .err m) : m ≠ 0 := by
  intro e
  subst e
  unfold lookA at ha
  split at ha
  · rename_i h1; exact h1 (LookA.err.inj ha)
  · split at ha
    · split at ha <;> cases ha
    · cases LookA.err.inj ha
/-- What Shapes answers. -/
def ShapesSays (w : World) (e : Ending) (w' : World) : LookA → Prop
  | .err n => e = .returned (.tuple #[.slice none 0 0, errV n])
  | .at_ n place => ∃ b, e = .returned (.tuple #[.slice none 0 0, .iface 103 (.pointer (some ⟨b, 0, none⟩))]) ∧ w.heap.size ≤ b ∧ b < w'.heap.size ∧ w'.cell? ⟨b, 0, none⟩ = some (.int .i64 n) ∧ w'.cell? ⟨b, 1, none⟩ = some (.int .i64 place)
  | .ok l => ∃ v, e = .returned (.tuple #[v, .nilIface]) ∧ TellsAt w' v (l.map shOf)
/-- What is told so far. -/
structure TolJ (W2 wr : World) (tb n k : Nat) (l : List (List Sd)) (vs : List Value) : Prop where
  len : vs.length = k
  blk : BlkO wr tb (vs ++ List.replicate (n - k) (.slice none 0 0))
  each : ∀ (j : Nat) (v : Value), vs[j]? = some v → ∃ s, l[j]? = some s ∧ ShpsAt (fun b => b = tb) wr v (shOf s)
  keep : Keeps (fun b => b = tb) W2 wr

/-- One function's shapes, as far as they are told. -/
structure InJ (wk wr : World) (tb n k : Nat) (sds : List Sd) (vs : List Value) (vk : Value) (row : List Rw) (i : Nat) : Prop where
  blk : BlkO wr tb (vs ++ vk :: List.replicate (n - (k + 1)) (.slice none 0 0))
  rj : RowJ wk.heap.size wr vk row
  tell : row.map (fun r => (r.1, r.2.2)) = (shOf sds).take i
  keep : Keeps (fun b => b = tb) wk wr
  len : vs.length = k
  tbl : tb < wk.heap.size
theorem InJ.count {wk wr : World} {tb n k i : Nat} {sds : List Sd} {vs : List Value} {vk : Value} {row : List Rw} (h : InJ wk wr tb n k sds vs vk row i) (hi : i ≤ sds.length) : row.length = i := by
  have := congrArg List.length h.tell
  rw [List.length_map, List.length_take] at this
  unfold shOf at this
  rw [List.length_map] at this
  omega
theorem InJ.cell {wk wr : World} {tb n k i : Nat} {sds : List Sd} {vs : List Value} {vk : Value} {row : List Rw} (h : InJ wk wr tb n k sds vs vk row i) : wr.cell? ⟨tb, k, none⟩ = some vk :=
  h.blk.at_ k _ (by rw [List.getElem?_append_right (by rw [h.len]; exact Nat.le_refl _), h.len, Nat.sub_self]; rfl)
theorem InJ.off {wk wr : World} {tb n k i : Nat} {sds : List Sd} {vs : List Value} {vk : Value} {row : List Rw} (h : InJ wk wr tb n k sds vs vk row i) : ∀ c, vk.ownBlock = some c → wk.heap.size ≤ c ∧ c < wr.heap.size := fun c hc => World.ownsRow.lt h.rj.own c hc
theorem InJ.fresh {wk wr w' : World} {tb n k i : Nat} {sds : List Sd} {vs : List Value} {vk : Value} {row : List Rw} (h : InJ wk wr tb n k sds vs vk row i) (hk : Keeps (fun _ => False) wr w') : InJ wk w' tb n k sds vs vk row i :=
  ⟨h.blk.keeps hk id, ⟨hk.row h.rj.own fun _ _ => id, fun r hr => ⟨(h.rj.each r hr).1.keeps hk fun _ _ => id, (h.rj.each r hr).2⟩⟩, h.tell, h.keep.trans (hk.mono fun _ _ e => e.elim), h.len, h.tbl⟩
theorem InJ.step {wk wr w3 w3' w4 : World} {tb n k i : Nat} {sds : List Sd} {vs : List Value} {vk vk' kv : Value} {row : List Rw} (h : InJ wk wr tb n k sds vs vk row i) {d : Sd} (hd : sds[i]? = some d)
    (hb3 : Keeps (fun _ => False) wr w3) (hok : OwnI w3 wr.heap.size kv (kindsI (d.getD []))) (hk3 : Keeps (fun _ => False) w3 w3')
    (ho4 : w4.ownsRow wk.heap.size 49 2 vk' (row.length + 1) (row.flatMap rwC ++ [.bool d.isSome, kv])) (hk4 : Keeps (fun b => vk.ownBlock = some b) w3' w4) (hn4 : ∀ c, vk'.ownBlock = some c → vk.ownBlock = some c ∨ w3'.heap.size ≤ c) :
    InJ wk (w4.setCell ⟨tb, k, none⟩ vk') tb n k sds vs vk' (row ++ [(d.isSome, kv, kindsI (d.getD []))]) (i + 1) := by
  have hka := (h.fresh hb3).fresh hk3
  have hks := own_set w4 tb k vk'
  have htv : ¬ vk.ownBlock = some tb := fun e => by have := (h.off tb e).1; have := h.tbl; omega
  have htv' : ∀ c, vk'.ownBlock = some c → c ≠ tb := fun c hc e => by
    have := (World.ownsRow.lt ho4 c hc).1
    have := h.tbl
    omega
  have hall : Keeps (fun b => b = tb ∨ vk.ownBlock = some b) w3' (w4.setCell ⟨tb, k, none⟩ vk') := (hk4.mono fun b _ e => Or.inr e).trans (hks.mono fun b _ e => Or.inl e)
  have hkvlt : ∀ c, kv.ownBlock = some c → wr.heap.size ≤ c ∧ c < w3.heap.size := fun c hc => World.ownsRow.lt hok c hc
  refine ⟨?_, ⟨?_, fun r hr => ?_⟩, ?_, ?_, h.len, h.tbl⟩
  · have h1 := (hka.blk.keeps hk4 htv).set k vk' (by rw [List.length_append, h.len, List.length_cons]; omega)
    rw [List.set_append_right _ _ (by rw [h.len]; exact Nat.le_refl _), h.len, Nat.sub_self] at h1
    exact h1
  · rw [List.length_append, List.flatMap_append]
    exact hks.row ho4 htv'
  · rcases List.mem_append.1 hr with hr | hr
    · obtain ⟨r1, r2⟩ := hka.rj.each r hr
      refine ⟨r1.keeps hall fun c hc e => ?_, fun c hc e => ?_⟩
      · rcases e with e | e
        · have h1 := r1.le c hc; have h2 := h.tbl; omega
        · exact r2 c hc e
      · rcases hn4 c e with e | e
        · exact r2 c hc e
        · have := (World.ownsRow.lt r1 c hc).2; omega
    · rw [List.mem_singleton.1 hr]
      dsimp only
      refine ⟨?_, fun c hc e => ?_⟩
      · refine own_mono ((hok.keeps hk3 fun _ _ => id).keeps hall fun c hc e => ?_) h.keep.size
        have h1 := (hkvlt c hc).1
        rcases e with e | e
        · have h2 := h.tbl; have h3 := h.keep.size; omega
        · have h2 := (h.off c e).2; omega
      · rcases hn4 c e with e | e
        · have h1 := (hkvlt c hc).1
          have h2 := (h.off c e).2
          omega
        · have h1 := (hkvlt c hc).2
          have h2 := hk3.size
          omega
  · have hd2 : (shOf sds)[i]? = some (d.isSome, kindsI (d.getD [])) := by unfold shOf; rw [List.getElem?_map, hd]; rfl
    obtain ⟨e1, e2⟩ := List.getElem?_eq_some_iff.1 hd2
    rw [List.map_append, h.tell, List.take_succ_eq_append_getElem e1, e2]
    rfl
  · exact (hka.keep.trans' hk4 fun c hc e => by have := (h.off c e).1; omega).trans hks

set_option maxRecDepth 100000 in
set_option maxHeartbeats 12800000 in
theorem shapes_any (p : Pg) (v : Value) (w : World) (hp : ProgAt w v p) : Calls Tryd.prog 15 #[v] w fun e w' => ShapesSays w e w' (lookA p) ∧ Below w.heap.size w w' := by
  have HP := Lib.hid hp
  obtain ⟨vf, rfl, ao, n0, cap, rfl, -⟩ := hp
  have hb0 := (Below.refl w.heap.size w).alloc (Nat.le_refl _) (.cells #[.int .i64 p.globals, .slice ao n0 cap] 24)
  have HB0 := Lib.hid hb0
  have HL := Lib.hid (look_any p _ _ (HP.out.below hb0))
  clear hb0
  go_enter Tryd.func15, Tryd.ntmps15
  go_wp2_with fail
  refine HL.out.mono ?_
  rintro e w1 ⟨hs, hb1⟩
  have HB1 := Lib.hid (HB0.out.trans (hb1.mono HB0.out.size))
  have HSZ : Hid (w.heap.size ≤ (w.alloc (.cells #[.int .i64 p.globals, .slice ao n0 cap] 24)).heap.size) := Lib.hid HB0.out.size
  clear hb1 HL
  cases ha : lookA p with
  | err m =>
    rw [ha] at hs
    subst hs
    have hm : m ≠ 0 := look_err ha
    have HA := Lib.hid ha
    have HM := Lib.hid hm
    rw [errV_nz hm]
    clear ha hm
    go_wp2_with fail
    go_ret2
    refine ⟨?_, HB1.out⟩
    rw [HA.out]
    show _ = _
    rw [errV_nz HM.out]
    rfl
  | at_ m place =>
    rw [ha] at hs
    obtain ⟨b, rfl, h1, h2, h3, h4⟩ := hs
    have HX : Hid (w.heap.size ≤ b ∧ b < w1.heap.size ∧ w1.cell? ⟨b, 0, none⟩ = some (.int .i64 m) ∧ w1.cell? ⟨b, 1, none⟩ = some (.int .i64 place)) := Lib.hid ⟨Nat.le_trans HSZ.out h1, h2, h3, h4⟩
    have HA := Lib.hid ha
    clear ha h1 h2 h3 h4
    go_wp2_with fail
    go_ret2
    refine ⟨?_, HB1.out⟩
    rw [HA.out]
    exact ⟨b, rfl, HX.out⟩
  | ok l =>
    rw [ha] at hs
    obtain ⟨v, gs, rfl, hst, hgl⟩ := hs
    obtain ⟨a5, c5, rfl⟩ := slice_of_own hst.row
    have HA := Lib.hid ha
    have HO := Lib.hid (look_ok ha)
    have HST := Lib.hid hst
    have HGL := Lib.hid hgl
    obtain ⟨n, hn⟩ : ∃ n, n = gs.length := ⟨_, rfl⟩
    have hln : l.length = n := by rw [← hgl, List.length_map, hn]
    have hn12 : n ≤ 12 := by
      have h1 := HO.out.bounds.1
      have h2 := HO.out.right.fns
      omega
    rw [← hn]
    have HN : Hid (n = gs.length ∧ l.length = n) := Lib.hid ⟨hn, hln⟩
    obtain ⟨cs, hcs, hmk⟩ := make_shapes n (by omega)
    have HCS := Lib.hid hcs
    clear ha hst hgl hn hln hcs
    have HB2 : Hid (Keeps (fun _ => False) w1 (w1.alloc (.cells cs 43))) := Lib.hid ((Keeps.refl _ w1).alloc _)
    have HT2 : Hid (BlkO (w1.alloc (.cells cs 43)) w1.heap.size (List.replicate n (.slice none 0 0))) := Lib.hid (by have := BlkO.new w1 cs 43; rwa [HCS.out] at this)
    go_upto_region 5 with fail
    obtain ⟨tb, htb⟩ : ∃ tb, tb = w1.heap.size := ⟨_, rfl⟩
    rw [← htb] at HT2 ⊢
    generalize w1.alloc (.cells cs 43) = W2 at *
    have HTB : Hid (tb = w1.heap.size ∧ tb < W2.heap.size) := Lib.hid ⟨htb, HT2.out.lt⟩
    clear htb hmk
    go_wp2_with fail
    go_loopw [24] (fun iv wr => ∃ (k : Nat) (vs : List Value), k ≤ n ∧ iv = .int .i64 k ∧ Hid (TolJ W2 wr tb n k l vs)) (fun iv _ => n - (intOf iv).toNat)
    case atStart => exact ⟨0, [], Nat.zero_le _, rfl, Lib.hid ⟨rfl, HT2.out, fun j v h => by simp at h, Keeps.refl _ _⟩⟩
    case round =>
      obtain ⟨k, vs, hk, rfl, HJ⟩ := hrel
      rename World => wk
      by_cases hkn : k < n
      · obtain ⟨g, hg⟩ : ∃ g, gs[k]? = some g := ⟨_, List.getElem?_eq_getElem (by rw [← HN.out.1]; exact hkn)⟩
        have hki : (0 : Int) ≤ (k : Int) ∧ (k : Int) < (n : Int) := by omega
        have hki1 : (k : Int) < (n : Int) := by omega
        have hstk : StO w1 wk (.slice a5 n c5) gs ∨ True := Or.inr trivial
        have hk2 : Keeps (fun b => b = tb) w1 wk := (HB2.out.mono fun _ _ e => e.elim).trans HJ.out.keep
        have hk1 : Keeps (fun _ => False) w1 wk := (Keeps.refl _ w1).trans' hk2 fun i hi e => by have := HTB.out.1; omega
        obtain ⟨ao1, e1, g2, g3⟩ : ∃ b, a5 = some ⟨b, 0, none⟩ ∧ wk.cell? ⟨b, k, none⟩ = some (.slice (some ⟨g.1, 0, none⟩) g.2.length g.2.length) ∧ BlkO wk g.1 (sdsC g.2) := by
          have ho := HST.out.row
          rcases ho.2 with ⟨e, h0⟩ | ⟨b, cap', cur, e, h3, h4, h5, h6, h7, h8⟩
          · have : gs = [] := List.eq_nil_of_length_eq_zero h0
            rw [this] at hg
            simp at hg
          · rw [Value.slice.injEq] at e
            obtain ⟨rfl, _, _⟩ := e
            refine ⟨b, rfl, ?_, (HST.out.each g (List.mem_of_getElem? hg)).1.keeps hk1 id⟩
            have := World.ownsRow.cells ho (g := b) rfl k (.slice (some ⟨g.1, 0, none⟩) g.2.length g.2.length) (by unfold gsV; rw [List.getElem?_map, hg]; rfl)
            rw [addr_add] at this
            exact hk1.cell_of this id
        subst e1
        have hlk : l[k]? = some g.2 := by rw [← HGL.out, List.getElem?_map, hg]; rfl
        have HSH := Lib.hid (HO.out.short g.2 (List.mem_of_getElem? hlk))
        have HLK := Lib.hid hlk
        have HG3 := Lib.hid g3
        obtain ⟨ab, sds⟩ := g
        dsimp only at g2 g3 HSH HLK HG3
        obtain ⟨m, hm⟩ : ∃ m, m = sds.length := ⟨_, rfl⟩
        have hm9 : m ≤ 9000 := by have := HSH.out.1; omega
        have HM := Lib.hid hm
        rw [← hm] at g2
        have habt : ab ≠ tb := fun e => by
          have h1 := (HST.out.each (ab, sds) (List.mem_of_getElem? hg)).1.lt
          have h2 := HTB.out.1
          dsimp only at h1
          omega
        clear hg hstk hk2 hk1 hlk g3 hm
        have hres : TolJ W2 wk tb n k l vs := HJ.out
        have HTK : Hid (tb < wk.heap.size) := Lib.hid hres.blk.lt
        have HI0 : Hid (InJ wk wk tb n k sds vs (.slice none 0 0) [] 0) := Lib.hid ⟨by
          have := hres.blk
          rwa [show n - k = (n - (k + 1)) + 1 by omega, List.replicate_succ] at this, rowJ_nil _ _, rfl, Keeps.refl _ _, hres.len, hres.blk.lt⟩
        have HAB : Hid (ab ≠ tb) := Lib.hid habt
        clear hres habt
        go_wp2_with fail
        go_loopw [31] (fun iv wr => ∃ (i : Nat) (vk : Value) (row : List Rw), i ≤ m ∧ iv = .int .i64 i ∧ Hid (InJ wk wr tb n k sds vs vk row i)) (fun iv _ => m - (intOf iv).toNat)
        case atStart => exact ⟨0, _, _, Nat.zero_le _, rfl, HI0⟩
        case round =>
          obtain ⟨i, vk, row, hi, rfl, HI⟩ := hrel
          rename World => wr
          by_cases him : i < m
          · have hil : i < sds.length := by rw [← HM.out]; exact him
            obtain ⟨d, hd⟩ : ∃ d, sds[i]? = some d := ⟨_, List.getElem?_eq_getElem hil⟩
            have HD := Lib.hid hd
            have hg := sdsC_get sds i d hd
            have hab := (HG3.out.keeps HI.out.keep HAB.out)
            have a0 := hab.at_ _ _ hg.1
            have a1 := hab.at_ _ _ hg.2
            obtain ⟨L, hL⟩ : ∃ L, L = d.isSome := ⟨_, rfl⟩
            obtain ⟨u, hu⟩ : ∃ u, u = d.getD [] := ⟨_, rfl⟩
            rw [← hL] at a0
            rw [← hu] at a1
            have HLU : Hid (L = d.isSome ∧ u = d.getD [] ∧ u.length ≤ 256) := Lib.hid ⟨hL, hu, by rw [hu]; exact HSH.out.2 d (List.mem_of_getElem? hd)⟩
            have hii : (0 : Int) ≤ (i : Int) ∧ (i : Int) < (m : Int) := by omega
            have hii1 : (i : Int) < (m : Int) := by omega
            have hcnt := HI.out.count (Nat.le_of_lt hil)
            obtain ⟨av, cv, hvk⟩ := slice_of_own HI.out.rj.own
            subst hvk
            rw [hcnt] at HI
            have HCN := Lib.hid hcnt
            have hbs := BlkO.new wr #[.bool L, .string (tx u)] 82
            obtain ⟨W10, hW10⟩ : ∃ W10, W10 = wr.alloc (.cells #[.bool L, .string (tx u)] 82) := ⟨_, rfl⟩
            have hk10 : Keeps (fun _ => False) wr W10 := by rw [hW10]; exact (Keeps.refl _ _).alloc _
            rw [← hW10] at hbs
            obtain ⟨sb, hsb⟩ : ∃ sb, sb = wr.heap.size := ⟨_, rfl⟩
            rw [← hsb] at hbs
            have HSBW : Hid (∀ c, (Value.slice av i cv).ownBlock = some c → c < sb) := Lib.hid fun c hc => by rw [hsb]; exact (HI.out.off c hc).2
            have HBS : Hid (BlkO W10.drew sb [.bool L, .string (tx u)]) := Lib.hid (hbs.keeps (Keeps.refl (fun _ : Nat => False) _).drew id)
            have HK10 : Hid (Keeps (fun _ => False) wr W10.drew) := Lib.hid hk10.drew
            have HI10 : Hid (InJ wk W10.drew tb n k sds vs (.slice av i cv) row i) := Lib.hid (HI.out.fresh hk10.drew)
            have him6 : i ≤ 1000000 := by omega
            clear hd hg hab hL hu hcnt hil hk10 hbs HI
            go_upto_region 11 with fail
            rw [← hW10, ← hsb]
            clear hW10 hsb a0 a1
            refine wp_region_late (S := (fun W : World => W.cell? ⟨tb, k, none⟩ = some (.slice av i cv) ∧ W.cell? ⟨sb, 0, none⟩ = some (.bool L) ∧ W.cell? ⟨sb, 1, none⟩ = some (.string (tx u)))) (T := [11]) (by kernel_rfl) ?_
            have hHeld : (fun W : World => W.cell? ⟨tb, k, none⟩ = some (.slice av i cv) ∧ W.cell? ⟨sb, 0, none⟩ = some (.bool L) ∧ W.cell? ⟨sb, 1, none⟩ = some (.string (tx u))) W10.drew := ⟨HI10.out.cell, HBS.out.at_ 0 _ rfl, HBS.out.at_ 1 _ rfl⟩
            generalize hW0 : W10.drew = W0 at *
            clear hW0
            refine late_take0 (i := 0) (oi := { dst := some 35, op := _, type := _, pos := _, after := _, guard := _ }) (v := .slice (some ⟨tb, 0, none⟩) n n) rfl (by kernel_rfl) (by kernel_rfl) (by kernel_rfl) (fun _ _ _ h => h) (Or.inl ⟨by rfl, ?_⟩) ?_
            · intro W9 hSW
              (try dsimp only at hSW)
              go_simp
            try simp only [Act.put, List.setIfInBounds_toArray, List.set_cons_zero, List.set_cons_succ]
            refine late_take0 (i := 1) (oi := { dst := some 36, op := _, type := _, pos := _, after := _, guard := _ }) (v := .int .i64 (k : Nat)) rfl (by kernel_rfl) (by kernel_rfl) (by kernel_rfl) (fun _ _ _ h => h) (Or.inl ⟨by rfl, ?_⟩) ?_
            · intro W9 hSW
              (try dsimp only at hSW)
              go_simp
            try simp only [Act.put, List.setIfInBounds_toArray, List.set_cons_zero, List.set_cons_succ]
            refine late_take0 (i := 2) (oi := { dst := some 37, op := _, type := _, pos := _, after := _, guard := _ }) (v := .slice (some ⟨tb, 0, none⟩) n n) rfl (by kernel_rfl) (by kernel_rfl) (by kernel_rfl) (fun _ _ _ h => h) (Or.inl ⟨by rfl, ?_⟩) ?_
            · intro W9 hSW
              (try dsimp only at hSW)
              go_simp
            try simp only [Act.put, List.setIfInBounds_toArray, List.set_cons_zero, List.set_cons_succ]
            refine late_take0 (i := 3) (oi := { dst := some 38, op := _, type := _, pos := _, after := _, guard := _ }) (v := .int .i64 (k : Nat)) rfl (by kernel_rfl) (by kernel_rfl) (by kernel_rfl) (fun _ _ _ h => h) (Or.inl ⟨by rfl, ?_⟩) ?_
            · intro W9 hSW
              (try dsimp only at hSW)
              go_simp
            try simp only [Act.put, List.setIfInBounds_toArray, List.set_cons_zero, List.set_cons_succ]
            refine late_take0 (i := 4) (oi := { dst := some 39, op := _, type := _, pos := _, after := _, guard := _ }) (v := .pointer (some ⟨tb, k, none⟩)) rfl (by kernel_rfl) (by kernel_rfl) (by kernel_rfl) (fun _ _ _ h => h) (Or.inl ⟨by rfl, ?_⟩) ?_
            · intro W9 hSW
              (try dsimp only at hSW)
              go_simp
            try simp only [Act.put, List.setIfInBounds_toArray, List.set_cons_zero, List.set_cons_succ]
            refine late_take (i := 5) (oi := { dst := some 40, op := _, type := _, pos := _, after := _, guard := _ }) (v := .slice av i cv) rfl (by kernel_rfl) (by kernel_rfl) (by kernel_rfl) (by kernel_rfl) (fun _ _ _ h => h) (Or.inl ⟨by rfl, ?_⟩) hHeld ?_
            · intro W9 hSW
              (try dsimp only at hSW)
              obtain ⟨hS1, hS2, hS3⟩ := hSW
              go_simp
            try simp only [Act.put, List.setIfInBounds_toArray, List.set_cons_zero, List.set_cons_succ]
            refine late_take (i := 6) (oi := { dst := some 41, op := _, type := _, pos := _, after := _, guard := _ }) (v := .agg #[.bool L, .string (tx u)]) rfl (by kernel_rfl) (by kernel_rfl) (by kernel_rfl) (by kernel_rfl) (fun _ _ _ h => h) (Or.inl ⟨by rfl, ?_⟩) hHeld ?_
            · intro W9 hSW
              (try dsimp only at hSW)
              obtain ⟨hS1, hS2, hS3⟩ := hSW
              go_simp
            try simp only [Act.put, List.setIfInBounds_toArray, List.set_cons_zero, List.set_cons_succ]
            refine late_ready (rs := [7]) (by kernel_rfl) (by simp) ?_
            refine LateAll.cons (o := { dst := some 42, op := _, type := _, pos := _, after := _, guard := _ }) rfl (fun K hK => ?_) LateAll.nil
            go_simp
            refine (shape_any L u HLU.out.2.2 W0).mono ?_
            rintro e w3 ⟨kv, rfl, hok, hb3⟩
            have hk3 : Keeps (fun _ => False) W0 w3 := Keeps.of_new hb3
            have HI3 := Lib.hid (HI10.out.fresh hk3)
            have HBS3 := Lib.hid (HBS.out.keeps hk3 id)
            have HOK := Lib.hid hok
            have HK3 := Lib.hid hk3
            clear hok hb3 hk3
            refine hK.out _ _ (fun _ => ⟨HI3.out.cell, HBS3.out.at_ 0 _ rfl, HBS3.out.at_ 1 _ rfl⟩) ?_
            clear hK K
            try simp only [Act.put, List.setIfInBounds_toArray, List.set_cons_zero, List.set_cons_succ]
            refine late_ready (rs := [8]) (by kernel_rfl) (by simp) ?_
            refine LateAll.cons (o := { dst := some 43, op := _, type := _, pos := _, after := _, guard := _ }) rfl (fun K hK => ?_) LateAll.nil
            obtain ⟨akv, nkv, ckv, rfl⟩ : ∃ a n c, kv = .slice a n c := by
              obtain ⟨a, c, e⟩ := slice_of_own HOK.out
              exact ⟨a, _, c, e⟩
            go_simp
            have HI4 := Lib.hid (HI3.out.fresh ((Keeps.refl (fun _ : Nat => False) w3).alloc (.cells #[.bool L, .slice akv nkv ckv] 49)))
            have HBS4 := Lib.hid (HBS3.out.keeps ((Keeps.refl (fun _ : Nat => False) w3).alloc (.cells #[.bool L, .slice akv nkv ckv] 49)) id)
            have HK4 : Hid (Keeps (fun _ => False) w3 (w3.alloc (.cells #[.bool L, .slice akv nkv ckv] 49))) := Lib.hid ((Keeps.refl _ w3).alloc _)
            have hcn : ∀ (j : Nat) x, [Value.bool L, .slice akv nkv ckv][j]? = some x → (w3.alloc (.cells #[.bool L, .slice akv nkv ckv] 49)).cell? ⟨w3.heap.size, j, none⟩ = some x := fun j x hj => (cell_of_row _ _ _ _ _ _ (heap_alloc_new _ _)).trans (by simpa using hj)
            have hone : ∀ x ∈ [Value.bool L, .slice akv nkv ckv], x.oneCell' = true := by intro x hx; simp at hx; rcases hx with rfl | rfl <;> rfl
            have HO4 : Hid ((w3.alloc (.cells #[.bool L, .slice akv nkv ckv] 49)).ownsRow wk.heap.size 49 2 (.slice av i cv) i (row.flatMap rwC)) := Lib.hid (by have := HI4.out.rj.own; rwa [HCN.out] at this)
            have hsz : wk.heap.size ≤ (w3.alloc (.cells #[.bool L, .slice akv nkv ckv] 49)).heap.size := HI4.out.keep.size
            refine hK.out _ _ (fun _ => ⟨HI4.out.cell, HBS4.out.at_ 0 _ rfl, HBS4.out.at_ 1 _ rfl⟩) ?_
            clear hK K
            try simp only [Act.put, List.setIfInBounds_toArray, List.set_cons_zero, List.set_cons_succ]
            refine late_ready (rs := [9]) (by kernel_rfl) (by simp) ?_
            refine LateAll.cons (o := { dst := some 44, op := _, type := _, pos := _, after := _, guard := _ }) rfl (fun K hK => ?_) LateAll.nil
            refine step_append2 rfl (.tmp 40) (.tmp 43) 43 49 (.agg #[.bool false, .slice none 0 0]) 2 32 rfl Tryd.underlying43 info_shape rfl (by decide) (by decide) _ _ _ _ [.bool L, .slice akv nkv ckv] _ 1 HO4.out him6 rfl hcn hone hsz (by simp [Act.eval]) (by simp [Act.eval]) ?_
            intro ao9 c9 w9 ho9 hk9 hn9
            have hv9 := fun c (hc : (Value.slice av i cv).ownBlock = some c) => HI4.out.off c hc
            have HI9 : Hid (InJ wk (w9.setCell ⟨tb, k, none⟩ (.slice ao9 (i + 1) c9)) tb n k sds vs (.slice ao9 (i + 1) c9) (row ++ [(d.isSome, .slice akv nkv ckv, kindsI (d.getD []))]) (i + 1)) := Lib.hid (by
              refine InJ.step (HI10.out) HD.out HK3.out ?_ HK4.out ?_ hk9 hn9
              · rw [← HLU.out.2.1]; exact HOK.out
              · rw [HCN.out, ← HLU.out.1]; exact ho9)
            have htb9 : w9.cell? ⟨tb, k, none⟩ = some (.slice av i cv) ∧ w9.frozen? ⟨tb, k, none⟩ = false ∧ w9.cell? ⟨sb, 0, none⟩ = some (.bool L) ∧ w9.cell? ⟨sb, 1, none⟩ = some (.string (tx u)) := by
              have e1 : ¬ (Value.slice av i cv).ownBlock = some tb := fun e => by have := (hv9 tb e).1; have := HTK.out; omega
              have e2 : ¬ (Value.slice av i cv).ownBlock = some sb := fun e => by have := HSBW.out (sb) e; omega
              exact ⟨hk9.cell_of HI4.out.cell e1, (HI4.out.blk.keeps hk9 e1).free k, hk9.cell_of (HBS4.out.at_ 0 _ rfl) e2, hk9.cell_of (HBS4.out.at_ 1 _ rfl) e2⟩
            obtain ⟨t1, t2, t3, t4⟩ := htb9
            clear ho9 hk9 hn9 hv9 hcn hone hsz
            refine hK.out _ _ (fun _ => ⟨t1, t3, t4⟩) ?_
            clear hK K
            try simp only [Act.put, List.setIfInBounds_toArray, List.set_cons_zero, List.set_cons_succ]
            refine late_take0 (i := 10) (oi := { dst := some 45, op := _, type := _, pos := _, after := _, guard := _ }) (v := .pointer (some ⟨tb, k, none⟩)) rfl (by kernel_rfl) (by kernel_rfl) (by kernel_rfl) (fun _ _ _ h => h) (Or.inl ⟨by rfl, ?_⟩) ?_
            · intro W9 hSW
              (try dsimp only at hSW)
              go_simp
            try simp only [Act.put, List.setIfInBounds_toArray, List.set_cons_zero, List.set_cons_succ]
            refine late_ready (rs := [11]) (by kernel_rfl) (by simp) ?_
            refine LateAll.cons (o := { dst := none, op := _, type := _, pos := _, after := _, guard := _ }) rfl (fun K hK => ?_) LateAll.nil
            go_simp
            refine hK.out _ _ (fun h => absurd (show (11 : Nat) ∈ [11] by decide) h) ?_
            clear hK K
            refine late_done (by kernel_rfl) ?_ _
            go_wp2_with fail
            go_roundw
            case rel => exact ⟨i + 1, _, _, by omega, by go_num, HI9⟩
            case measure => simp [intOf]; omega
          · obtain rfl : i = m := by omega
            have HR : Hid (TolJ W2 wr tb n (k + 1) l (vs ++ [vk])) := Lib.hid (by
              have h := HI.out
              refine ⟨by rw [List.length_append, h.len]; rfl, ?_, fun j v hj => ?_, HJ.out.keep.trans h.keep⟩
              · have := h.blk
                rw [List.append_assoc]
                exact this
              · by_cases hjk : j < vs.length
                · rw [List.getElem?_append_left hjk] at hj
                  obtain ⟨s, q1, q2⟩ := HJ.out.each j v hj
                  exact ⟨s, q1, q2.keeps h.keep fun _ e => e⟩
                · have hj1 := (List.getElem?_eq_some_iff.1 hj).1
                  rw [List.length_append, List.length_singleton] at hj1
                  have hjk2 : j = k := by have := h.len; omega
                  rw [List.getElem?_append_right (by omega), h.len, hjk2, Nat.sub_self] at hj
                  simp at hj
                  subst hj
                  refine ⟨sds, by rw [hjk2]; exact HLK.out, ?_⟩
                  have e := h.rj.done (S := fun b => b = tb) (fun b e => by rw [e]; exact HTK.out)
                  rw [h.tell, List.take_of_length_le (by unfold shOf; rw [List.length_map, ← HM.out]; exact Nat.le_refl _)] at e
                  exact e)
            go_wp2_with fail
            go_roundw
            case rel => exact ⟨k + 1, _, by omega, by go_num, HR⟩
            case measure => simp [intOf]; omega
      · obtain rfl : k = n := by omega
        go_wp2_with fail
        go_ret2
        refine ⟨?_, HB1.out.trans (((HB2.out.mono fun _ _ e => e.elim).trans HJ.out.keep).below HB1.out.size fun c hc e => by have := HTB.out.1; have := HB1.out.size; omega)⟩
        rw [HA.out]
        refine ⟨_, rfl, _, k, k, rfl, by rw [List.length_map]; exact HN.out.2.symm, Nat.le_refl _, by unfold maxLen; omega, fun i ss hi => ?_⟩
        rw [List.getElem?_map] at hi
        obtain ⟨s, hs, rfl⟩ := Option.map_eq_some_iff.1 hi
        have hik : i < vs.length := by
          rw [HJ.out.len, ← HN.out.2]
          exact (List.getElem?_eq_some_iff.1 hs).1
        obtain ⟨s2, q1, q2⟩ := HJ.out.each i _ (List.getElem?_eq_getElem hik)
        rw [hs] at q1
        cases q1
        exact ⟨tb, 0, _, rfl, by rw [Nat.zero_add]; exact HJ.out.blk.at_ i _ (by rw [List.getElem?_append_left hik, List.getElem?_eq_getElem hik]), q2.mono fun _ e => e.elim⟩
end Go.Proofs.YtlfcfaceeloedaaDoor
